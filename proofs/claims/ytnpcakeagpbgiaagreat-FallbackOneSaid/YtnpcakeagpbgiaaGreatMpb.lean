/-
  Maps whose keys are integers and whose elements are bools: 'MapB P k q w b n f' says that block b is a map of at most n entries that tells f's answer at every key. No condition.
-/
import Derived.WalkKit
import Derived.ProofKit
import Derived.OpenShut
import Derived.Laws.OwnMore
import Derived.Maps.OwnSet
set_option linter.unusedVariables false
namespace Go.Proofs.YtnpcakeagpbgiaaGreat
open Go.ChangeMaps Go.MapKept Go.WideShapes Go.ChangeShapes Go.ChangeAt Go.RowKit
open Go.Maps (Keyed IsMap Tidy)

def boolD (x : Bool) : DataW Unit := .lit (.bool x)
def boolR : Value → Option (DataW Unit × List MemPlace)
  | .bool x => some (boolD x, [])
  | _ => none
theorem boolR_inv {v : Value} {x : Bool} {ps : List MemPlace} (h : boolR v = some (boolD x, ps)) : v = .bool x := by
  unfold boolR at h
  split at h
  · simp [boolD] at h
    rw [h.1]
  · cases h
/-- BLOCK b OF w IS A MAP OF AT MOST n ENTRIES THAT TELLS f's ANSWERS (keys: integers of kind q). -/
def MapB (P : Program) (k : TypeId) (q : IntKind) (w : World) (b n : Nat) (f : Int → Bool) : Prop :=
  ∃ D : DataW Unit, w.ownsMap P k boolR b n D ∧ IsMap D ∧ ∀ a, (Lit.int q a).wf = true → D.atKey (.int q a) (boolD false) = boolD (f a)
section
variable {P : Program} {k : TypeId} {q : IntKind} {w w' : World} {b n : Nat} {f : Int → Bool}
theorem MapB.made (w : World) (P : Program) (k : TypeId) (q : IntKind) : MapB P k q (w.alloc (.map #[] 0)) w.heap.size 0 (fun _ => false) :=
  ⟨.map [], World.ownsMap_made w P k boolR, ⟨[], rfl⟩, fun a _ => rfl⟩
theorem MapB.lt (h : MapB P k q w b n f) : b < w.heap.size := by obtain ⟨D, h, _⟩ := h; exact h.lt
theorem MapB.block (h : MapB P k q w b n f) (e : w'.heap[b]? = w.heap[b]?) : MapB P k q w' b n f := by
  obtain ⟨D, ⟨es, clock, hb, r1⟩, r⟩ := h
  exact ⟨D, ⟨es, clock, e.trans hb, r1⟩, r⟩
theorem MapB.below {B : Nat} (h : MapB P k q w b n f) (hb : Below B w w') (hl : b < B) : MapB P k q w' b n f := h.block (hb.block b hl)
theorem MapB.ext {g : Int → Bool} (h : MapB P k q w b n f) (hg : ∀ x, f x = g x) : MapB P k q w b n g := by
  obtain ⟨D, h1, h2, h3⟩ := h
  exact ⟨D, h1, h2, fun a ha => by rw [h3 a ha, hg]⟩
variable {t e : TypeId}
theorem MapB.look (h : MapB P k q w b n f) (hk : P.underlying k = some (.int q)) (ht : P.underlying t = some (.map k e)) (hz : (zeroValue e).run P w = .ok (.bool false) w) {a : Int} (ha : (Lit.int q a).wf = true) :
    (Instr.lookup t (.map (some b)) (.int q a) false).run P w = .ok (.bool (f a)) w := by
  obtain ⟨D, h, hD, hf⟩ := h
  obtain ⟨v, ps, hrun, hv⟩ := h.lookup (Maps.int_keyed hk) ht hz (zd := boolD false) (zp := []) rfl (Maps.keyOf_int_mk hk ha)
  rw [hf a ha] at hv
  rw [hrun, boolR_inv hv]
theorem MapB.store (h : MapB P k q w b n f) (hk : P.underlying k = some (.int q)) (ht : P.underlying t = some (.map k e)) (hn : n < maxLen) {a : Int} (ha : (Lit.int q a).wf = true) (x : Bool) :
    ∃ w', (Instr.mapUpdate t (.map (some b)) (.int q a) (.bool x)).run P w = .ok () w' ∧ MapB P k q w' b (n + 1) (fun y => if y = a then x else f y) ∧ w.grownBy w' (some b) := by
  obtain ⟨D, h, hD, hf⟩ := h
  obtain ⟨w', hrun, h', hg⟩ := h.update (Maps.int_keyed hk) ht hn (Maps.keyOf_int_mk hk ha) (show boolR (.bool x) = some (boolD x, []) from rfl)
  refine ⟨w', hrun, ⟨_, h', hD.put _ _, fun y hy => ?_⟩, hg⟩
  by_cases e : y = a
  · subst e
    show (D.put _ _).atKey _ _ = boolD (if y = y then x else f y)
    rw [if_pos rfl]
    exact Maps.atKey_put_same hD ((Maps.int_keyed hk).key (Maps.keyOf_int_mk hk hy)) _ _
  · show (D.put _ _).atKey _ _ = boolD (if y = a then x else f y)
    rw [if_neg e, Maps.atKey_put_other (by intro e1; injection e1 with _ e2; exact e e2)]
    exact hf y hy
end
section
variable {P : Program} (w : World) {ops : Array Oper} {rest : List Oper} {o : Oper} {a : Act} {Q : Exit → Act → World → Prop}
/-- 'm[x]' at the operation -/
theorem wpList_lookup_bool (hg : o.guard = none) (m x : Operand) (t : TypeId) (hop : o.op = Op.lookup t m x false)
    (k e : TypeId) (q : IntKind) (hk : P.underlying k = some (.int q)) (ht : P.underlying t = some (.map k e)) (hz : (zeroValue e).run P w = .ok (.bool false) w) (b n : Nat) (f : Int → Bool)
    (hm : a.eval m = .map (some b)) (hown : MapB P k q w b n f) (i : Int) (hx : a.eval x = .int q i) (hi : (Lit.int q i).wf = true) (z : Bool) (hf : f i = z)
    (hK : wpList P ops Q rest (a.put o.dst (.bool z)) w) : wpList P ops Q (o :: rest) a w := by
  refine wpList_plain hg fun K' hK' => ?_
  have hrun := hown.look hk ht hz hi
  rw [hf] at hrun
  unfold Oper.wp
  simp [execOp, hop, hm, hx, hrun, Result.andThen]
  exact hK' _ _ hK
/-- 'm[x] = v' -/
theorem wpList_store_bool (hg : o.guard = none) (m x v : Operand) (t : TypeId) (hop : o.op = Op.mapUpdate t m x v)
    (k e : TypeId) (q : IntKind) (hk : P.underlying k = some (.int q)) (ht : P.underlying t = some (.map k e)) (b n : Nat) (f : Int → Bool)
    (hm : a.eval m = .map (some b)) (hown : MapB P k q w b n f) (hn : n < maxLen) (i : Int) (hx : a.eval x = .int q i) (hi : (Lit.int q i).wf = true) (z : Bool) (hv : a.eval v = .bool z)
    (hK : ∀ w', MapB P k q w' b (n + 1) (fun y => if y = i then z else f y) → w.grownBy w' (some b) → wpList P ops Q rest (a.put o.dst undef) w') : wpList P ops Q (o :: rest) a w := by
  refine wpList_plain hg fun K' hK' => ?_
  obtain ⟨w', hrun, r1, r2⟩ := hown.store hk ht hn hi z
  unfold Oper.wp
  simp [execOp, hop, hm, hx, hv, hrun, Result.andThen]
  exact hK' _ _ (hK w' r1 r2)
end
end Go.Proofs.YtnpcakeagpbgiaaGreat
