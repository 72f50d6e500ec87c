/-
  Maps whose keys are integers and whose elements are pointers to whole blocks: 'MapP P k w b n f' says that block b is a map of at most n entries, with f's pointers at f's keys. No condition.
-/
import Derived.WalkKit
import Derived.ProofKit
import Derived.OpenShut
import Derived.Laws.OwnMore
import Derived.Maps.OwnSet
set_option linter.unusedVariables false
namespace Go.Proofs.YtekjejbcdnghjaaDoor
open Go.ChangeMaps Go.MapKept Go.WideShapes Go.ChangeShapes Go.ChangeAt Go.RowKit
open Go.Maps (Keyed IsMap Tidy)

/-- a pointer to a whole block, or none -/
def ptrV : Option Nat → Value
  | none => .pointer none
  | some b => .pointer (some ⟨b, 0, none⟩)
/-- what such an element reads as: the block's number -/
def ptrD : Option Nat → DataW Unit
  | none => .nil
  | some b => .lit (.int .i64 b)
def ptrR : Value → Option (DataW Unit × List MemPlace)
  | .pointer none => some (.nil, [])
  | .pointer (some ⟨b, 0, none⟩) => some (.lit (.int .i64 b), [])
  | _ => none
theorem ptrR_v (x : Option Nat) : ptrR (ptrV x) = some (ptrD x, []) := by cases x <;> rfl
theorem ptrR_inv {v : Value} {x : Option Nat} {ps : List MemPlace} (h : ptrR v = some (ptrD x, ps)) : v = ptrV x := by
  unfold ptrR at h
  split at h
  · cases x <;> simp [ptrD] at h; rfl
  · cases x <;> simp [ptrD] at h
    obtain ⟨h, _⟩ := h
    have h' := Int.ofNat.inj h
    subst h'
    rfl
  · cases h

/-- BLOCK b OF w IS A MAP OF AT MOST n ENTRIES WITH f's POINTERS AT f's KEYS (integers of kind q). -/
def MapP (P : Program) (k : TypeId) (q : IntKind) (w : World) (b n : Nat) (f : Int → Option Nat) : Prop :=
  ∃ D : DataW Unit, w.ownsMap P k ptrR b n D ∧ IsMap D ∧ ∀ a, (Lit.int q a).wf = true → D.atKey (.int q a) .nil = ptrD (f a) ∧ Maps.has D (.int q a) = (f a).isSome

section
variable {P : Program} {k : TypeId} {q : IntKind} {w w' : World} {b n : Nat} {f : Int → Option Nat}
theorem MapP.made (w : World) (P : Program) (k : TypeId) (q : IntKind) : MapP P k q (w.alloc (.map #[] 0)) w.heap.size 0 (fun _ => none) :=
  ⟨.map [], World.ownsMap_made w P k ptrR, ⟨[], rfl⟩, fun a _ => ⟨rfl, rfl⟩⟩
theorem MapP.lt (h : MapP P k q w b n f) : b < w.heap.size := by obtain ⟨D, h, _⟩ := h; exact h.lt
theorem MapP.mono (h : MapP P k q w b n f) {n' : Nat} (hn : n ≤ n') : MapP P k q w b n' f := by obtain ⟨D, h, r⟩ := h; exact ⟨D, h.mono hn, r⟩
theorem MapP.block (h : MapP P k q w b n f) (e : w'.heap[b]? = w.heap[b]?) : MapP P k q w' b n f := by
  obtain ⟨D, ⟨es, clock, hb, r1⟩, r⟩ := h
  exact ⟨D, ⟨es, clock, e.trans hb, r1⟩, r⟩
theorem MapP.kept {row : Option Nat} (h : MapP P k q w b n f) (hg : w.grownBy w' row) (hne : some b ≠ row) : MapP P k q w' b n f := h.block (hg.block b h.lt hne)
theorem MapP.alloc (h : MapP P k q w b n f) (o : Obj) : MapP P k q (w.alloc o) b n f := h.kept (World.grownBy_alloc w o none) (by simp)
theorem MapP.below {B : Nat} (h : MapP P k q w b n f) (hb : Below B w w') (hl : b < B) : MapP P k q w' b n f := h.block (hb.block b hl)
theorem MapP.is_map (h : MapP P k q w b n f) : ∃ es clock, w.heap[b]? = some (.map es clock) := by
  obtain ⟨D, ⟨es, clock, hb, _⟩, _⟩ := h
  exact ⟨es, clock, hb⟩

variable {t e : TypeId}
/-- 'm[x]' -/
theorem MapP.look (h : MapP P k q w b n f) (hk : P.underlying k = some (.int q)) (ht : P.underlying t = some (.map k e)) (hz : (zeroValue e).run P w = .ok (.pointer none) w) {a : Int} (ha : (Lit.int q a).wf = true) :
    (Instr.lookup t (.map (some b)) (.int q a) false).run P w = .ok (ptrV (f a)) w := by
  obtain ⟨D, h, hD, hf⟩ := h
  obtain ⟨v, ps, hrun, hv⟩ := h.lookup (Maps.int_keyed hk) ht hz (zd := .nil) (zp := []) rfl (Maps.keyOf_int_mk hk ha)
  rw [(hf a ha).1] at hv
  rw [hrun, ptrR_inv hv]
/-- 'm[x] = p' -/
theorem MapP.store (h : MapP P k q w b n f) (hk : P.underlying k = some (.int q)) (ht : P.underlying t = some (.map k e)) (hn : n < maxLen) {a : Int} (ha : (Lit.int q a).wf = true) (c : Nat) :
    ∃ w', (Instr.mapUpdate t (.map (some b)) (.int q a) (.pointer (some ⟨c, 0, none⟩))).run P w = .ok () w' ∧ MapP P k q w' b (n + 1) (fun x => if x = a then some c else f x) ∧ w.grownBy w' (some b) := by
  obtain ⟨D, h, hD, hf⟩ := h
  obtain ⟨w', hrun, h', hg⟩ := h.update (Maps.int_keyed hk) ht hn (Maps.keyOf_int_mk hk ha) (ptrR_v (some c))
  refine ⟨w', hrun, ⟨_, h', hD.put _ _, fun x hx => ?_⟩, hg⟩
  by_cases e : x = a
  · subst e
    show (D.put _ _).atKey _ _ = ptrD (if x = x then some c else f x) ∧ Maps.has (D.put _ _) _ = (if x = x then some c else f x).isSome
    rw [if_pos rfl]
    exact ⟨Maps.atKey_put_same hD ((Maps.int_keyed hk).key (Maps.keyOf_int_mk hk hx)) _ _, Maps.has_put_same hD ((Maps.int_keyed hk).key (Maps.keyOf_int_mk hk hx)) _⟩
  · show (D.put _ _).atKey _ _ = ptrD (if x = a then some c else f x) ∧ Maps.has (D.put _ _) _ = (if x = a then some c else f x).isSome
    rw [if_neg e, Maps.atKey_put_other (by intro e1; injection e1 with _ e2; exact e e2), Maps.has_put_other (by intro e1; injection e1 with _ e2; exact e e2)]
    exact hf x hx
end

section
variable {P : Program} (w : World) {ops : Array Oper} {rest : List Oper} {o : Oper} {a : Act} {Q : Exit → Act → World → Prop}

/-- 'm[x]' at the operation: '(at_lookup; refine wpList_lookup_ptr _ rfl _ _ T rfl K E q A.underlyingK A.underlyingT (zeroE _) b n f rfl hm x rfl hx ?_)'. -/
theorem wpList_lookup_ptr (hg : o.guard = none) (m x : Operand) (t : TypeId) (hop : o.op = Op.lookup t m x false)
    (k e : TypeId) (q : IntKind) (hk : P.underlying k = some (.int q)) (ht : P.underlying t = some (.map k e)) (hz : (zeroValue e).run P w = .ok (.pointer none) w) (b n : Nat) (f : Int → Option Nat)
    (hm : a.eval m = .map (some b)) (hown : MapP P k q w b n f) (i : Int) (hx : a.eval x = .int q i) (hi : (Lit.int q i).wf = true)
    (hK : wpList P ops Q rest (a.put o.dst (ptrV (f i))) w) : wpList P ops Q (o :: rest) a w := by
  refine wpList_plain hg fun K' hK' => ?_
  have hrun := hown.look hk ht hz hi
  unfold Oper.wp
  simp [execOp, hop, hm, hx, hrun, Result.andThen]
  exact hK' _ _ hK

/-- .. where there is a child; where there is none -/
theorem wpList_lookup_some (hg : o.guard = none) (m x : Operand) (t : TypeId) (hop : o.op = Op.lookup t m x false)
    (k e : TypeId) (q : IntKind) (hk : P.underlying k = some (.int q)) (ht : P.underlying t = some (.map k e)) (hz : (zeroValue e).run P w = .ok (.pointer none) w) (b n : Nat) (f : Int → Option Nat)
    (hm : a.eval m = .map (some b)) (hown : MapP P k q w b n f) (i : Int) (hx : a.eval x = .int q i) (hi : (Lit.int q i).wf = true) (c : Nat) (hf : f i = some c)
    (hK : wpList P ops Q rest (a.put o.dst (.pointer (some ⟨c, 0, none⟩))) w) : wpList P ops Q (o :: rest) a w :=
  wpList_lookup_ptr w hg m x t hop k e q hk ht hz b n f hm hown i hx hi (by rw [hf]; exact hK)
theorem wpList_lookup_none (hg : o.guard = none) (m x : Operand) (t : TypeId) (hop : o.op = Op.lookup t m x false)
    (k e : TypeId) (q : IntKind) (hk : P.underlying k = some (.int q)) (ht : P.underlying t = some (.map k e)) (hz : (zeroValue e).run P w = .ok (.pointer none) w) (b n : Nat) (f : Int → Option Nat)
    (hm : a.eval m = .map (some b)) (hown : MapP P k q w b n f) (i : Int) (hx : a.eval x = .int q i) (hi : (Lit.int q i).wf = true) (hf : f i = none)
    (hK : wpList P ops Q rest (a.put o.dst (.pointer none)) w) : wpList P ops Q (o :: rest) a w :=
  wpList_lookup_ptr w hg m x t hop k e q hk ht hz b n f hm hown i hx hi (by rw [hf]; exact hK)

/-- 'v, ok := m[x]' -/
theorem wpList_lookup_ptr_ok (hg : o.guard = none) (m x : Operand) (t : TypeId) (hop : o.op = Op.lookup t m x true)
    (k e : TypeId) (q : IntKind) (hk : P.underlying k = some (.int q)) (ht : P.underlying t = some (.map k e)) (hz : (zeroValue e).run P w = .ok (.pointer none) w) (b n : Nat) (f : Int → Option Nat)
    (hm : a.eval m = .map (some b)) (hown : MapP P k q w b n f) (i : Int) (hx : a.eval x = .int q i) (hi : (Lit.int q i).wf = true)
    (hK : wpList P ops Q rest (a.put o.dst (.tuple #[ptrV (f i), .bool (f i).isSome])) w) : wpList P ops Q (o :: rest) a w := by
  obtain ⟨D, h, hD, hf⟩ := hown
  refine wpList_lookup_own_ok w hg m x t hop k e (Maps.int_keyed hk) ht ptrR hz .nil [] rfl b n D hm h _ (.int q i) hx (Maps.keyOf_int_mk hk hi) fun v ps hv => ?_
  rw [(hf i hi).1] at hv
  rw [(hf i hi).2, ptrR_inv hv]
  exact hK

theorem wpList_lookup_some_ok (hg : o.guard = none) (m x : Operand) (t : TypeId) (hop : o.op = Op.lookup t m x true)
    (k e : TypeId) (q : IntKind) (hk : P.underlying k = some (.int q)) (ht : P.underlying t = some (.map k e)) (hz : (zeroValue e).run P w = .ok (.pointer none) w) (b n : Nat) (f : Int → Option Nat)
    (hm : a.eval m = .map (some b)) (hown : MapP P k q w b n f) (i : Int) (hx : a.eval x = .int q i) (hi : (Lit.int q i).wf = true) (c : Nat) (hf : f i = some c)
    (hK : wpList P ops Q rest (a.put o.dst (.tuple #[.pointer (some ⟨c, 0, none⟩), .bool true])) w) : wpList P ops Q (o :: rest) a w :=
  wpList_lookup_ptr_ok w hg m x t hop k e q hk ht hz b n f hm hown i hx hi (by rw [hf]; exact hK)
theorem wpList_lookup_none_ok (hg : o.guard = none) (m x : Operand) (t : TypeId) (hop : o.op = Op.lookup t m x true)
    (k e : TypeId) (q : IntKind) (hk : P.underlying k = some (.int q)) (ht : P.underlying t = some (.map k e)) (hz : (zeroValue e).run P w = .ok (.pointer none) w) (b n : Nat) (f : Int → Option Nat)
    (hm : a.eval m = .map (some b)) (hown : MapP P k q w b n f) (i : Int) (hx : a.eval x = .int q i) (hi : (Lit.int q i).wf = true) (hf : f i = none)
    (hK : wpList P ops Q rest (a.put o.dst (.tuple #[.pointer none, .bool false])) w) : wpList P ops Q (o :: rest) a w :=
  wpList_lookup_ptr_ok w hg m x t hop k e q hk ht hz b n f hm hown i hx hi (by rw [hf]; exact hK)

/-- 'm[x]' at a nil map -/
theorem wpList_lookup_nil (hg : o.guard = none) (m x : Operand) (t : TypeId) (hop : o.op = Op.lookup t m x false)
    (k e : TypeId) (q : IntKind) (hk : P.underlying k = some (.int q)) (ht : P.underlying t = some (.map k e)) (hz : (zeroValue e).run P w = .ok (.pointer none) w)
    (hm : a.eval m = .map none) (i : Int) (hx : a.eval x = .int q i) (hi : (Lit.int q i).wf = true)
    (hK : wpList P ops Q rest (a.put o.dst (.pointer none)) w) : wpList P ops Q (o :: rest) a w := by
  refine wpList_plain hg fun K' hK' => ?_
  have hrun := Maps.look_nil (w := w) false (Maps.int_keyed hk) ht hz (Maps.keyOf_int_mk hk hi)
  unfold Oper.wp
  simp [execOp, hop, hm, hx, hrun, Result.andThen]
  exact hK' _ _ hK

/-- 'v, ok := m[x]' at a nil map -/
theorem wpList_lookup_nil_ok (hg : o.guard = none) (m x : Operand) (t : TypeId) (hop : o.op = Op.lookup t m x true)
    (k e : TypeId) (q : IntKind) (hk : P.underlying k = some (.int q)) (ht : P.underlying t = some (.map k e)) (hz : (zeroValue e).run P w = .ok (.pointer none) w)
    (hm : a.eval m = .map none) (i : Int) (hx : a.eval x = .int q i) (hi : (Lit.int q i).wf = true)
    (hK : wpList P ops Q rest (a.put o.dst (.tuple #[.pointer none, .bool false])) w) : wpList P ops Q (o :: rest) a w := by
  refine wpList_plain hg fun K' hK' => ?_
  have hrun := Maps.look_nil (w := w) true (Maps.int_keyed hk) ht hz (Maps.keyOf_int_mk hk hi)
  unfold Oper.wp
  simp [execOp, hop, hm, hx, hrun, Result.andThen]
  exact hK' _ _ hK

/-- 'm[x] = p' -/
theorem wpList_store_ptr (hg : o.guard = none) (m x v : Operand) (t : TypeId) (hop : o.op = Op.mapUpdate t m x v)
    (k e : TypeId) (q : IntKind) (hk : P.underlying k = some (.int q)) (ht : P.underlying t = some (.map k e)) (b n : Nat) (f : Int → Option Nat)
    (hm : a.eval m = .map (some b)) (hown : MapP P k q w b n f) (hn : n < maxLen) (i : Int) (hx : a.eval x = .int q i) (hi : (Lit.int q i).wf = true) (c : Nat) (hv : a.eval v = .pointer (some ⟨c, 0, none⟩))
    (hK : ∀ w', MapP P k q w' b (n + 1) (fun x => if x = i then some c else f x) → w.grownBy w' (some b) → wpList P ops Q rest (a.put o.dst undef) w') : wpList P ops Q (o :: rest) a w := by
  refine wpList_plain hg fun K' hK' => ?_
  obtain ⟨w', hrun, r1, r2⟩ := hown.store hk ht hn hi c
  unfold Oper.wp
  simp [execOp, hop, hm, hx, hv, hrun, Result.andThen]
  exact hK' _ _ (hK w' r1 r2)
end
end Go.Proofs.YtekjejbcdnghjaaDoor
