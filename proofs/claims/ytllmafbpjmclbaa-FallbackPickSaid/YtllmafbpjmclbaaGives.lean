/-
  What a call hands back: a slice that reads as a list, alone or beside numbers. Appending several elements. No condition.
-/
import Derived.Test.YtllmafbpjmclbaaMine
set_option linter.unusedVariables false
namespace Go.Proofs.Ytllmafbpjmclbaa
open Go.ChangeShapes Go.WideShapes Go.ChangeAt Go.RowKit

/-- no older block -/
def Fresh (B : Nat) (A : Option Addr) : Prop := ∀ a, A = some a → B ≤ a.block
def SliceV (q : IntKind) (w w' : World) (v : Value) (xs : List Int) : Prop :=
  ∃ A c, v = .slice A xs.length c ∧ (xs.length ≤ c ∧ Fresh w.heap.size A) ∧ Has w' w'.heap.size A (xs.map (Value.int q)) ∧ Below w.heap.size w w'
def SliceOf (q : IntKind) (w w' : World) (e : Ending) (xs : List Int) : Prop := ∃ v, e = .returned v ∧ SliceV q w w' v xs
def PairOf (q : IntKind) (w w' : World) (e : Ending) (xs : List Int) (code : Int) : Prop := ∃ v, e = .returned (.tuple #[v, .int .i64 code]) ∧ SliceV q w w' v xs
def TripleOf (q : IntKind) (w w' : World) (e : Ending) (x : List Int × Nat × Int) : Prop := ∃ v, e = .returned (.tuple #[v, .int .i64 x.2.1, .int .i64 x.2.2]) ∧ SliceV q w w' v x.1

theorem has_lit (w : World) (q : IntKind) (e : TypeId) (xs : List Int) : Has (w.alloc (.cells (xs.map (Value.int q)).toArray e)) (w.alloc (.cells (xs.map (Value.int q)).toArray e)).heap.size (some ⟨w.heap.size, 0, none⟩) (xs.map (Value.int q)) := fun _ => by
  refine ⟨w.heap.size, 0, rfl, by simp, fun j u hu => ?_⟩
  simp only [Nat.zero_add]
  simp at hu ⊢
  exact hu
theorem sliceV_lit (w : World) (q : IntKind) (e : TypeId) (xs : List Int) (cs : Array Value) (hcs : cs = (xs.map (Value.int q)).toArray) (n : Nat) (hn : n = xs.length) :
    SliceV q w (w.alloc (.cells cs e)) (.slice (some ⟨w.heap.size, 0, none⟩) n n) xs := by
  subst hcs; subst hn
  exact ⟨_, _, rfl, ⟨Nat.le_refl _, fun a ha => by injection ha with ha; subst ha; exact Nat.le_refl _⟩, has_lit w q e xs, (Below.refl _ _).alloc (Nat.le_refl _) _⟩
theorem sliceV_nil (q : IntKind) (w w' : World) (h : Below w.heap.size w w') : SliceV q w w' (.slice none 0 0) [] := ⟨none, 0, rfl, ⟨by simp, fun a ha => by cases ha⟩, Has.nil_, h⟩
theorem Mine.sliceV {q : IntKind} {e : TypeId} {w w' : World} {v : Value} {xs : List Int} (h : Mine q e w' w.heap.size v xs) (hb : Below w.heap.size w w') : SliceV q w w' v xs := by
  obtain ⟨A, c, hv, hh⟩ := h.reads
  unfold Mine at h
  rcases h.2 with ⟨hn, h0⟩ | ⟨g, cap, cur, hg, hB, _, hc, _⟩
  · refine ⟨A, c, hv, ⟨by omega, fun a ha => ?_⟩, hh, hb⟩
    rw [hn, ha] at hv
    cases hv
  · rw [hg] at hv
    injection hv with h1 h2 h3
    refine ⟨A, c, by rw [hg, h1, h3], ⟨by omega, fun a ha => ?_⟩, hh, hb⟩
    rw [← h1] at ha
    injection ha with ha
    rw [← ha]
    exact hB
theorem SliceV.trans {q : IntKind} {w w1 w2 : World} {v : Value} {xs : List Int} (h : SliceV q w1 w2 v xs) (hb : Below w.heap.size w w1) : SliceV q w w2 v xs := by
  obtain ⟨A, c, h1, h2, h3, h4⟩ := h
  exact ⟨A, c, h1, ⟨h2.1, fun a ha => Nat.le_trans hb.size (h2.2 a ha)⟩, h3, below_trans hb h4 hb.size⟩
theorem Mine.below {q : IntKind} {e : TypeId} {w w' : World} {B : Nat} {v : Value} {xs : List Int} (h : Mine q e w B v xs) (hb : Below w.heap.size w w') : Mine q e w' B v xs := by
  unfold Mine at *
  refine ⟨h.1, ?_⟩
  rcases h.2 with ⟨a, b⟩ | ⟨g, cap, cur, a, b, hg, r⟩
  · exact .inl ⟨a, b⟩
  · have hlt : g < w.heap.size := by
      rcases Nat.lt_or_ge g w.heap.size with h' | h'
      · exact h'
      · rw [Array.getElem?_eq_none h'] at hg; cases hg
    exact .inr ⟨g, cap, cur, a, b, by rw [hb.block g hlt]; exact hg, r⟩

/-- append of one element, and what it leaves as it was -/
theorem wpList_push_far {P : Program} {ops : Array Oper} {rest : List Oper} {o : Oper} {a : Act} {Q : Exit → Act → World → Prop} {k : IntKind} {e : TypeId} {bytes : Nat} (hgd : o.guard = none) (s x : Operand) (t : TypeId)
    (ho : o.op = .call { callee := .builtin .append, args := #[s, x], argTypes := #[t, t] })
    (ht : P.underlying t = some (.slice e)) (hi : (P.info? e).map (fun i => (i.zero, i.size, i.bytes)) = some (some (.int k 0), 1, bytes)) (hby : bytes ≤ 64)
    (B : Nat) (v : Value) (xs : List Int) (y : Int) (wr : World) (hown : Mine k e wr B v xs) (hs : a.eval s = v) (hx : a.eval x = .slice (some ⟨wr.heap.size, 0, none⟩) 1 1)
    (hB : B ≤ wr.heap.size) (hn : xs.length ≤ 1000000000)
    (h : ∀ v' w', Mine k e w' B v' (xs ++ [y]) → Below B wr w' → (∀ b, b < wr.heap.size → v.ownBlock ≠ some b → v'.ownBlock ≠ some b ∧ w'.heap[b]? = wr.heap[b]?) → wpList P ops Q rest (a.put o.dst v') w') : wpList P ops Q (o :: rest) a (wr.alloc (.cells #[.int k y] e)) := by
  obtain ⟨i0, hi', hz0, hz1, hz2⟩ := info_parts hi
  have hb : (xs.length + 1) * bytes ≤ 140737488355328 := by
    have : (xs.length + 1) * bytes ≤ 1000000001 * 64 := Nat.mul_le_mul (by omega) hby
    omega
  have hown' : (wr.alloc (.cells #[.int k y] e)).ownsRow B e 1 v xs.length (xs.map (Value.int k)) := World.ownsRow.alloc hown _
  refine wpList_append_lies (P := P) _ hgd s x t ho B e i0 (.int k 0) 1 bytes ht hi' hz0 hz1 hz2 rfl (by decide) v xs.length _ hs hown' ⟨wr.heap.size, 0, none⟩ 1 1 [.int k y] hx rfl (push_cell _ _ _) (by intro u hu; simp at hu; subst hu; rfl)
    (by omega) (by unfold maxLen; omega) hb (by simp; omega) _ rfl fun g cap w1 h1 hg hl _ => ?_
  obtain ⟨m1, m2⟩ := pushed hown (Below.refl B wr) hB h1 hg
  refine h _ w1 m1 m2 fun b hb' hne => ⟨?_, ?_⟩
  · intro e1
    have e2 : some g = some b := e1
    injection e2 with e2
    subst e2
    rcases hl with hl | hl
    · exact hne hl
    · simp at hl; omega
  · rw [hg.block b (by simp; omega) (fun e1 => hne e1.symm)]
    exact Below.heap_alloc _ _ _ hb'
/-- a slice in a block that stays as it is reads on -/
theorem Has.stays {w w' : World} {A : Option Addr} {xs : List Value} (h : Has w w.heap.size A xs) (hs : w.heap.size ≤ w'.heap.size) (hk : ∀ a, A = some a → a.block < w.heap.size → w'.heap[a.block]? = w.heap[a.block]?) : Has w' w'.heap.size A xs := fun hne => by
  obtain ⟨b, off, e, hl, hc⟩ := h hne
  exact ⟨b, off, e, by omega, fun j u hu => (World.cell?_of_block (a := ⟨b, off + j, none⟩) (hk ⟨b, off, none⟩ e hl)).trans (hc j u hu)⟩

theorem pushs_cell (w : World) (q : IntKind) (ys : List Int) (e : TypeId) : ∀ j u, (ys.map (Value.int q))[j]? = some u → (w.alloc (.cells (ys.map (Value.int q)).toArray e)).cell? ((⟨w.heap.size, 0, none⟩ : Addr).add j) = some u := by
  intro j u hj
  have := has_lit w q e ys
  obtain ⟨b, off, e1, _, hc⟩ := this (by intro h; rw [h] at hj; simp at hj)
  injection e1 with e1; injection e1 with e1 e2; subst e1; subst e2
  rw [add_plain]
  exact hc j u hj
/-- append of two elements to a slice of the call's own -/
theorem wpList_pushs {P : Program} {ops : Array Oper} {rest : List Oper} {o : Oper} {a : Act} {Q : Exit → Act → World → Prop} {k : IntKind} {e : TypeId} {bytes : Nat} (hgd : o.guard = none) (s x : Operand) (t : TypeId)
    (ho : o.op = .call { callee := .builtin .append, args := #[s, x], argTypes := #[t, t] })
    (ht : P.underlying t = some (.slice e)) (hi : (P.info? e).map (fun i => (i.zero, i.size, i.bytes)) = some (some (.int k 0), 1, bytes)) (hby : bytes ≤ 64)
    (B : Nat) (v : Value) (xs : List Int) (ys : List Int) (W0 wr : World) (cs : Array Value) (hcs : cs = (ys.map (Value.int k)).toArray) (hown : Mine k e wr B v xs) (hs : a.eval s = v) (n : Nat) (hys : n = ys.length) (hx : a.eval x = .slice (some ⟨wr.heap.size, 0, none⟩) n n)
    (hbl : Below B W0 wr) (hB : B ≤ wr.heap.size) (hn : xs.length ≤ 1000000000) (hm : ys.length ≤ 1000)
    (h : ∀ v' w', Mine k e w' B v' (xs ++ ys) → Below B W0 w' → wpList P ops Q rest (a.put o.dst v') w') : wpList P ops Q (o :: rest) a (wr.alloc (.cells cs e)) := by
  subst hcs; subst hys
  obtain ⟨i0, hi', hz0, hz1, hz2⟩ := info_parts hi
  have hb : (xs.length + ys.length) * bytes ≤ 140737488355328 := by
    have : (xs.length + ys.length) * bytes ≤ 1000001000 * 64 := Nat.mul_le_mul (by omega) hby
    omega
  have hown' : (wr.alloc (.cells (ys.map (Value.int k)).toArray e)).ownsRow B e 1 v xs.length (xs.map (Value.int k)) := World.ownsRow.alloc hown _
  refine wpList_append_own (P := P) _ hgd s x t ho B e i0 (.int k 0) 1 bytes ht hi' hz0 hz1 hz2 rfl (by decide) v xs.length _ hs hown' ⟨wr.heap.size, 0, none⟩ ys.length ys.length (ys.map (Value.int k)) hx (by simp) (pushs_cell _ _ _ _)
    (by intro u hu; rw [List.mem_map] at hu; obtain ⟨z, _, rfl⟩ := hu; rfl)
    (by unfold maxLen; omega) hb (by simp; omega) fun v' w1 h1 hg _ => ?_
  refine h v' w1 ?_ ((hbl.alloc hB _).grown hg (by simp; omega) fun j hj => (World.ownsRow.lt hown j hj).1)
  unfold Mine
  simpa using h1
end Go.Proofs.Ytllmafbpjmclbaa
