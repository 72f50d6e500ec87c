/-
  Slices of the call's own whose elements hold slices of the call's own, all apart: appending an element, growing an element's slice, storing into an element; and results that read as a list of sequences. No condition.
-/
import Derived.Test.YtjdkpnmejkbkiaaRow
import Derived.Test.YtjdkpnmejkbkiaaMch
import Derived.Test.YtjdkpnmejkbkiaaSqe
set_option linter.unusedVariables false
set_option linter.unusedSimpArgs false
namespace Go.Proofs.Ytjdkpnmejkbkiaa
open Go.ChangeShapes Go.WideShapes Go.ChangeAt Go.RowKit

section
variable {α : Type} {R : Lay α}
theorem cellsN_set : ∀ (l : List α) (i : Nat) (x y : α) (q : Nat) (u : Value), l[i]? = some x → q < R.C → R.row y = (R.row x).set q u → cellsN R (l.set i y) = (cellsN R l).set (i * R.C + q) u
  | [], _, _, _, _, _, h, _, _ => by simp at h
  | z :: l, 0, x, y, q, u, h, hq, hr => by
    simp at h; subst h
    rw [List.set_cons_zero, cellsN_cons, cellsN_cons, hr, Nat.zero_mul, Nat.zero_add, List.set_append_left _ _ (by rw [R.len]; exact hq)]
  | z :: l, i + 1, x, y, q, u, h, hq, hr => by
    rw [List.set_cons_succ, cellsN_cons, cellsN_cons, cellsN_set l i x y q u (by simpa using h) hq hr, List.set_append_right _ _ (by rw [R.len, Nat.succ_mul]; omega), R.len]
    congr 2
    rw [Nat.succ_mul]; omega
theorem MineN.set {e : TypeId} {w : World} {B g n c : Nat} {l : List α} {i q : Nat} {x y : α} {u : Value} (h : MineN R e w B (.slice (some ⟨g, 0, none⟩) n c) l) (hi : l[i]? = some x) (hq : q < R.C) (hr : R.row y = (R.row x).set q u) :
    MineN R e (w.setCell ⟨g, i * R.C + q, none⟩ u) B (.slice (some ⟨g, 0, none⟩) n c) (l.set i y) := by
  refine ⟨length_cellsN _, ?_⟩
  rcases h.2 with ⟨a, b⟩ | ⟨g', cap, cur, a, b, hg, hc, hm, hs, ht⟩
  · cases a
  · injection a with a1 a2 a3
    injection a1 with a1
    injection a1 with a1
    subst a1; subst a2; subst a3
    rw [List.length_set]
    refine .inr ⟨g, c, cur.setIfInBounds (i * R.C + q) u, rfl, b, ?_, hc, hm, by simp [hs], ?_⟩
    · have hlt := (Array.getElem?_eq_some_iff.1 hg).1
      have h' : w.heap[g] = .cells cur e (0, 0) := by simpa [Array.getElem?_eq_getElem hlt] using hg
      show (w.heap.modify g _)[g]? = _
      rw [Array.getElem?_eq_getElem (by simpa using hlt), Array.getElem_modify_self, h']
      rfl
    · rw [Array.toList_setIfInBounds, List.take_set, ht, cellsN_set l i x y q u hi hq hr]
theorem MineN.free {e : TypeId} {w : World} {B g n c : Nat} {l : List α} (h : MineN R e w B (.slice (some ⟨g, 0, none⟩) n c) l) (j : Nat) : w.frozen? ⟨g, j, none⟩ = false := by
  rcases h.2 with ⟨hx, _⟩ | ⟨g', cap, cur, hx, _, hg, _⟩
  · cases hx
  · injection hx with hx1 hx2 hx3
    injection hx1 with hx1
    injection hx1 with hx1
    subst hx1
    simp [World.frozen?, hg]
theorem MineN.cellAt {e : TypeId} {w : World} {B g n c : Nat} {l : List α} (h : MineN R e w B (.slice (some ⟨g, 0, none⟩) n c) l) {i q : Nat} {x : α} {u : Value} (hi : l[i]? = some x) (hq : (R.row x)[q]? = some u) : w.cell? ⟨g, i * R.C + q, none⟩ = some u := by
  obtain ⟨g', c', hv, _, _, _, hc⟩ := h.form (fun e => by subst e; simp at hi)
  injection hv with hv1 hv2 hv3
  injection hv1 with hv1
  injection hv1 with hv1
  subst hv1
  have := hc i x hi q u hq
  rwa [Nat.zero_add] at this
theorem MineN.below {e : TypeId} {w w' : World} {B : Nat} {v : Value} {l : List α} (h : MineN R e w B v l) (hb : Below w.heap.size w w') : MineN R e w' B v l := h.stays fun b _ hlt => hb.block b hlt
end

/-- what turns when a slice of the call's own is grown: its own block alone -/
def FarV (w w' : World) (v v' : Value) : Prop := ∀ b, b < w.heap.size → v.ownBlock ≠ some b → v'.ownBlock ≠ some b ∧ w'.heap[b]? = w.heap[b]?
theorem FarV.refl (w : World) (v : Value) : FarV w w v v := fun b _ h => ⟨h, rfl⟩
theorem FarV.trans {a b c : World} {u v x : Value} (h : FarV a b u v) (hs : a.heap.size ≤ b.heap.size) (k : FarV b c v x) : FarV a c u x := fun q hq hne => by
  obtain ⟨h1, h2⟩ := h q hq hne
  obtain ⟨k1, k2⟩ := k q (by omega) h1
  exact ⟨k1, k2.trans h2⟩
theorem FarV.up {a b : World} {v : Value} (h : Below a.heap.size a b) : FarV a b v v := fun q hq hne => ⟨hne, h.block q hq⟩
theorem FarV.apart {w w' : World} {v v' u : Value} (h : FarV w w' v v') (ha : Apart u v) (hu : ∀ b, u.ownBlock = some b → b < w.heap.size) : Apart u v' := fun b hb => (h b (hu b hb) (ha b hb)).1
theorem FarV.same {w w' : World} {v v' u : Value} (h : FarV w w' v v') (ha : Apart u v) : ∀ b, u.ownBlock = some b → b < w.heap.size → w'.heap[b]? = w.heap[b]? := fun b hb hlt => (h b hlt (ha b hb)).2

/-- elements of the call's own that hold slices of the call's own -/
structure Nest {α : Type} (R : Lay α) (e : TypeId) (sl : α → Value) (w : World) (B : Nat) (v : Value) (rows : List α) (ls : List (List Nat)) : Prop where
  own : MineN R e w B v rows
  len : rows.length = ls.length
  inn : ∀ (i : Nat) r l, rows[i]? = some r → ls[i]? = some l → Mine .i64 3 w B (sl r) (ints l)
  far : ∀ (i : Nat) r, rows[i]? = some r → Apart (sl r) v
  diff : ∀ (i j : Nat) r r', i ≠ j → rows[i]? = some r → rows[j]? = some r' → Apart (sl r) (sl r')
section
variable {α : Type} {R : Lay α} {e : TypeId} {sl : α → Value} {w w' : World} {B : Nat} {v v' : Value} {rows : List α} {ls : List (List Nat)}
theorem Nest.nil (e : TypeId) (w : World) (B : Nat) : Nest R e sl w B (.slice none 0 0) [] [] :=
  ⟨MineN.nil_ e w B, rfl, fun i r l h => by simp at h, fun i r h => by simp at h, fun i j r r' _ h => by simp at h⟩
theorem Nest.has (h : Nest R e sl w B v rows ls) {i : Nat} {r : α} (hi : rows[i]? = some r) : ∃ l, ls[i]? = some l ∧ Mine .i64 3 w B (sl r) (ints l) := by
  have hlt := (List.getElem?_eq_some_iff.1 hi).1
  rw [h.len] at hlt
  exact ⟨ls[i], List.getElem?_eq_getElem hlt, h.inn i r _ hi (List.getElem?_eq_getElem hlt)⟩
theorem Nest.at_ (h : Nest R e sl w B v rows ls) {i : Nat} (hi : i < ls.length) : ∃ r, rows[i]? = some r ∧ Mine .i64 3 w B (sl r) (ints ls[i]) := by
  have hlt : i < rows.length := by rw [h.len]; exact hi
  exact ⟨rows[i], List.getElem?_eq_getElem hlt, h.inn i _ _ (List.getElem?_eq_getElem hlt) (List.getElem?_eq_getElem hi)⟩
theorem Nest.lt (h : Nest R e sl w B v rows ls) {i : Nat} {r : α} (hi : rows[i]? = some r) (b : Nat) (hb : (sl r).ownBlock = some b) : B ≤ b ∧ b < w.heap.size := by
  obtain ⟨l, _, hm⟩ := h.has hi
  exact hm.own_lt b hb
/-- all its blocks stay as they are -/
theorem Nest.stays (h : Nest R e sl w B v rows ls) (hk : ∀ b, (v.ownBlock = some b ∨ ∃ (i : Nat) (r : α), rows[i]? = some r ∧ (sl r).ownBlock = some b) → b < w.heap.size → w'.heap[b]? = w.heap[b]?) : Nest R e sl w' B v rows ls :=
  ⟨h.own.stays fun b hb hlt => hk b (.inl hb) hlt, h.len, fun i r l hi hl => (h.inn i r l hi hl).stays fun b hb hlt => hk b (.inr ⟨i, r, hi, hb⟩) hlt, h.far, h.diff⟩
theorem Nest.below (h : Nest R e sl w B v rows ls) (hb : Below w.heap.size w w') : Nest R e sl w' B v rows ls := h.stays fun b _ hlt => hb.block b hlt
/-- it lies apart from another slice -/
def ApartN (sl : α → Value) (u v : Value) (rows : List α) : Prop := Apart u v ∧ ∀ (i : Nat) r, rows[i]? = some r → Apart u (sl r)
theorem Nest.other (h : Nest R e sl w B v rows ls) {u u' : Value} (hf : FarV w w' u u') (ha : ApartN sl u v rows) : Nest R e sl w' B v rows ls ∧ ApartN sl u' v rows := by
  have key : ∀ x : Value, Apart u x → (∀ b, x.ownBlock = some b → b < w.heap.size) → Apart u' x := fun x hx hlt => (hf.apart hx.symm hlt).symm
  refine ⟨h.stays fun b hb hlt => ?_, key v ha.1 fun b hb => (h.own.own_lt b hb).2, fun i r hi => key _ (ha.2 i r hi) fun b hb => (h.lt hi b hb).2⟩
  rcases hb with hb | ⟨i, r, hi, hb⟩
  · exact hf.same ha.1.symm b hb hlt
  · exact hf.same (ha.2 i r hi).symm b hb hlt
/-- an element is appended -/
theorem Nest.push {y : α} {l : List Nat} (h : Nest R e sl w B v rows ls) (hM : MineN R e w' B v' (rows ++ [y])) (hf : FarV w w' v v') (hy : Mine .i64 3 w B (sl y) (ints l)) (hyv : Apart (sl y) v) (hyr : ∀ (i : Nat) r, rows[i]? = some r → Apart (sl y) (sl r)) :
    Nest R e sl w' B v' (rows ++ [y]) (ls ++ [l]) := by
  have hcase : ∀ (i : Nat) r, (rows ++ [y])[i]? = some r → rows[i]? = some r ∨ (i = rows.length ∧ r = y) := fun i r hi => by
    rcases Nat.lt_or_ge i rows.length with h1 | h1
    · rw [List.getElem?_append_left h1] at hi; exact .inl hi
    · rw [List.getElem?_append_right h1] at hi
      have : i - rows.length = 0 := by
        rcases Nat.eq_zero_or_pos (i - rows.length) with h2 | h2
        · exact h2
        · rw [List.getElem?_eq_none (by simp; omega)] at hi; cases hi
      rw [this] at hi
      simp at hi
      exact .inr ⟨by omega, hi.symm⟩
  refine ⟨hM, by simp [h.len], fun i r l' hi hl => ?_, fun i r hi => ?_, fun i j r r' hij hi hj => ?_⟩
  · rcases hcase i r hi with h1 | ⟨rfl, rfl⟩
    · have hlt := (List.getElem?_eq_some_iff.1 h1).1
      rw [List.getElem?_append_left (by rw [← h.len]; exact hlt)] at hl
      exact (h.inn i r l' h1 hl).stays (hf.same (h.far i r h1))
    · rw [h.len, List.getElem?_append_right (Nat.le_refl _), Nat.sub_self] at hl
      simp at hl
      subst hl
      exact hy.stays (hf.same hyv)
  · rcases hcase i r hi with h1 | ⟨rfl, rfl⟩
    · exact hf.apart (h.far i r h1) fun b hb => (h.lt h1 b hb).2
    · exact hf.apart hyv fun b hb => (hy.own_lt b hb).2
  · rcases hcase i r hi with h1 | ⟨h1, rfl⟩
    · rcases hcase j r' hj with h2 | ⟨h2, rfl⟩
      · exact h.diff i j r r' hij h1 h2
      · exact (hyr i r h1).symm
    · rcases hcase j r' hj with h2 | ⟨h2, rfl⟩
      · exact hyr j r' h2
      · omega
/-- an element is replaced; its slice has been grown before -/
theorem Nest.turn {i : Nat} {r r' : α} {l' : List Nat} {w1 : World} (h : Nest R e sl w B v rows ls) (hi : rows[i]? = some r) (hf : FarV w w1 (sl r) (sl r')) (hI : Mine .i64 3 w1 B (sl r') (ints l'))
    (hM : MineN R e w' B v (rows.set i r')) (hs : w1.heap.size ≤ w'.heap.size) (hk : ∀ b, v.ownBlock ≠ some b → w'.heap[b]? = w1.heap[b]?) : Nest R e sl w' B v (rows.set i r') (ls.set i l') := by
  have hlt := (List.getElem?_eq_some_iff.1 hi).1
  have hv : Apart (sl r') v := (hf.apart (h.far i r hi).symm fun b hb => (h.own.own_lt b hb).2).symm
  have hcase : ∀ (j : Nat) x, (rows.set i r')[j]? = some x → (j = i ∧ x = r') ∨ (j ≠ i ∧ rows[j]? = some x) := fun j x hj => by
    rw [List.getElem?_set] at hj
    split at hj
    · rename_i e
      subst e
      simp [hlt] at hj
      exact .inl ⟨rfl, hj.symm⟩
    · rename_i e
      exact .inr ⟨fun e' => e e'.symm, hj⟩
  have hnew : ∀ (j : Nat) x, j ≠ i → rows[j]? = some x → Apart (sl r') (sl x) := fun j x hji hj =>
    (hf.apart (h.diff j i x r hji hj hi) fun b hb => (h.lt hj b hb).2).symm
  refine ⟨hM, by simp [h.len], fun j x l hj hl => ?_, fun j x hj => ?_, fun j k x y hjk hj hk' => ?_⟩
  · rcases hcase j x hj with ⟨rfl, rfl⟩ | ⟨hji, h1⟩
    · rw [List.getElem?_set_self (by rw [← h.len]; exact hlt)] at hl
      injection hl with hl
      subst hl
      exact hI.stays fun b hb hlt => hk b (fun e => hv b hb e)
    · rw [List.getElem?_set_ne (fun e => hji e.symm)] at hl
      have h2 := h.inn j x l h1 hl
      refine h2.stays fun b hb hb2 => ?_
      rw [hk b (fun e => h.far j x h1 b hb e)]
      exact hf.same (h.diff j i x r hji h1 hi) b hb hb2
  · rcases hcase j x hj with ⟨rfl, rfl⟩ | ⟨hji, h1⟩
    · exact hv
    · exact h.far j x h1
  · rcases hcase j x hj with ⟨rfl, rfl⟩ | ⟨hji, h1⟩
    · rcases hcase k y hk' with ⟨rfl, rfl⟩ | ⟨hki, h2⟩
      · exact absurd rfl hjk
      · exact hnew k y hki h2
    · rcases hcase k y hk' with ⟨rfl, rfl⟩ | ⟨hki, h2⟩
      · exact (hnew j x hji h1).symm
      · exact h.diff j k x y hjk h1 h2
end

/-- a sequence in memory: its places as a slice, and three numbers -/
structure SqR where
  A : Option Addr
  n : Nat
  c : Nat
  lv : Int
  sos : Int
  eos : Int
def SqR.sl (r : SqR) : Value := .slice r.A r.n r.c
def LQ : Lay SqR := ⟨fun r => [.slice r.A r.n r.c, .int .i64 r.lv, .int .i64 r.sos, .int .i64 r.eos], 4, fun _ => rfl, fun r u hu => by simp at hu; rcases hu with rfl | rfl | rfl | rfl <;> rfl⟩
/-- a slice in memory -/
structure Rsl where
  A : Option Addr
  n : Nat
  c : Nat
def Rsl.sl (r : Rsl) : Value := .slice r.A r.n r.c
def LSl : Lay Rsl := ⟨fun r => [.slice r.A r.n r.c], 1, fun _ => rfl, fun r u hu => by simp at hu; subst hu; rfl⟩
/-- from one place to another -/
def LCu : Lay (Int × Int) := ⟨fun p => [.int .i64 p.1, .int .i64 p.2], 2, fun _ => rfl, fun r u hu => by simp at hu; rcases hu with rfl | rfl <;> rfl⟩

/-- reads as a list of sequences -/
def ReadsQ (w : World) (v : Value) (l : List Sq) : Prop :=
  ∃ (A : Option Addr) (c : Nat) (rows : List SqR), v = .slice A l.length c ∧ HasN LQ w w.heap.size A rows ∧ rows.length = l.length ∧
    ∀ (i : Nat) r x, rows[i]? = some r → l[i]? = some x → r.n = x.pl.length ∧ r.n ≤ r.c ∧ Has w w.heap.size r.A ((ints x.pl).map (Value.int .i64)) ∧ r.lv = x.lv ∧ r.sos = x.sos ∧ r.eos = x.eos
theorem ReadsQ.carry {w w' : World} {v : Value} {l : List Sq} (h : ReadsQ w v l) (hb : Below w.heap.size w w') : ReadsQ w' v l := by
  obtain ⟨A, c, rows, h1, h2, h3, h4⟩ := h
  exact ⟨A, c, rows, h1, h2.carry hb, h3, fun i r x hi hx => by obtain ⟨k1, k2, k3, k4⟩ := h4 i r x hi hx; exact ⟨k1, k2, k3.carry hb, k4⟩⟩
end Go.Proofs.Ytjdkpnmejkbkiaa
