/-
  Bools of the call's own, made at once, and being set: 'HitS'. No condition but that there are at most 1000.
-/
import Derived.Test.YtekjejbcdnghjaaDoorZRow
set_option linter.unusedVariables false
set_option linter.unusedSimpArgs false
namespace Go.Proofs.YtekjejbcdnghjaaDoor
open Go.ChangeShapes Go.WideShapes Go.ChangeAt Go.RowKit

def LBo : Lay Bool := ⟨fun b => [.bool b], 1, fun _ => rfl, fun b u hu => by simp at hu; subst hu; rfl⟩
theorem fullB : (Tryd.prog.info? 4).map (fun i => (i.zero, i.size, i.bytes)) = some (some (.bool false), 1, 1) := by kernel_rfl
theorem run_bools (n : Nat) (hn : n ≤ 100000) (W : World) : (Instr.makeSlice 70 (.int .i64 (n : Int)) (.int .i64 (n : Int))).run Tryd.prog W = .ok (.slice (some ⟨W.heap.size, 0, none⟩) n n) (W.alloc (.cells (madeCells #[Value.bool false] n) 4)) := by
  obtain ⟨i, hi, hzz⟩ := Option.map_eq_some_iff.1 fullB
  simp only [Prod.mk.injEq] at hzz
  obtain ⟨hz, hs, hb⟩ := hzz
  have := run_make (P := Tryd.prog) W 70 4 i (.bool false) Tryd.underlying70 hi hz .i64 .i64 (n : Int) (n : Int) (by omega) (by omega) (by rw [hb]; omega) (by omega)
  rw [this, hs, Nat.mul_one]
  rfl
theorem cells_bools : ∀ l : List Bool, cellsN LBo l = l.map Value.bool
  | [] => rfl
  | b :: l => by rw [cellsN_cons, cells_bools l]; rfl
theorem mine_falses {w : World} {n : Nat} (hn : n ≤ 100000) : MineN LBo 4 (w.alloc (.cells (madeCells #[Value.bool false] n) 4)) w.heap.size (.slice (some ⟨w.heap.size, 0, none⟩) n n) (List.replicate n false) := by
  have e : (madeCells #[Value.bool false] n).toList = (List.replicate n false).map Value.bool := by
    unfold madeCells
    apply List.ext_getElem?
    intro i
    simp
    rcases Nat.lt_or_ge i n with h | h
    · simp [h, Nat.mod_one]
    · simp [Nat.not_lt.2 h]
  have hl : (madeCells #[Value.bool false] n).size = n := by simp [madeCells]
  refine ⟨length_cellsN _, .inr ⟨w.heap.size, n, _, by simp, Nat.le_refl _, heap_alloc_new w _, by simp, by unfold maxLen; omega, by rw [hl]; exact (Nat.mul_one n).symm, ?_⟩⟩
  rw [List.length_replicate, e, cells_bools]
  exact List.take_of_length_le (by simp [LBo])
theorem MineB.cell {e : TypeId} {w : World} {B g n c : Nat} {l : List Bool} (h : MineN LBo e w B (.slice (some ⟨g, 0, none⟩) n c) l) {i : Nat} (hi : i < l.length) : w.cell? ⟨g, i, none⟩ = some (.bool (l.getD i false)) ∧ w.frozen? ⟨g, i, none⟩ = false := by
  obtain ⟨g', c', hv, _, _, hlt, hc⟩ := h.form (fun e => by subst e; simp at hi)
  injection hv with hv1 hv2 hv3
  injection hv1 with hv1
  injection hv1 with hv1
  subst hv1
  have := hc i _ (List.getElem?_eq_getElem hi) 0 _ rfl
  have e1 : 0 + i * LBo.C + 0 = i := by show 0 + i * 1 + 0 = i; omega
  rw [e1] at this
  refine ⟨by rw [this]; simp [List.getD, List.getElem?_eq_getElem hi], ?_⟩
  rcases h.2 with ⟨hx, _⟩ | ⟨g2, cap, cur, hx, _, hg, _⟩
  · cases hx
  · injection hx with hx1 hx2 hx3
    injection hx1 with hx1
    injection hx1 with hx1
    subst hx1
    simp [World.frozen?, hg]
theorem MineB.set {e : TypeId} {w : World} {B g n c : Nat} {l : List Bool} {i : Nat} (h : MineN LBo e w B (.slice (some ⟨g, 0, none⟩) n c) l) (hi : i < l.length) (b : Bool) : MineN LBo e (w.setCell ⟨g, i, none⟩ (.bool b)) B (.slice (some ⟨g, 0, none⟩) n c) (l.set i b) := by
  refine ⟨length_cellsN _, ?_⟩
  rcases h.2 with ⟨a, _⟩ | ⟨g', cap, cur, a, hb, hg, hc, hm, hs, ht⟩
  · cases a
  · injection a with a1 a2 a3
    injection a1 with a1
    injection a1 with a1
    subst a1; subst a2; subst a3
    rw [List.length_set]
    refine .inr ⟨g, c, cur.setIfInBounds i (.bool b), rfl, hb, ?_, hc, hm, by simp [hs], ?_⟩
    · have hlt := (Array.getElem?_eq_some_iff.1 hg).1
      have h' : w.heap[g] = .cells cur e (0, 0) := by simpa [Array.getElem?_eq_getElem hlt] using hg
      show (w.heap.modify g _)[g]? = _
      rw [Array.getElem?_eq_getElem (by simpa using hlt), Array.getElem_modify_self, h']
      rfl
    · rw [Array.toList_setIfInBounds, List.take_set, ht, cells_bools, cells_bools, List.map_set]

/-- bools in block G, being set; all that lay there at w stays -/
structure HitS (G m : Nat) (w wr : World) (hs : List Bool) : Prop where
  own : MineN LBo 4 wr G (.slice (some ⟨G, 0, none⟩) m m) hs
  len : hs.length = m
  bel : Below w.heap.size w wr
  le : w.heap.size ≤ G
  lt : G < wr.heap.size
section
variable {G m : Nat} {w wr w' : World} {hs : List Bool}
theorem HitS.below (h : HitS G m w wr hs) (hb : Below wr.heap.size wr w') : HitS G m w w' hs :=
  ⟨h.own.stays fun b _ hlt => hb.block b hlt, h.len, h.bel.trans (hb.mono h.bel.size), h.le, Nat.lt_of_lt_of_le h.lt hb.size⟩
theorem HitS.store (h : HitS G m w wr hs) {i : Nat} (hi : i < m) (b : Bool) : HitS G m w (wr.setCell ⟨G, i, none⟩ (.bool b)) (hs.set i b) :=
  ⟨MineB.set h.own (by rw [h.len]; exact hi) b, by rw [List.length_set]; exact h.len, h.bel.setCell (p := ⟨G, i, none⟩) h.le _, h.le, by simp; exact h.lt⟩
theorem HitS.cell (h : HitS G m w wr hs) {i : Nat} (hi : i < m) : wr.cell? ⟨G, i, none⟩ = some (.bool (hs.getD i false)) ∧ wr.frozen? ⟨G, i, none⟩ = false := MineB.cell h.own (by rw [h.len]; exact hi)
theorem HitS.made {w : World} {n : Nat} (hn : n ≤ 100000) : HitS w.heap.size n w (w.alloc (.cells (madeCells #[Value.bool false] n) 4)) (List.replicate n false) :=
  ⟨mine_falses hn, by simp, (Below.refl _ _).alloc (Nat.le_refl _) _, Nat.le_refl _, by simp⟩
end
/-- which are set -/
def HitsOf (Q : Nat → Prop) (hs : List Bool) : Prop := ∀ i b, hs[i]? = some b → (b = true ↔ Q i)
theorem HitsOf.none_ {Q : Nat → Prop} (hQ : ∀ i, ¬ Q i) (n : Nat) : HitsOf Q (List.replicate n false) := fun i b h => by
  rw [List.getElem?_replicate] at h
  split at h
  · injection h with h; subst h
    exact ⟨fun e => (by cases e), fun e => absurd e (hQ i)⟩
  · cases h
theorem HitsOf.congr {Q Q' : Nat → Prop} {hs : List Bool} (h : HitsOf Q hs) (e : ∀ i, i < hs.length → (Q i ↔ Q' i)) : HitsOf Q' hs := fun i b hb => (h i b hb).trans (e i (List.getElem?_eq_some_iff.1 hb).1)
theorem HitsOf.set {Q : Nat → Prop} {hs : List Bool} (h : HitsOf Q hs) (j : Nat) : HitsOf (fun i => Q i ∨ i = j) (hs.set j true) := fun i b hb => by
  rw [List.getElem?_set] at hb
  split at hb
  · rename_i e
    subst e
    split at hb
    · injection hb with hb; subst hb
      exact ⟨fun _ => Or.inr rfl, fun _ => rfl⟩
    · cases hb
  · rename_i e
    rw [h i b hb]
    exact ⟨Or.inl, fun h => h.elim id fun e2 => absurd e2.symm e⟩
end Go.Proofs.YtekjejbcdnghjaaDoor
