/-
  Contracts of At (both) and of Whole (both): any spans. No condition but the length.
-/
import Derived.Test.YtllmafbpjmclbaaSps
set_option linter.unusedVariables false
namespace Go.Proofs.Ytllmafbpjmclbaa.S5
open Go.ChangeShapes Go.WideShapes Go.ChangeAt Go.RowKit

def atP : List Sp → Int → Int
  | [], _ => 0
  | s :: l, i => if s.f ≤ i ∧ i < s.t then s.v else atP l i
theorem atP_drop (l : List Sp) (k : Nat) (i : Int) (h : k < l.length) : atP (l.drop k) i = if l[k].f ≤ i ∧ i < l[k].t then l[k].v else atP (l.drop (k + 1)) i := by
  rw [List.drop_eq_getElem_cons h]; rfl

/-- the span at k is as it must be in a whole list -/
def okAt (l : List Sp) (k : Nat) : Prop := ∃ s, l[k]? = some s ∧ s.f = endS (l.take k) ∧ s.f < s.t ∧ ∀ p, 0 < k → l[k - 1]? = some p → s.v ≠ p.v
def WholeP (l : List Sp) (n : Int) : Prop := (∀ k, k < l.length → okAt l k) ∧ endS l = n
noncomputable def wholeB (l : List Sp) (n : Int) : Bool := @decide (WholeP l n) (Classical.propDecidable _)
theorem wholeB_true (l : List Sp) (n : Int) (h : WholeP l n) : wholeB l n = true := by unfold wholeB; simp [h]
theorem wholeB_false (l : List Sp) (n : Int) (h : ¬ WholeP l n) : wholeB l n = false := by unfold wholeB; simp [h]
theorem endS_take (l : List Sp) (k : Nat) (h : k < l.length) : endS (l.take (k + 1)) = l[k].t := by
  rw [List.take_add_one, List.getElem?_eq_getElem h]
  exact endS_snoc _ _
theorem bad_at (l : List Sp) (n : Int) (k : Nat) (h : k < l.length) (hb : ¬ (l[k].f = endS (l.take k) ∧ l[k].f < l[k].t)) : wholeB l n = false :=
  wholeB_false _ _ fun hw => by
    obtain ⟨s, hs, h1, h2, _⟩ := hw.1 k h
    rw [List.getElem?_eq_getElem h] at hs
    injection hs with hs
    subst hs
    exact hb ⟨h1, h2⟩
theorem bad_val (l : List Sp) (n : Int) (k : Nat) (h : k + 1 < l.length) (hb : l[k + 1].v = l[k].v) : wholeB l n = false :=
  wholeB_false _ _ fun hw => by
    obtain ⟨s, hs, _, _, h3⟩ := hw.1 (k + 1) h
    rw [List.getElem?_eq_getElem h] at hs
    injection hs with hs
    subst hs
    exact h3 _ (by omega) (by rw [show k + 1 - 1 = k by omega]; exact List.getElem?_eq_getElem (by omega)) hb
/-- all spans before k are as they must be -/
def Ok (l : List Sp) (k : Nat) : Prop := ∀ j, j < k → okAt l j
theorem Ok.succ0 {l : List Sp} (h0 : 0 < l.length) (h1 : l[0].f = 0) (h2 : l[0].f < l[0].t) : Ok l 1 := fun j hj => by
  obtain rfl : j = 0 := by omega
  exact ⟨_, List.getElem?_eq_getElem h0, by rw [h1]; rfl, h2, fun p hp => absurd hp (by omega)⟩
theorem Ok.succ {l : List Sp} {k : Nat} (h : Ok l (k + 1)) (h0 : k + 1 < l.length) (h1 : l[k + 1].f = endS (l.take (k + 1))) (h2 : l[k + 1].f < l[k + 1].t) (h3 : l[k + 1].v ≠ l[k].v) : Ok l (k + 1 + 1) := fun j hj => by
  rcases Nat.lt_or_ge j (k + 1) with hj' | hj'
  · exact h j hj'
  obtain rfl : j = k + 1 := by omega
  refine ⟨_, List.getElem?_eq_getElem h0, h1, h2, fun p _ hp => ?_⟩
  rw [show k + 1 - 1 = k by omega, List.getElem?_eq_getElem (by omega)] at hp
  injection hp with hp
  rw [← hp]
  exact h3
theorem Ok.end_ {l : List Sp} {k : Nat} (h : Ok l k) (hk : l.length ≤ k) (n : Int) : wholeB l n = decide (endS l = n) := by
  unfold wholeB WholeP
  by_cases he : endS l = n
  · rw [decide_eq_true he]
    simp only [decide_eq_true_eq]
    exact ⟨fun j hj => h j (by omega), he⟩
  · rw [decide_eq_false he]
    simp [he]
theorem WholeP.nonneg {l : List Sp} {n : Int} (h : WholeP l n) : 0 ≤ n := by
  obtain ⟨h1, h2⟩ := h
  have hall : ∀ k, k ≤ l.length → 0 ≤ endS (l.take k) := by
    intro k
    induction k with
    | zero => intro _; simp [endS]
    | succ k ih =>
      intro hk
      obtain ⟨s, hs, e1, e2, _⟩ := h1 k (by omega)
      rw [endS_take _ _ (by omega)]
      rw [List.getElem?_eq_getElem (by omega)] at hs
      injection hs with hs
      rw [hs]
      have := ih (by omega)
      omega
  have := hall l.length (Nat.le_refl _)
  rw [List.take_length] at this
  omega


end Go.Proofs.Ytllmafbpjmclbaa.S5
