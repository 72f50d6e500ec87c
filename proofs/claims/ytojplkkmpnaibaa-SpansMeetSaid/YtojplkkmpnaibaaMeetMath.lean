/-
  Plain mathematics of Meet: the two lists step by step. No condition.
-/
import Derived.Test.YtojplkkmpnaibaaMath
set_option linter.unusedVariables false
namespace Go.Proofs.Ytojplkkmpnaibaa

/-- what is left of the spans of xs where m places are done: the first of them reaches beyond m -/
def Tail (xs : List Int) (m : Nat) (l : List Sp) : Prop := ∃ s : Nat, s ≤ m ∧ m ≤ xs.length ∧ Parts l (xs.drop s) s ∧ ∀ p ∈ l.head?, (m : Int) < p.t
theorem tail_start (xs : List Int) : Tail xs 0 (of xs) := ⟨0, Nat.le_refl _, Nat.zero_le _, by simpa using parts_of xs, fun p hp => by
  have := (parts_of xs).bounds p (List.mem_of_mem_head? hp)
  omega⟩
theorem Tail.nil {xs : List Int} {m : Nat} (h : Tail xs m []) : m = xs.length := by
  obtain ⟨s, h1, h2, h3, _⟩ := h
  have h3 : xs.drop s = [] := h3
  have := List.drop_eq_nil_iff.1 h3
  omega
theorem Tail.head {xs : List Int} {m : Nat} {p : Sp} {l : List Sp} (h : Tail xs m (p :: l)) : (m : Int) < p.t ∧ p.t ≤ xs.length := by
  obtain ⟨s, h1, h2, h3, h4⟩ := h
  have := h3.bounds p (by simp)
  have h5 := h4 p (by simp)
  rw [List.length_drop] at this
  omega
/-- up to 'to', within the first span -/
theorem Tail.take {xs : List Int} {m : Nat} {p : Sp} {l : List Sp} (h : Tail xs m (p :: l)) (to : Nat) (h1 : m ≤ to) (h2 : (to : Int) ≤ p.t) : xs.take to = xs.take m ++ List.replicate (to - m) p.v := by
  obtain ⟨s, hs, hm, ⟨k, ys, hk, e1, e2, e3, hp⟩, h4⟩ := h
  have hks : to ≤ s + k := by omega
  have hx : xs = xs.take s ++ (List.replicate k p.v ++ ys) := by rw [← e3, List.take_append_drop]
  have hsl : (xs.take s).length = s := by rw [List.length_take]; omega
  have ht : ∀ q : Nat, s ≤ q → q ≤ s + k → xs.take q = xs.take s ++ List.replicate (q - s) p.v := fun q hq1 hq2 => by
    have hq : xs.take q = (xs.take s ++ (List.replicate k p.v ++ ys)).take q := by rw [← hx]
    rw [hq, List.take_append, hsl, List.take_of_length_le (by omega), List.take_append_of_le_length (by simp; omega), List.take_replicate, Nat.min_eq_left (by omega)]
  rw [ht to (by omega) (by omega), ht m (by omega) (by omega), List.append_assoc, List.replicate_append_replicate]
  congr 2
  omega
theorem Tail.pop {xs : List Int} {m : Nat} {p : Sp} {l : List Sp} (h : Tail xs m (p :: l)) (to : Nat) (h1 : m ≤ to) (h2 : (to : Int) = p.t) : Tail xs to l := by
  obtain ⟨s, hs, hm, ⟨k, ys, hk, e1, e2, e3, hp⟩, h4⟩ := h
  have hks : to = s + k := by omega
  have hl := congrArg List.length e3
  simp at hl
  refine ⟨s + k, by omega, by omega, ?_, fun q hq => ?_⟩
  · rw [← List.drop_drop, e3, List.drop_append_of_le_length (by simp), List.drop_of_length_le (by simp)]
    simpa using hp
  · have := hp.bounds q (List.mem_of_mem_head? hq)
    omega
theorem Tail.stay {xs : List Int} {m : Nat} {p : Sp} {l : List Sp} (h : Tail xs m (p :: l)) (to : Nat) (h1 : m ≤ to) (h2 : (to : Int) < p.t) : Tail xs to (p :: l) := by
  have hh := h.head
  obtain ⟨s, hs, hm, hp, h4⟩ := h
  exact ⟨s, by omega, by omega, hp, fun q hq => by simp at hq; subst hq; exact h2⟩

def meetK (f : Int → Int → Int) (xs ys : List Int) (m : Nat) : List Int := List.zipWith f (xs.take m) (ys.take m)
theorem meetK_zero (f : Int → Int → Int) (xs ys : List Int) : meetK f xs ys 0 = [] := by simp [meetK]
theorem meetK_length (f : Int → Int → Int) (xs ys : List Int) (m : Nat) (h1 : m ≤ xs.length) (h2 : m ≤ ys.length) : (meetK f xs ys m).length = m := by simp [meetK]; omega
theorem meet_step (f : Int → Int → Int) {xs ys : List Int} {m : Nat} {p q : Sp} {l r : List Sp} (h1 : Tail xs m (p :: l)) (h2 : Tail ys m (q :: r)) (to : Nat) (h : m ≤ to) (hp : (to : Int) ≤ p.t) (hq : (to : Int) ≤ q.t) :
    ext (of (meetK f xs ys m)) to (f p.v q.v) = of (meetK f xs ys to) := by
  have a1 : m ≤ xs.length := by obtain ⟨s, _, hm, _⟩ := h1; exact hm
  have a2 : m ≤ ys.length := by obtain ⟨s, _, hm, _⟩ := h2; exact hm
  rw [ext_of, meetK_length _ _ _ _ a1 a2]
  congr 1
  unfold meetK
  rw [h1.take to h hp, h2.take to h hq, List.zipWith_append (by simp; omega)]
  congr 1
  rw [show ((to : Int) - m).toNat = to - m by omega]
  simp
theorem meet_end (f : Int → Int → Int) {xs ys : List Int} {m : Nat} (h : m = xs.length ∨ m = ys.length) (h1 : m ≤ xs.length) (h2 : m ≤ ys.length) : meetK f xs ys m = List.zipWith f xs ys := by
  unfold meetK
  apply List.ext_getElem
  · simp; omega
  · intro i h1 h2
    simp
theorem Tail.le {xs : List Int} {m : Nat} {l : List Sp} (h : Tail xs m l) : m ≤ xs.length := by obtain ⟨s, _, hm, _⟩ := h; exact hm
end Go.Proofs.Ytojplkkmpnaibaa
