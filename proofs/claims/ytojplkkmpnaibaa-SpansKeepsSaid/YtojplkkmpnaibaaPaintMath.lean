/-
  Plain mathematics of Norm: cells, the cells that are passed over, what is painted. No condition.
-/
import Derived.Test.YtojplkkmpnaibaaVals
set_option linter.unusedVariables false
namespace Go.Proofs.Ytojplkkmpnaibaa

def covers (p : Sp) (x : Int) : Bool := decide (p.f ≤ x ∧ x < p.t)
def cov (l : List Sp) (x : Int) : Bool := l.any (covers · x)
theorem foldl_cov (x : Int) : ∀ (l : List Sp) (v : Int), l.foldl (fun v s => if s.f ≤ x ∧ x < s.t then s.v else v) v = if cov l x then lastVal l x else v
  | [], v => by simp [cov]
  | p :: l, v => by
    have h1 := foldl_cov x l
    unfold lastVal
    simp only [List.foldl_cons]
    rw [h1, h1 (if p.f ≤ x ∧ x < p.t then p.v else 0)]
    by_cases hc : cov l x = true
    · have : cov (p :: l) x = true := by unfold cov at hc ⊢; simp [hc]
      rw [if_pos hc, if_pos this, if_pos hc]
    · rw [if_neg hc, if_neg hc]
      by_cases hp : p.f ≤ x ∧ x < p.t
      · have : cov (p :: l) x = true := by unfold cov covers; simp [hp]
        rw [if_pos hp, if_pos this, if_pos hp]
      · have : ¬ cov (p :: l) x = true := by
          unfold cov covers at hc ⊢
          simp only [List.any_cons, decide_eq_false hp, Bool.false_or]
          exact hc
        rw [if_neg hp, if_neg this]
theorem lastVal_cons (p : Sp) (l : List Sp) (x : Int) : lastVal (p :: l) x = if cov l x then lastVal l x else if covers p x then p.v else 0 := by
  have h := foldl_cov x l (if p.f ≤ x ∧ x < p.t then p.v else 0)
  unfold lastVal
  simp only [List.foldl_cons]
  rw [h]
  unfold covers
  simp only [decide_eq_true_eq]
  rfl
theorem cov_cons (p : Sp) (l : List Sp) (x : Int) : cov (p :: l) x = (cov l x || covers p x) := by
  unfold cov
  rw [List.any_cons, Bool.or_comm]
theorem lastVal_nocov (l : List Sp) (x : Int) (h : cov l x = false) : lastVal l x = 0 := by
  have := foldl_cov x l 0
  rw [h] at this
  unfold lastVal
  rw [this]
  simp

/-- which cells are passed over, and where to: each passed-over cell leads beyond itself, over passed-over cells alone -/
def Inv (nx : List Int) (dn : Nat → Bool) (n : Nat) : Prop :=
  nx.length = n ∧ ∀ c, c < n → (dn c = false → nx[c]? = some (c : Int)) ∧ (dn c = true → ∃ k : Nat, nx[c]? = some (k : Int) ∧ c < k ∧ k < n ∧ ∀ j, c ≤ j → j < k → dn j = true)
theorem Inv.at_ {nx : List Int} {dn : Nat → Bool} {n : Nat} (h : Inv nx dn n) {c : Nat} (hc : c < n) : ∃ k : Nat, nx[c]? = some (k : Int) ∧ c ≤ k ∧ k < n ∧ (k = c ↔ dn c = false) ∧ ∀ j, c ≤ j → j < k → dn j = true := by
  obtain ⟨h1, h2⟩ := h.2 c hc
  cases hd : dn c with
  | false => exact ⟨c, h1 hd, Nat.le_refl _, hc, by simp, fun j a b => absurd a (by omega)⟩
  | true =>
    obtain ⟨k, a, b, c', d⟩ := h2 hd
    exact ⟨k, a, by omega, c', by simp; omega, d⟩
theorem Inv.halve {nx : List Int} {dn : Nat → Bool} {n : Nat} (h : Inv nx dn n) {c k k2 : Nat} (hc : c < n) (hd : dn c = true) (h1 : nx[c]? = some (k : Int)) (h2 : nx[k]? = some (k2 : Int)) (hk : k < n) :
    Inv (nx.set c k2) dn n ∧ c < k2 ∧ k2 < n ∧ ∀ j, c ≤ j → j < k2 → dn j = true := by
  obtain ⟨k', a1, a2, a3, a4⟩ := (h.2 c hc).2 hd
  obtain rfl : k' = k := by rw [h1] at a1; injection a1 with a1; omega
  obtain ⟨k2', b1, b2, b3, b4, b5⟩ := h.at_ hk
  obtain rfl : k2' = k2 := by rw [h2] at b1; injection b1 with b1; omega
  have hall : ∀ j, c ≤ j → j < k2' → dn j = true := fun j j1 j2 => by
    rcases Nat.lt_or_ge j k' with hj | hj
    · exact a4 j j1 hj
    · exact b5 j hj j2
  refine ⟨⟨by rw [List.length_set]; exact h.1, fun j hj => ?_⟩, by omega, b3, hall⟩
  by_cases hjc : c = j
  · subst hjc
    refine ⟨fun hf => absurd hf (by rw [hd]; simp), fun _ => ⟨k2', ?_, by omega, b3, hall⟩⟩
    rw [List.getElem?_set_self (by rw [h.1]; exact hc)]
  · obtain ⟨h3, h4⟩ := h.2 j hj
    rw [List.getElem?_set_ne hjc]
    exact ⟨h3, h4⟩
theorem Inv.paint {nx : List Int} {dn : Nat → Bool} {n : Nat} (h : Inv nx dn n) {c : Nat} (hc : c + 1 < n) : Inv (nx.set c ((c + 1 : Nat) : Int)) (fun j => dn j || decide (j = c)) n := by
  refine ⟨by rw [List.length_set]; exact h.1, fun j hj => ?_⟩
  by_cases hjc : c = j
  · subst hjc
    refine ⟨fun hf => by simp at hf, fun _ => ⟨c + 1, ?_, by omega, hc, fun i h1 h2 => ?_⟩⟩
    · rw [List.getElem?_set_self (by rw [h.1]; omega)]
    · have : i = c := by omega
      simp [this]
  · obtain ⟨h3, h4⟩ := h.2 j hj
    rw [List.getElem?_set_ne hjc]
    have hne : decide (j = c) = false := decide_eq_false (fun h => hjc h.symm)
    simp only [hne, Bool.or_false]
    exact ⟨h3, fun hd => by
      obtain ⟨k, a, b, c', d⟩ := h4 hd
      exact ⟨k, a, b, c', fun i h1 h2 => by simp [d i h1 h2]⟩⟩
theorem Inv.congr {nx : List Int} {dn dn' : Nat → Bool} {n : Nat} (h : Inv nx dn n) (he : ∀ j, j < n → dn j = dn' j) : Inv nx dn' n := by
  refine ⟨h.1, fun c hc => ?_⟩
  rw [← he c hc]
  obtain ⟨h3, h4⟩ := h.2 c hc
  exact ⟨h3, fun hd => by
    obtain ⟨k, a, b, c', d⟩ := h4 hd
    exact ⟨k, a, b, c', fun i h1 h2 => by rw [← he i (by omega)]; exact d i h1 h2⟩⟩
theorem inv_start (n : Nat) : Inv ((List.range n).map (fun (i : Nat) => (i : Int))) (fun _ => false) n :=
  ⟨by simp, fun c hc => ⟨fun _ => by simp [hc], fun h => by cases h⟩⟩
end Go.Proofs.Ytojplkkmpnaibaa
