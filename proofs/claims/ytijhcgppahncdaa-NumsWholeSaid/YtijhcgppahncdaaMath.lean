/-
  Plain arithmetic under the document's long multiplication and division ('times') and under math/bits.Div64: facts on integers alone, no condition but the stated ones.
-/
set_option linter.unusedVariables false
namespace Go.Proofs.Ytijhcgppahncdaa
def TInv (a b den most : Int) (k : Nat) (q r : Int) : Prop := ∃ Q : Int, 0 ≤ Q ∧ Q * den + r = a * (b / 2 ^ k) ∧ 0 ≤ r ∧ r < den ∧ ((q = Q ∧ Q ≤ most) ∨ (q = most ∧ most ≤ Q))

theorem half_bit (b : Int) (j : Nat) : b / 2 ^ j = 2 * (b / 2 ^ (j + 1)) + b / 2 ^ j % 2 := by
  have h : b / 2 ^ (j + 1) = b / 2 ^ j / 2 := by
    rw [Int.pow_succ, ← Int.ediv_ediv_of_nonneg (Int.le_of_lt (Int.pow_pos (by omega)))]
  rw [h]; omega

theorem tinv_start (a b den most : Int) (hb : 0 ≤ b) (hb' : b ≤ 9223372036854775808) (hd : 1 ≤ den) (hm : 0 ≤ most) : TInv a b den most 64 0 0 :=
  ⟨0, by omega, by rw [show b / 2 ^ 64 = 0 from Int.ediv_eq_zero_of_lt hb (by omega)]; simp, by omega, by omega, Or.inl ⟨rfl, hm⟩⟩

/-- one digit more: c1, c2 say whether the remainder was brought down, x whether the digit is one -/
theorem tinv_step {a b den most : Int} {j : Nat} {q r : Int} (h : TInv a b den most (j + 1) q r) (hd : 1 ≤ den)
    (x c1 c2 q' r' : Int) (hx : b / 2 ^ j % 2 = x) (hx' : x = 0 ∨ x = 1) (hc1 : c1 = 0 ∨ c1 = 1) (hc2 : c2 = 0 ∨ c2 = 1)
    (hr : (x = 0 ∧ c2 = 0 ∧ r' = 2 * r - c1 * den) ∨ (x = 1 ∧ r' = 2 * r - c1 * den + a % den - c2 * den)) (hr0 : 0 ≤ r') (hr1 : r' < den)
    (ha : 0 ≤ a / den)
    (hq : (x = 0 ∧ ((q' = 2 * q + c1 ∧ q' ≤ most) ∨ (q' = most ∧ most ≤ 2 * q + c1))) ∨ (x = 1 ∧ ((q' = 2 * q + c1 + a / den + c2 ∧ q' ≤ most) ∨ (q' = most ∧ most ≤ 2 * q + c1 + a / den + c2))))
    (hm : 0 ≤ most) : TInv a b den most j q' r' := by
  obtain ⟨Q, hQ0, hQ, h0, h1, hqq⟩ := h
  have hh := half_bit b j
  rw [hx] at hh
  have hdm := Int.mul_ediv_add_emod a den
  have hcomm : a / den * den = den * (a / den) := Int.mul_comm _ _
  rcases hx' with rfl | rfl
  · refine ⟨2 * Q + c1, by omega, ?_, hr0, hr1, ?_⟩
    · have e1 : (2 * Q + c1) * den = 2 * (Q * den) + c1 * den := by rw [Int.add_mul, Int.mul_assoc]
      have e2 : a * (2 * (b / 2 ^ (j + 1)) + 0) = 2 * (a * (b / 2 ^ (j + 1))) := by rw [Int.add_zero, Int.mul_left_comm]
      rw [hh, e1, e2, ← hQ]
      omega
    · omega
  · refine ⟨2 * Q + c1 + a / den + c2, by omega, ?_, hr0, hr1, ?_⟩
    · have e1 : (2 * Q + c1 + a / den + c2) * den = 2 * (Q * den) + c1 * den + den * (a / den) + c2 * den := by rw [Int.add_mul, Int.add_mul, Int.add_mul, Int.mul_assoc, hcomm]
      have e2 : a * (2 * (b / 2 ^ (j + 1)) + 1) = 2 * (a * (b / 2 ^ (j + 1))) + a := by rw [Int.mul_add, Int.mul_left_comm, Int.mul_one]
      rw [hh, e1, e2, ← hQ]
      omega
    · omega

theorem tinv_bound {a b den most : Int} {j : Nat} {q r : Int} (h : TInv a b den most (j + 1) q r) (ha : 0 ≤ a) (hb : 0 ≤ b) (hd : 1 ≤ den)
    (hm : 0 ≤ most) (hov : most ≤ 2199023255552 ∨ b ≤ den) :
    0 ≤ q ∧ 0 ≤ r ∧ r < den ∧ (q ≤ 2199023255552 ∨ (2 * q ≤ a ∧ (b / 2 ^ j % 2 = 1 → 2 * q + a / den ≤ a))) := by
  obtain ⟨Q, hQ0, hQ, h0, h1, hqq⟩ := h
  have hq0 : 0 ≤ q := by
    omega
  refine ⟨hq0, h0, h1, ?_⟩
  rcases hov with hov | hov
  · left; omega
  · right
    have hqQ : q ≤ Q := by omega
    have hB0 : 0 ≤ b / 2 ^ (j + 1) := Int.ediv_nonneg hb (Int.le_of_lt (Int.pow_pos (by omega)))
    have hle : b / 2 ^ j ≤ b := Int.ediv_le_self _ hb
    have hh := half_bit b j
    have hdm := Int.mul_ediv_add_emod a den
    have hm0 := Int.emod_nonneg a (b := den) (by omega)
    have hcomm : a / den * den = den * (a / den) := Int.mul_comm _ _
    refine ⟨?_, fun hx => ?_⟩
    · have e1 : (2 * Q) * den = 2 * (Q * den) := by rw [Int.mul_assoc]
      have e2 : a * (2 * (b / 2 ^ (j + 1))) = 2 * (a * (b / 2 ^ (j + 1))) := by rw [Int.mul_left_comm]
      have e3 : a * (2 * (b / 2 ^ (j + 1))) ≤ a * den := Int.mul_le_mul_of_nonneg_left (by omega) ha
      have : (2 * Q) * den ≤ a * den := by omega
      have := Int.le_of_mul_le_mul_right this (by omega)
      omega
    · have e1 : (2 * Q + a / den) * den = 2 * (Q * den) + den * (a / den) := by rw [Int.add_mul, Int.mul_assoc, hcomm]
      have e2 : a * (2 * (b / 2 ^ (j + 1)) + 1) = 2 * (a * (b / 2 ^ (j + 1))) + a := by rw [Int.mul_add, Int.mul_left_comm, Int.mul_one]
      have e3 : a * (2 * (b / 2 ^ (j + 1)) + 1) ≤ a * den := Int.mul_le_mul_of_nonneg_left (by omega) ha
      have : (2 * Q + a / den) * den ≤ a * den := by omega
      have := Int.le_of_mul_le_mul_right this (by omega)
      omega
/-- what the walk's tests leave of the last digit -/
theorem tinv_end {a b den most q r : Int} (h : TInv a b den most 0 q r) (hd : 1 ≤ den) (ha : 0 ≤ a) (hb : 0 ≤ b) :
    r = a * b % den ∧ ((q = a * b / den ∧ a * b / den ≤ most) ∨ (q = most ∧ most ≤ a * b / den)) := by
  obtain ⟨Q, hQ0, hQ, h0, h1, hqq⟩ := h
  have e : b / 2 ^ 0 = b := by simp
  rw [e] at hQ
  have := (Int.ediv_emod_unique (a := a * b) (b := den) (r := r) (q := Q) (by omega)).2 ⟨by rw [Int.mul_comm den Q]; omega, h0, h1⟩
  rw [this.1, this.2]
  exact ⟨rfl, hqq⟩
end Go.Proofs.Ytijhcgppahncdaa
