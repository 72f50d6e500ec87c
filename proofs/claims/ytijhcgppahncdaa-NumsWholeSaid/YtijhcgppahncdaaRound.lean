/-
  Plain arithmetic of scaling: rounding half up as a floored quotient, and that it grows with the number. No condition but the stated ones.
-/
set_option linter.unusedVariables false
namespace Go.Proofs.Ytijhcgppahncdaa
/-- from -2^40 to 2^40 -/
def held (u : Int) : Int := if u ≤ -1099511627776 then -1099511627776 else if 1099511627776 < u then 1099511627776 else u
/-- n * num / den, halves rounded up, held -/
def scaleV (n num den : Int) : Int := held ((2 * (n * num) + den) / (2 * den))

theorem held_mono {a b : Int} (h : a ≤ b) : held a ≤ held b := by unfold held; split <;> split <;> (try split) <;> (try split) <;> omega
theorem scaleV_mono {n m num den : Int} (h : n ≤ m) (hn : 0 ≤ num) (hd : 1 ≤ den) : scaleV n num den ≤ scaleV m num den := by
  unfold scaleV
  have := Int.mul_le_mul_of_nonneg_right h hn
  exact held_mono (Int.ediv_le_ediv (by omega) (by omega))
theorem scaleV_same (n den : Int) (hd : 1 ≤ den) : scaleV n den den = held n := by
  unfold scaleV
  congr 1
  have e : 2 * (n * den) + den = den + n * (2 * den) := by rw [Int.mul_left_comm]; omega
  rw [e, Int.add_mul_ediv_right _ _ (by omega), Int.ediv_eq_zero_of_lt (by omega) (by omega)]
  omega
theorem floor_of {z d k : Int} (hd : 0 < d) (h0 : k * d ≤ z) (h1 : z < (k + 1) * d) : z / d = k := by
  have a := (Int.le_ediv_iff_mul_le hd).2 h0
  have b := (Int.ediv_lt_iff_lt_mul hd).2 h1
  omega

/-- the product's size -/
def psize (n num : Int) : Int := ((n.natAbs * num.natAbs : Nat) : Int)
theorem psize_nonneg (n num : Int) : 0 ≤ psize n num := by unfold psize; omega
theorem psize_eq (n num : Int) : ((n < 0) = (num < 0) ∧ n * num = psize n num) ∨ ((n < 0) ≠ (num < 0) ∧ n * num = -psize n num) := by
  unfold psize
  rw [Int.natCast_mul]
  by_cases h : n < 0
  · by_cases k : num < 0
    · left
      refine ⟨by simp [h, k], ?_⟩
      rw [Int.ofNat_natAbs_of_nonpos (by omega), Int.ofNat_natAbs_of_nonpos (by omega), Int.neg_mul_neg]
    · right
      refine ⟨by simp [h, k], ?_⟩
      rw [Int.ofNat_natAbs_of_nonpos (by omega), Int.natAbs_of_nonneg (by omega), Int.neg_mul, Int.neg_neg]
  · by_cases k : num < 0
    · right
      refine ⟨by simp [h, k], ?_⟩
      rw [Int.natAbs_of_nonneg (by omega), Int.ofNat_natAbs_of_nonpos (by omega), Int.mul_neg, Int.neg_neg]
    · left
      refine ⟨by simp [h, k], ?_⟩
      rw [Int.natAbs_of_nonneg (by omega), Int.natAbs_of_nonneg (by omega)]
theorem round_pos {n num den P : Int} (h : n * num = P) (hd : 1 ≤ den) : (2 * (n * num) + den) / (2 * den) = P / den + if den ≤ 2 * (P % den) then 1 else 0 := by
  rw [h]
  have e := Int.mul_ediv_add_emod P den
  have h0 := Int.emod_nonneg P (b := den) (by omega)
  have h1 := Int.emod_lt_of_pos P (b := den) (by omega)
  have c : P / den * (2 * den) = 2 * (den * (P / den)) := by rw [Int.mul_left_comm, Int.mul_comm (P / den)]
  split
  · refine floor_of (by omega) ?_ ?_
    · rw [Int.add_mul, c]; omega
    · rw [Int.add_mul, Int.add_mul, c]; omega
  · refine floor_of (by omega) ?_ ?_
    · rw [Int.add_mul, c]; omega
    · rw [Int.add_mul, Int.add_mul, c]; omega
theorem round_neg {n num den P : Int} (h : n * num = -P) (hd : 1 ≤ den) : (2 * (n * num) + den) / (2 * den) = -(P / den + if den < 2 * (P % den) then 1 else 0) := by
  rw [h]
  have e := Int.mul_ediv_add_emod P den
  have h0 := Int.emod_nonneg P (b := den) (by omega)
  have h1 := Int.emod_lt_of_pos P (b := den) (by omega)
  have c : P / den * (2 * den) = 2 * (den * (P / den)) := by rw [Int.mul_left_comm, Int.mul_comm (P / den)]
  split
  · refine floor_of (by omega) ?_ ?_
    · rw [Int.neg_mul, Int.add_mul, c]; omega
    · rw [Int.add_mul, Int.neg_mul, Int.add_mul, c]; omega
  · refine floor_of (by omega) ?_ ?_
    · rw [Int.neg_mul, Int.add_mul, c]; omega
    · rw [Int.add_mul, Int.neg_mul, Int.add_mul, c]; omega
end Go.Proofs.Ytijhcgppahncdaa
