/-
  Contracts of nums.addWeight, nums.portion and of the document's part: for a sum from 0 to whole, portion and part both return the floor of total * sum / whole.
-/
import Derived.Test.YtijhcgppahncdaaScale
set_option linter.unusedVariables false
namespace Go.Proofs.Ytijhcgppahncdaa
open Go.ChangeShapes Go.WideShapes Go.ChangeAt Go.RowKit

/-- a weight, as it counts -/
def pw (z : Int) : Int := if 0 < z then z else 0
theorem pw_pos {z : Int} (h : 0 < z) : pw z = z := by unfold pw; rw [if_pos h]
theorem pw_neg {z : Int} (h : ¬ 0 < z) : pw z = 0 := by unfold pw; rw [if_neg h]
theorem pw_nonneg (z : Int) : 0 ≤ pw z := by unfold pw; split <;> omega

theorem addWeight_any (s z : Int) (h0 : 0 ≤ s) (h1 : s + pw z ≤ 9223372036854775807) (w : World) :
    Calls Try.prog 26 #[.int .i64 s, .int .i64 z] w fun e w' => e = .returned (.int .i64 (s + pw z)) ∧ w = w' := by
  by_cases h : 0 < z
  · rw [pw_pos h] at h1 ⊢
    go_enter Try.func26, Try.ntmps26
    go_wp2
    go_ret
    exact ⟨rfl, rfl⟩
  · have e : s + 0 = s := by omega
    rw [pw_neg h, e]
    clear h1 e
    go_enter Try.func26, Try.ntmps26
    go_wp2
    go_ret
    exact ⟨rfl, rfl⟩

/-- the floor of total * sum / whole -/
def por (total sum whole : Int) : Int := total * sum / whole

/-- quotient and remainder of the sizes, and what they say of the floor -/
theorem por_parts (total sum whole : Int) (t0 : -9223372036854775808 ≤ total) (t1 : total ≤ 9223372036854775807) (s0 : 0 ≤ sum) (s1 : sum ≤ whole) (w0 : 1 ≤ whole) :
    psize total sum < whole * 18446744073709551616 ∧ 0 ≤ psize total sum / whole ∧ 0 ≤ psize total sum % whole ∧
    ((0 ≤ total ∧ psize total sum / whole ≤ 9223372036854775807 ∧ por total sum whole = psize total sum / whole) ∨
     (total < 0 ∧ psize total sum % whole = 0 ∧ psize total sum / whole ≤ 9223372036854775808 ∧ por total sum whole = -(psize total sum / whole)) ∨
     (total < 0 ∧ 0 < psize total sum % whole ∧ psize total sum / whole ≤ 9223372036854775807 ∧ por total sum whole = -(psize total sum / whole) - 1)) := by
  have hP := psize_nonneg total sum
  have he := Int.mul_ediv_add_emod (psize total sum) whole
  have hr0 := Int.emod_nonneg (psize total sum) (b := whole) (by omega)
  have hr1 := Int.emod_lt_of_pos (psize total sum) (b := whole) (by omega)
  have hq0 : 0 ≤ psize total sum / whole := Int.ediv_nonneg hP (by omega)
  have hle : psize total sum ≤ (total.natAbs : Int) * whole := by
    unfold psize; rw [Int.natCast_mul]
    exact Int.mul_le_mul_of_nonneg_left (by omega) (by omega)
  have hql : psize total sum / whole ≤ (total.natAbs : Int) := by
    have := Int.ediv_le_ediv (c := whole) (by omega) hle
    rwa [Int.mul_ediv_cancel _ (by omega)] at this
  have hlt : (total.natAbs : Int) * whole ≤ 9223372036854775808 * whole := Int.mul_le_mul_of_nonneg_right (by omega) (by omega)
  refine ⟨by omega, hq0, hr0, ?_⟩
  rcases psize_eq total sum with ⟨hs, e⟩ | ⟨hs, e⟩
  · left
    have ht : 0 ≤ total := by
      rcases Int.lt_or_le total 0 with h | h
      · exfalso; have : sum < 0 := by rw [← hs]; exact h
        omega
      · exact h
    exact ⟨ht, by omega, by unfold por; rw [e]⟩
  · have ht : total < 0 := by
      rcases Int.lt_or_le total 0 with h | h
      · exact h
      · exfalso; apply hs; simp only [eq_iff_iff]; omega
    right
    have hmul : ∀ k : Int, whole * k = k * whole := fun k => Int.mul_comm _ _
    by_cases hr : psize total sum % whole = 0
    · left
      refine ⟨ht, hr, by omega, ?_⟩
      unfold por
      rw [e]
      refine floor_of (by omega) ?_ ?_
      · rw [Int.neg_mul, ← hmul]; omega
      · rw [Int.add_mul, Int.neg_mul, ← hmul]; omega
    · right
      have hq : psize total sum / whole ≤ 9223372036854775807 := by
        rcases Int.lt_or_le (psize total sum / whole) 9223372036854775808 with h | h
        · omega
        · exfalso
          have : whole * 9223372036854775808 ≤ whole * (psize total sum / whole) := Int.mul_le_mul_of_nonneg_left h (by omega)
          omega
      refine ⟨ht, by omega, hq, ?_⟩
      unfold por
      rw [e]
      refine floor_of (by omega) ?_ ?_
      · rw [Int.sub_mul, Int.neg_mul, ← hmul]; omega
      · rw [Int.add_mul, Int.sub_mul, Int.neg_mul, ← hmul]; omega

theorem neg_back (q : Int) (h0 : 0 ≤ q) (h1 : q ≤ 9223372036854775808) : wrap64 (-(wrap64 q)) = -q := by unfold wrap64; omega

set_option maxHeartbeats 1000000 in
theorem portion_any (total sum whole : Int) (t0 : -9223372036854775808 ≤ total) (t1 : total ≤ 9223372036854775807) (s0 : 0 ≤ sum) (s1 : sum ≤ whole) (w0 : 1 ≤ whole) (w1 : whole ≤ 9223372036854775807) (w : World) :
    Calls Try.prog 27 #[.int .i64 total, .int .i64 sum, .int .i64 whole] w fun e w' => e = .returned (.int .i64 (por total sum whole)) ∧ ∃ k, w' = w.drewN k := by
  obtain ⟨hf, hq0, hr0, hc⟩ := por_parts total sum whole t0 t1 s0 s1 w0
  have hy := quot_yes total sum whole t0 t1 (by omega) (by omega) w0 w1 hf
  obtain ⟨Q, hQ⟩ : ∃ Q, psize total sum / whole = Q := ⟨_, rfl⟩
  obtain ⟨R, hR⟩ : ∃ R, psize total sum % whole = R := ⟨_, rfl⟩
  obtain ⟨V, hV⟩ : ∃ V, por total sum whole = V := ⟨_, rfl⟩
  rw [hQ, hR] at hy hc
  rw [hQ] at hq0
  rw [hR] at hr0
  rw [hV] at hc
  rw [hV]
  clear hQ hR hV hf
  rcases hc with ⟨ht, hq, hv⟩ | ⟨ht, hr, hq, hv⟩ | ⟨ht, hr, hq, hv⟩
  · have HV := Lib.hid hv
    clear hv
    go_enter Try.func27, Try.ntmps27
    go_wp2_with (go_at_call 23; refine (hy _).mono ?_; rintro e W1 ⟨rfl, hg⟩)
    go_ret
    exact ⟨ret1 HV.out.symm, hg⟩
  · have HV := Lib.hid hv
    clear hv
    subst hr
    have HN := Lib.hid (neg_back Q hq0 hq)
    go_enter Try.func27, Try.ntmps27
    go_wp2_with (go_at_call 23; refine (hy _).mono ?_; rintro e W1 ⟨rfl, hg⟩)
    go_ret
    exact ⟨ret1 (HN.out.trans HV.out.symm), hg⟩
  · have HV := Lib.hid hv
    clear hv
    have hn := neg_back (Q + 1) (by omega) (by omega)
    go_enter Try.func27, Try.ntmps27
    go_wp2_with (go_at_call 23; refine (hy _).mono ?_; rintro e W1 ⟨rfl, hg⟩)
    go_ret
    exact ⟨ret1 (by rw [HV.out]; omega), hg⟩
set_option maxHeartbeats 1000000 in
theorem part_any (total sum whole : Int) (t0 : -9223372036854775808 ≤ total) (t1 : total ≤ 9223372036854775807) (s0 : 0 ≤ sum) (s1 : sum ≤ whole) (w0 : 1 ≤ whole) (w1 : whole ≤ 9223372036854775807) (w : World) :
    Calls Try.prog 29 #[.int .i64 total, .int .i64 sum, .int .i64 whole] w fun e w' => e = .returned (.int .i64 (por total sum whole)) ∧ w = w' := by
  obtain ⟨hf, hq0, hr0, hc⟩ := por_parts total sum whole t0 t1 s0 s1 w0
  have ht := times_any (total.natAbs : Int) (sum.natAbs : Int) whole 9223372036854775808 (by omega) (by omega) (by omega) (by omega) w0 w1 (by omega) (by omega) (Or.inr (by omega))
  have he := fun (q r : Int) (h : TInv (total.natAbs : Int) (sum.natAbs : Int) whole 9223372036854775808 0 q r) => tinv_end h w0 (by omega) (by omega)
  have hp : (total.natAbs : Int) * (sum.natAbs : Int) = psize total sum := by unfold psize; rw [Int.natCast_mul]
  rw [hp] at he
  clear hp hf
  obtain ⟨Q, hQ⟩ : ∃ Q, psize total sum / whole = Q := ⟨_, rfl⟩
  obtain ⟨R, hR⟩ : ∃ R, psize total sum % whole = R := ⟨_, rfl⟩
  obtain ⟨V, hV⟩ : ∃ V, por total sum whole = V := ⟨_, rfl⟩
  rw [hQ, hR] at he hc
  rw [hQ] at hq0
  rw [hR] at hr0
  rw [hV] at hc
  rw [hV]
  clear hQ hR hV
  rcases hc with ⟨hs, hq, hv⟩ | ⟨hs, hr, hq, hv⟩ | ⟨hs, hr, hq, hv⟩
  · have HV := Lib.hid hv
    clear hv
    go_enter Try.func29, Try.ntmps29
    go_wp2_with (go_at_call 25; refine (size25 _ (by omega) (by omega) _).mono ?_; rintro e w' ⟨rfl, rfl⟩)
    refine (ht _).mono ?_
    rintro e w' ⟨⟨q, r, rfl, hT⟩, rfl⟩
    obtain ⟨rfl, hq'⟩ := he q r hT
    obtain rfl : q = Q := by omega
    clear hq' hT he
    go_wp2
    go_ret
    exact ⟨ret1 HV.out.symm, rfl⟩
  · have HV := Lib.hid hv
    clear hv
    subst hr
    have hn := neg_back Q hq0 hq
    have HN := Lib.hid hn
    clear hn
    go_enter Try.func29, Try.ntmps29
    go_wp2_with (go_at_call 25; refine (size25 _ (by omega) (by omega) _).mono ?_; rintro e w' ⟨rfl, rfl⟩)
    refine (ht _).mono ?_
    rintro e w' ⟨⟨q, r, rfl, hT⟩, rfl⟩
    obtain ⟨hr', hq'⟩ := he q r hT
    obtain rfl : q = Q := by omega
    subst hr'
    clear hq' hT he
    go_wp2
    go_ret
    exact ⟨ret1 (HN.out.trans HV.out.symm), rfl⟩
  · have HV := Lib.hid hv
    clear hv
    go_enter Try.func29, Try.ntmps29
    go_wp2_with (go_at_call 25; refine (size25 _ (by omega) (by omega) _).mono ?_; rintro e w' ⟨rfl, rfl⟩)
    refine (ht _).mono ?_
    rintro e w' ⟨⟨q, r, rfl, hT⟩, rfl⟩
    obtain ⟨rfl, hq'⟩ := he q r hT
    obtain rfl : q = Q := by omega
    clear hq' hT he
    go_wp2
    go_ret
    exact ⟨ret1 (by rw [HV.out]), rfl⟩
end Go.Proofs.Ytijhcgppahncdaa
