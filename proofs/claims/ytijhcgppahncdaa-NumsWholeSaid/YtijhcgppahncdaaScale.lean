/-
  Contracts of nums.size, nums.quotient, nums.Clamp and nums.Scale, and of the document's size, Clamp and Scale: both Scales return n * num / den, rounded half up and held from -2^40 to 2^40, for every three ints with den at least 1, and 0 for den below 1.
-/
import Derived.Test.YtijhcgppahncdaaDiv
import Derived.Test.YtijhcgppahncdaaTimes
import Derived.Test.YtijhcgppahncdaaRound
set_option linter.unusedVariables false
namespace Go.Proofs.Ytijhcgppahncdaa
open Go.ChangeShapes Go.WideShapes Go.ChangeAt Go.RowKit
theorem wf64 {n : Int} (h : (Lit.int .i64 n).wf = true) : -9223372036854775808 ≤ n ∧ n ≤ 9223372036854775807 := by
  simpa [Lit.wf, IntKind.bits, IntKind.signed, IntKind.min, IntKind.max] using h
theorem ret1 {k : IntKind} {a b : Int} (h : a = b) : Ending.returned (.int k a) = .returned (.int k b) := by rw [h]
theorem grown_trans {a b c : World} (h : Grown a b) (k : Grown b c) : Grown a c :=
  ⟨World.keptBut_trans h.1 k.1, fun x => (k.2.1 x).trans (h.2.1 x), Nat.le_trans h.2.2 k.2.2⟩

theorem size31 (n : Int) (h0 : -9223372036854775808 ≤ n) (h1 : n ≤ 9223372036854775807) (w : World) :
    Calls Try.prog 31 #[.int .i64 n] w fun e w' => e = .returned (.int .u64 (n.natAbs : Int)) ∧ w = w' := by
  by_cases h : n < 0
  · have e : IntKind.u64.wrap (-(IntKind.u64.wrap n)) = -n := by rw [IntKind.wrap_u64, IntKind.wrap_u64]; omega
    go_enter Try.func31, Try.ntmps31
    go_wp2
    go_ret
    exact ⟨ret1 (by omega), rfl⟩
  · go_enter Try.func31, Try.ntmps31
    go_wp2
    go_ret
    exact ⟨ret1 (by omega), rfl⟩
theorem size25 (n : Int) (h0 : -9223372036854775808 ≤ n) (h1 : n ≤ 9223372036854775807) (w : World) :
    Calls Try.prog 25 #[.int .i64 n] w fun e w' => e = .returned (.int .u64 (n.natAbs : Int)) ∧ w = w' := by
  by_cases h : n < 0
  · go_enter Try.func25, Try.ntmps25
    go_wp2
    go_ret
    exact ⟨ret1 (by omega), rfl⟩
  · go_enter Try.func25, Try.ntmps25
    go_wp2
    go_ret
    exact ⟨ret1 (by omega), rfl⟩
theorem clamp12 (n : Int) (w : World) :
    Calls Try.prog 12 #[.int .i64 n, .int .i64 (-1099511627776), .int .i64 1099511627776] w fun e w' => e = .returned (.int .i64 (held n)) ∧ w = w' := by
  by_cases h : n ≤ -1099511627776
  · have HH : Hid (held n = -1099511627776) := Lib.hid (by unfold held; rw [if_pos h])
    go_enter Try.func12, Try.ntmps12
    go_wp2
    go_ret
    exact ⟨ret1 HH.out.symm, rfl⟩
  · by_cases h2 : 1099511627776 < n
    · have HH : Hid (held n = 1099511627776) := Lib.hid (by unfold held; rw [if_neg h, if_pos h2])
      go_enter Try.func12, Try.ntmps12
      go_wp2
      go_ret
      exact ⟨ret1 HH.out.symm, rfl⟩
    · have hh : held n = n := by unfold held; rw [if_neg h, if_neg h2]
      have HH := Lib.hid hh
      clear hh
      go_enter Try.func12, Try.ntmps12
      go_wp2
      go_ret
      exact ⟨ret1 HH.out.symm, rfl⟩
theorem clamp13 (n : Int) (w : World) :
    Calls Try.prog 13 #[.int .i64 n, .int .i64 (-1099511627776), .int .i64 1099511627776] w fun e w' => e = .returned (.int .i64 (held n)) ∧ w = w' := by
  by_cases h : n ≤ -1099511627776
  · have HH : Hid (held n = -1099511627776) := Lib.hid (by unfold held; rw [if_pos h])
    go_enter Try.func13, Try.ntmps13
    go_wp2
    go_ret
    exact ⟨ret1 HH.out.symm, rfl⟩
  · by_cases h2 : 1099511627776 < n
    · have HH : Hid (held n = 1099511627776) := Lib.hid (by unfold held; rw [if_neg h, if_pos h2])
      go_enter Try.func13, Try.ntmps13
      go_wp2
      go_ret
      exact ⟨ret1 HH.out.symm, rfl⟩
    · have hh : held n = n := by unfold held; rw [if_neg h, if_neg h2]
      have HH := Lib.hid hh
      clear hh
      go_enter Try.func13, Try.ntmps13
      go_wp2
      go_ret
      exact ⟨ret1 HH.out.symm, rfl⟩
theorem psize_top {n num : Int} (h0 : -9223372036854775808 ≤ n) (h1 : n ≤ 9223372036854775807) (k0 : -9223372036854775808 ≤ num) (k1 : num ≤ 9223372036854775807) :
    psize n num ≤ 85070591730234615865843651857942052864 := by
  unfold psize
  have : n.natAbs * num.natAbs ≤ 9223372036854775808 * 9223372036854775808 := Nat.mul_le_mul (by omega) (by omega)
  omega
theorem grown_drewN (w : World) (k : Nat) : Grown w (w.drewN k) := by
  have h := Grown.refl w
  exact h
theorem grown_of {w w' : World} (h : ∃ k, w' = w.drewN k) : Grown w w' := by
  obtain ⟨k, rfl⟩ := h; exact grown_drewN _ _
theorem quot_no (n num den : Int) (h0 : -9223372036854775808 ≤ n) (h1 : n ≤ 9223372036854775807) (k0 : -9223372036854775808 ≤ num) (k1 : num ≤ 9223372036854775807)
    (d0 : 1 ≤ den) (d1 : den ≤ 9223372036854775807) (h : den * 18446744073709551616 ≤ psize n num) (w : World) :
    Calls Try.prog 23 #[.int .i64 n, .int .i64 num, .int .i64 den] w fun e w' => e = .returned (.tuple #[.int .u64 0, .int .u64 0, .bool false]) ∧ ∃ k, w' = w.drewN k := by
  have hm := Try.bits_Mul64 n.natAbs num.natAbs (by omega) (by omega) 
  unfold psize at h
  have hh : den ≤ ((n.natAbs * num.natAbs / 18446744073709551616 : Nat) : Int) := by omega
  have hx : ((n.natAbs * num.natAbs / 18446744073709551616 : Nat) : Int) ≤ 18446744073709551615 := by
    have : n.natAbs * num.natAbs ≤ 9223372036854775808 * 9223372036854775808 := Nat.mul_le_mul (by omega) (by omega)
    omega
  obtain ⟨A, hA⟩ : ∃ A : Int, ((n.natAbs * num.natAbs / 18446744073709551616 : Nat) : Int) = A := ⟨_, rfl⟩
  obtain ⟨B, hB⟩ : ∃ B : Int, ((n.natAbs * num.natAbs % 18446744073709551616 : Nat) : Int) = B := ⟨_, rfl⟩
  rw [hA] at hm hh hx
  rw [hB] at hm
  clear hA hB h
  go_enter Try.func23, Try.ntmps23
  go_wp2_with (first | (go_at_call 31; refine (size31 _ (by omega) (by omega) _).mono ?_; rintro e w' ⟨rfl, rfl⟩) | (go_at_call 30; refine (hm _).mono ?_; rintro e w' ⟨rfl, rfl⟩))
  refine bodyPost_ret (v := .tuple #[.int .u64 0, .int .u64 0, .bool false]) (by simp [results, Try.results23, go_sem]) rfl ⟨rfl, 0, rfl⟩
theorem quot_yes (n num den : Int) (h0 : -9223372036854775808 ≤ n) (h1 : n ≤ 9223372036854775807) (k0 : -9223372036854775808 ≤ num) (k1 : num ≤ 9223372036854775807)
    (d0 : 1 ≤ den) (d1 : den ≤ 9223372036854775807) (h : psize n num < den * 18446744073709551616) (w : World) :
    Calls Try.prog 23 #[.int .i64 n, .int .i64 num, .int .i64 den] w fun e w' => e = .returned (.tuple #[.int .u64 (psize n num / den), .int .u64 (psize n num % den), .bool true]) ∧ ∃ k, w' = w.drewN k := by
  have hm := Try.bits_Mul64 n.natAbs num.natAbs (by omega) (by omega) 
  have hp : psize n num = ((n.natAbs * num.natAbs / 18446744073709551616 : Nat) : Int) * 18446744073709551616 + ((n.natAbs * num.natAbs % 18446744073709551616 : Nat) : Int) := by unfold psize; omega
  obtain ⟨A, hA⟩ : ∃ A : Int, ((n.natAbs * num.natAbs / 18446744073709551616 : Nat) : Int) = A := ⟨_, rfl⟩
  obtain ⟨B, hB⟩ : ∃ B : Int, ((n.natAbs * num.natAbs % 18446744073709551616 : Nat) : Int) = B := ⟨_, rfl⟩
  have hA0 : 0 ≤ A := by omega
  have hB0 : 0 ≤ B := by omega
  have hB1 : B < 18446744073709551616 := by omega
  rw [hA, hB] at hm hp
  clear hA hB
  rw [hp] at h ⊢
  have hh : A < den := by omega
  clear h hp
  go_enter Try.func23, Try.ntmps23
  go_wp2_with (first | (go_at_call 31; refine (size31 _ (by omega) (by omega) _).mono ?_; rintro e w' ⟨rfl, rfl⟩) | (go_at_call 30; refine (hm _).mono ?_; rintro e w' ⟨rfl, rfl⟩) | (go_at_call 32; refine (div_any _ _ _ (by omega) (by omega) (by omega) (by omega) (by omega) _).mono ?_; rintro e W1 ⟨rfl, hg⟩))
  refine bodyPost_ret (v := .tuple #[.int .u64 ((A * 18446744073709551616 + B) / den), .int .u64 ((A * 18446744073709551616 + B) % den), .bool true]) (by simp [results, Try.results23, go_sem]) rfl ⟨rfl, hg⟩

theorem held_eq {a b : Int} (h : a = b ∨ (1099511627776 ≤ a ∧ 1099511627776 ≤ b) ∨ (a ≤ -1099511627776 ∧ b ≤ -1099511627776)) : held a = held b := by
  unfold held; split <;> split <;> (try split) <;> (try split) <;> omega
theorem signs (n : Int) : (n < 0 ∧ decide (n < 0) = true) ∨ (0 ≤ n ∧ decide (n < 0) = false) := by
  by_cases h : n < 0
  · exact Or.inl ⟨h, by simpa using h⟩
  · exact Or.inr ⟨by omega, by simpa using h⟩
theorem scale_no10 (n num den : Int) (h : den < 1) (w : World) :
    Calls Try.prog 10 #[.int .i64 n, .int .i64 num, .int .i64 den] w fun e w' => e = .returned (.int .i64 0) ∧ w = w' := by
  go_enter Try.func10, Try.ntmps10
  go_wp2
  go_ret
  exact ⟨rfl, rfl⟩
theorem scale_no11 (n num den : Int) (h : den < 1) (w : World) :
    Calls Try.prog 11 #[.int .i64 n, .int .i64 num, .int .i64 den] w fun e w' => e = .returned (.int .i64 0) ∧ w = w' := by
  go_enter Try.func11, Try.ntmps11
  go_wp2
  go_ret
  exact ⟨rfl, rfl⟩
/-- the value before it is held, case by case -/
theorem scaleV_pos {n num den : Int} (d0 : 1 ≤ den) (h : (n < 0) = (num < 0)) : scaleV n num den = held (psize n num / den + if den ≤ 2 * (psize n num % den) then 1 else 0) := by
  unfold scaleV
  rcases psize_eq n num with ⟨_, e⟩ | ⟨k, _⟩
  · rw [round_pos e d0]
  · exact absurd h k
theorem scaleV_neg {n num den : Int} (d0 : 1 ≤ den) (h : (n < 0) ≠ (num < 0)) : scaleV n num den = held (-(psize n num / den + if den < 2 * (psize n num % den) then 1 else 0)) := by
  unfold scaleV
  rcases psize_eq n num with ⟨k, _⟩ | ⟨_, e⟩
  · exact absurd k h
  · rw [round_neg e d0]
/-- sign and half, decided: what is to be held -/
theorem scaleV_cases (n num den : Int) (d0 : 1 ≤ den) : 
    (((n < 0 ∧ num < 0) ∨ (0 ≤ n ∧ 0 ≤ num)) ∧ den ≤ 2 * (psize n num % den) ∧ scaleV n num den = held (psize n num / den + 1)) ∨
    (((n < 0 ∧ num < 0) ∨ (0 ≤ n ∧ 0 ≤ num)) ∧ 2 * (psize n num % den) < den ∧ scaleV n num den = held (psize n num / den)) ∨
    (((n < 0 ∧ 0 ≤ num) ∨ (0 ≤ n ∧ num < 0)) ∧ den < 2 * (psize n num % den) ∧ scaleV n num den = held (-(psize n num / den + 1))) ∨
    (((n < 0 ∧ 0 ≤ num) ∨ (0 ≤ n ∧ num < 0)) ∧ 2 * (psize n num % den) ≤ den ∧ scaleV n num den = held (-(psize n num / den))) := by
  by_cases h : (n < 0 ∧ num < 0) ∨ (0 ≤ n ∧ 0 ≤ num)
  · have e := scaleV_pos (n := n) (num := num) d0 (by simp only [eq_iff_iff]; omega)
    by_cases k : den ≤ 2 * (psize n num % den)
    · rw [if_pos k] at e; exact Or.inl ⟨h, k, e⟩
    · rw [if_neg k, Int.add_zero] at e; exact Or.inr (Or.inl ⟨h, by omega, e⟩)
  · have e := scaleV_neg (n := n) (num := num) d0 (by simp only [ne_eq, eq_iff_iff]; omega)
    by_cases k : den < 2 * (psize n num % den)
    · rw [if_pos k] at e; exact Or.inr (Or.inr (Or.inl ⟨by omega, k, e⟩))
    · rw [if_neg k, Int.add_zero] at e; exact Or.inr (Or.inr (Or.inr ⟨by omega, by omega, e⟩))
set_option maxHeartbeats 2000000 in
theorem scale_yes10 (n num den : Int) (h0 : -9223372036854775808 ≤ n) (h1 : n ≤ 9223372036854775807) (k0 : -9223372036854775808 ≤ num) (k1 : num ≤ 9223372036854775807)
    (d0 : 1 ≤ den) (d1 : den ≤ 9223372036854775807) (w : World) :
    Calls Try.prog 10 #[.int .i64 n, .int .i64 num, .int .i64 den] w fun e w' => e = .returned (.int .i64 (scaleV n num den)) ∧ Grown w w' := by
  have hc := scaleV_cases n num den d0
  have hno := quot_no n num den h0 h1 k0 k1 d0 d1
  have hyes := quot_yes n num den h0 h1 k0 k1 d0 d1
  have hP := psize_nonneg n num
  have hR0 := Int.emod_nonneg (psize n num) (b := den) (by omega)
  have hR1 := Int.emod_lt_of_pos (psize n num) (b := den) (by omega)
  have hQ0 : 0 ≤ psize n num / den := Int.ediv_nonneg hP (by omega)
  have hno' : den * 18446744073709551616 ≤ psize n num → 18446744073709551616 ≤ psize n num / den := fun h => (Int.le_ediv_iff_mul_le (by omega)).2 (by omega)
  have hyes' : psize n num < den * 18446744073709551616 → psize n num / den ≤ 18446744073709551615 := fun h => by
    have := (Int.ediv_lt_iff_lt_mul (a := psize n num) (c := den) (b := 18446744073709551616) (by omega)).2 (by omega)
    omega
  obtain ⟨Q, hQ⟩ : ∃ Q, psize n num / den = Q := ⟨_, rfl⟩
  obtain ⟨R, hR⟩ : ∃ R, psize n num % den = R := ⟨_, rfl⟩
  obtain ⟨V, hV⟩ : ∃ V, scaleV n num den = V := ⟨_, rfl⟩
  rw [hQ, hR] at hyes
  rw [hQ] at hno' hyes' hQ0
  rw [hR] at hR0 hR1
  rw [hQ, hR, hV] at hc
  rw [hV]
  clear hQ hR hV hP
  rcases Int.lt_or_le (psize n num) (den * 18446744073709551616) with hf | hf
  · have hy := hyes hf
    have hy' := hyes' hf
    clear hno hno' hyes hyes' hf
    by_cases hb : 1099511627776 < Q
    all_goals
      rcases hc with ⟨hs | hs, hr, hv⟩ | ⟨hs | hs, hr, hv⟩ | ⟨hs | hs, hr, hv⟩ | ⟨hs | hs, hr, hv⟩
      all_goals
        have HV := Lib.hid hv
        clear hv
        obtain ⟨s1, s2⟩ := hs
        have b1 := signs n
        have b2 := signs num
        rcases b1 with ⟨b0, b1⟩ | ⟨b0, b1⟩ <;> rcases b2 with ⟨c0, b2⟩ | ⟨c0, b2⟩ <;> (try omega)
        clear b0 c0
        go_enter Try.func10, Try.ntmps10
        go_wp2_with (first | (go_at_call 23; refine (hy _).mono ?_; rintro e W1 ⟨rfl, hg⟩) | (go_at_call 12; refine (clamp12 _ _).mono ?_; rintro e w' ⟨rfl, rfl⟩))
        go_ret
        exact ⟨ret1 ((held_eq (by omega)).trans HV.out.symm), grown_of hg⟩
  · have hn := hno hf
    have hn' := hno' hf
    clear hno hno' hyes hyes' hf
    rcases hc with ⟨hs | hs, hr, hv⟩ | ⟨hs | hs, hr, hv⟩ | ⟨hs | hs, hr, hv⟩ | ⟨hs | hs, hr, hv⟩
    all_goals
      have HV := Lib.hid hv
      clear hv
      obtain ⟨s1, s2⟩ := hs
      have b1 := signs n
      have b2 := signs num
      rcases b1 with ⟨b0, b1⟩ | ⟨b0, b1⟩ <;> rcases b2 with ⟨c0, b2⟩ | ⟨c0, b2⟩ <;> (try omega)
      clear b0 c0
      go_enter Try.func10, Try.ntmps10
      go_wp2_with (first | (go_at_call 23; refine (hn _).mono ?_; rintro e W1 ⟨rfl, hg⟩) | (go_at_call 12; refine (clamp12 _ _).mono ?_; rintro e w' ⟨rfl, rfl⟩))
      go_ret
      exact ⟨ret1 ((held_eq (by omega)).trans HV.out.symm), grown_of hg⟩
end Go.Proofs.Ytijhcgppahncdaa
