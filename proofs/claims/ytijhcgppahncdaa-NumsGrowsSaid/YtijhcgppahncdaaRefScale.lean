/-
  Contract of the document's Scale: n * num / den, rounded half up and held from -2^40 to 2^40, for every three ints with den at least 1.
-/
import Derived.Test.YtijhcgppahncdaaScale
set_option linter.unusedVariables false
namespace Go.Proofs.Ytijhcgppahncdaa
open Go.ChangeShapes Go.WideShapes Go.ChangeAt Go.RowKit
set_option maxHeartbeats 2000000 in
theorem scale_yes11 (n num den : Int) (h0 : -9223372036854775808 ≤ n) (h1 : n ≤ 9223372036854775807) (k0 : -9223372036854775808 ≤ num) (k1 : num ≤ 9223372036854775807)
    (d0 : 1 ≤ den) (d1 : den ≤ 9223372036854775807) (w : World) :
    Calls Try.prog 11 #[.int .i64 n, .int .i64 num, .int .i64 den] w fun e w' => e = .returned (.int .i64 (scaleV n num den)) ∧ w = w' := by
  have hc := scaleV_cases n num den d0
  have ht := times_any (n.natAbs : Int) (num.natAbs : Int) den 2199023255552 (by omega) (by omega) (by omega) (by omega) d0 d1 (by omega) (by omega) (Or.inl (by omega))
  have he := fun (q r : Int) (h : TInv (n.natAbs : Int) (num.natAbs : Int) den 2199023255552 0 q r) => tinv_end h d0 (by omega) (by omega)
  have hp : (n.natAbs : Int) * (num.natAbs : Int) = psize n num := by unfold psize; rw [Int.natCast_mul]
  rw [hp] at he
  have hP := psize_nonneg n num
  have hR0 := Int.emod_nonneg (psize n num) (b := den) (by omega)
  have hR1 := Int.emod_lt_of_pos (psize n num) (b := den) (by omega)
  have hQ0 : 0 ≤ psize n num / den := Int.ediv_nonneg hP (by omega)
  obtain ⟨Q, hQ⟩ : ∃ Q, psize n num / den = Q := ⟨_, rfl⟩
  obtain ⟨R, hR⟩ : ∃ R, psize n num % den = R := ⟨_, rfl⟩
  obtain ⟨V, hV⟩ : ∃ V, scaleV n num den = V := ⟨_, rfl⟩
  rw [hQ] at hQ0
  rw [hR] at hR0 hR1
  rw [hQ, hR] at he
  rw [hQ, hR, hV] at hc
  rw [hV]
  clear hQ hR hV hP hp
  rcases hc with ⟨hs | hs, hr, hv⟩ | ⟨hs | hs, hr, hv⟩ | ⟨hs | hs, hr, hv⟩ | ⟨hs | hs, hr, hv⟩
  all_goals
    have HV := Lib.hid hv
    clear hv
    obtain ⟨s1, s2⟩ := hs
    have b1 := signs n
    have b2 := signs num
    rcases b1 with ⟨b0, b1⟩ | ⟨b0, b1⟩ <;> rcases b2 with ⟨c0, b2⟩ | ⟨c0, b2⟩ <;> (try omega)
    clear b0 c0
    go_enter Try.func11, Try.ntmps11
    go_wp2_with (go_at_call 25; refine (size25 _ (by omega) (by omega) _).mono ?_; rintro e w' ⟨rfl, rfl⟩)
    refine (ht _).mono ?_
    rintro e w' ⟨⟨q, r, rfl, hT⟩, rfl⟩
    obtain ⟨rfl, hq⟩ := he q r hT
    have hq1 : 0 ≤ q := by omega
    have hq2 : q ≤ 2199023255552 := by omega
    have HQ := Lib.hid hq
    clear hq hT he
    go_wp2_with ((go_at_call 13; refine (clamp13 _ _).mono ?_; rintro e w' ⟨rfl, rfl⟩))
    go_ret
    have := HQ.out
    exact ⟨ret1 ((held_eq (by omega)).trans HV.out.symm), rfl⟩
end Go.Proofs.Ytijhcgppahncdaa
