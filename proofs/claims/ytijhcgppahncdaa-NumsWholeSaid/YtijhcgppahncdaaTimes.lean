/-
  typecaseref01.times returns the quotient of a * b by den, cut off at most, and the remainder, where 1 ≤ den < 2^63, a and b are at most 2^63, and either most is at most 2^41, or b is at most den and most is 2^63.
-/
import Derived.Test.YtijhcgppahncdaaProg
import Derived.Test.YtijhcgppahncdaaMath
import Derived.WalkKit
import Derived.ProofKit
import Derived.OpenShut
import Derived.Lib.Hide
import Derived.LoopTactic
import Derived.Laws.Bits64b
set_option linter.unusedVariables false
namespace Go.Proofs.Ytijhcgppahncdaa
open Go.ChangeShapes Go.WideShapes Go.ChangeAt Go.RowKit

theorem bits_one (x : Int) (h0 : 0 ≤ x) (h1 : x ≤ 18446744073709551615) : bits .and .u64 x 1 = x % 2 := by
  obtain ⟨n, rfl⟩ : ∃ n : Nat, x = n := ⟨x.toNat, by omega⟩
  have h := bits_and_u64_nat n 1 (by omega) (by omega)
  rw [Nat.and_one_is_mod] at h
  exact h
def TimesPost (a b den most : Int) (e : Ending) : Prop := ∃ q r : Int, e = .returned (.tuple #[.int .u64 q, .int .u64 r]) ∧ TInv a b den most 0 q r
theorem times_round_end {a b den most : Int} {j : Nat} {q r : Int} (h : TInv a b den most j q r) (hk : j + 1 ≤ 64) :
    ∃ (k : Nat) (qq rr : Int), k ≤ 64 ∧ Value.int .i64 ((j : Int) - 1) = .int .i64 ((k : Int) - 1) ∧ Value.int .u64 q = .int .u64 qq ∧ Value.int .u64 r = .int .u64 rr ∧ TInv a b den most k qq rr :=
  ⟨j, q, r, by omega, rfl, rfl, rfl, h⟩
set_option maxHeartbeats 1000000 in
theorem times_any (a b den most : Int) (ha : 0 ≤ a) (ha' : a ≤ 9223372036854775808) (hb : 0 ≤ b) (hb' : b ≤ 9223372036854775808) (hd : 1 ≤ den) (hd' : den ≤ 9223372036854775807) (hm : 0 ≤ most) (hm' : most ≤ 9223372036854775808) (hov : most ≤ 2199023255552 ∨ b ≤ den) (w : World) :
    Calls Try.prog 24 #[.int .u64 a, .int .u64 b, .int .u64 den, .int .u64 most] w fun e w' => TimesPost a b den most e ∧ w = w' := by
  have hs := tinv_start a b den most hb hb' hd hm
  have hdv := Int.ediv_nonneg ha (show 0 ≤ den by omega)
  have hdl := Int.ediv_le_self den ha
  have hmo := Int.emod_nonneg a (b := den) (by omega)
  have hml := Int.emod_lt_of_pos a (b := den) (by omega)
  have HOV := hov
  clear hov
  have HOV := Lib.hid HOV
  go_enter Try.func24, Try.ntmps24
  go_wp2
  go_loop [10, 11, 12] (fun q r i => ∃ (k : Nat) (qq rr : Int), k ≤ 64 ∧ i = .int .i64 ((k : Int) - 1) ∧ q = .int .u64 qq ∧ r = .int .u64 rr ∧ TInv a b den most k qq rr) (fun _ _ i => (intOf i + 1).toNat)
  case atStart => exact ⟨64, 0, 0, by omega, rfl, rfl, rfl, hs⟩
  case round =>
    clear hs
    obtain ⟨k, q, r, hk, rfl, rfl, rfl, hT⟩ := hrel
    by_cases h0 : k = 0
    · subst h0
      go_wp2
      go_ret2
      exact ⟨⟨q, r, rfl, hT⟩, rfl⟩
    · obtain ⟨j, rfl⟩ : ∃ j, k = j + 1 := ⟨k - 1, by omega⟩
      obtain ⟨hb1, hb3, hb4, hb5⟩ := tinv_bound hT ha hb hd hm HOV.out
      have hp0 : 0 ≤ b / 2 ^ j := Int.ediv_nonneg hb (Int.le_of_lt (Int.pow_pos (by omega)))
      have hp1 : b / 2 ^ j ≤ b := Int.ediv_le_self _ hb
      have hbo := bits_one (b / 2 ^ j) hp0 (by omega)
      clear h0
      by_cases hx : b / 2 ^ j % 2 = 1
      · have hbit : (bits .and .u64 (b / 2 ^ j) 1 == 1) = true := by rw [hbo, hx]; rfl
        have hb6 : 2 * q + a / den ≤ 9223372036854775808 + 4398046511104 := by
          rcases hb5 with h | ⟨_, h⟩
          · omega
          · have := h hx; omega
        clear hbo hb5
        have HX := Lib.hid hx
        clear hx hp0 hp1
        go_wp2
        all_goals
          go_round
          case rel =>
            refine times_round_end ?_ hk
            first
            | exact tinv_step hT hd 1 0 0 _ _ HX.out (Or.inr rfl) (by omega) (by omega) (by omega) (by omega) (by omega) (by omega) (by omega) hm
            | exact tinv_step hT hd 1 1 0 _ _ HX.out (Or.inr rfl) (by omega) (by omega) (by omega) (by omega) (by omega) (by omega) (by omega) hm
            | exact tinv_step hT hd 1 0 1 _ _ HX.out (Or.inr rfl) (by omega) (by omega) (by omega) (by omega) (by omega) (by omega) (by omega) hm
            | exact tinv_step hT hd 1 1 1 _ _ HX.out (Or.inr rfl) (by omega) (by omega) (by omega) (by omega) (by omega) (by omega) (by omega) hm
          case measure => simp [intOf]
      · have hx : b / 2 ^ j % 2 = 0 := by omega
        have hbit : (bits .and .u64 (b / 2 ^ j) 1 == 1) = false := by rw [hbo, hx]; rfl
        have hb6 : 2 * q ≤ 9223372036854775808 + 4398046511104 := by
          rcases hb5 with h | ⟨h, _⟩
          · omega
          · omega
        clear hbo hb5
        have HX := Lib.hid hx
        clear hx hp0 hp1
        go_wp2
        all_goals
          go_round
          case rel =>
            refine times_round_end ?_ hk
            first
            | exact tinv_step hT hd 0 0 0 _ _ HX.out (Or.inl rfl) (by omega) (by omega) (by omega) (by omega) (by omega) (by omega) (by omega) hm
            | exact tinv_step hT hd 0 1 0 _ _ HX.out (Or.inl rfl) (by omega) (by omega) (by omega) (by omega) (by omega) (by omega) (by omega) hm
          case measure => simp [intOf]
end Go.Proofs.Ytijhcgppahncdaa
