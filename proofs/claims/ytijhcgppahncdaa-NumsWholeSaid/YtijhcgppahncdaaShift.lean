/-
  Shifts by the number of leading zeros, in plain arithmetic: what math/bits.Div64 does with its arguments before it divides. No condition but the stated ones.
-/
import Derived.Lib.BitFns
import Derived.Laws.Bits64b
import Derived.RowKit
set_option linter.unusedVariables false
namespace Go.Proofs.Ytijhcgppahncdaa.Shift

theorem bitLen_zero : Lib.bitLen 0 = 0 := by decide +kernel
theorem bitLen_low : ∀ (k x : Nat), Lib.bitLen x = k + 1 → x < 2 ^ 64 → 2 ^ k ≤ x := by
  intro k
  induction k with
  | zero =>
    intro x h hx
    rcases Nat.eq_zero_or_pos x with rfl | h0
    · rw [bitLen_zero] at h; omega
    · exact h0
  | succ k ih =>
    intro x h hx
    have h0 : x ≠ 0 := by rintro rfl; rw [bitLen_zero] at h; omega
    rw [Lib.bitLen_half x h0 hx] at h
    have := ih (x / 2) (by omega) (by omega)
    rw [Nat.pow_succ]; omega
theorem bitLen_top (k x : Nat) (h : Lib.bitLen x ≤ k) (hx : x < 2 ^ 64) : x < 2 ^ k := by
  rcases Nat.lt_or_ge x (2 ^ k) with g | g
  · exact g
  · exfalso
    have e := Lib.bitLen_shift k x g hx
    have hp : 0 < 2 ^ k := Nat.two_pow_pos k
    have h1 : 0 < x / 2 ^ k := Nat.div_pos g hp
    have hd : x / 2 ^ k ≤ x := Nat.div_le_self _ _
    rw [Lib.bitLen_half (x / 2 ^ k) (by omega) (by omega)] at e
    omega
structure Fit (y P Q : Int) : Prop where
  p0 : 0 < P
  q0 : 0 < Q
  pq : P * Q = 18446744073709551616
  lo : 9223372036854775808 ≤ y * P
  hi : y * P ≤ 18446744073709551615
theorem fit (y s : Nat) (h0 : 0 < y) (h1 : y ≤ 9223372036854775807) (hs : s + Lib.bitLen y = 64) : Fit y (2 ^ s) (2 ^ (64 - s)) ∧ 1 ≤ s ∧ s ≤ 63 := by
  have hle := Lib.bitLen_le y 63 (by omega) (by omega)
  have hpos : Lib.bitLen y ≠ 0 := by rw [Lib.bitLen_half y (by omega) (by omega)]; omega
  obtain ⟨k, hk⟩ : ∃ k, Lib.bitLen y = k + 1 := ⟨Lib.bitLen y - 1, by omega⟩
  have hlow := bitLen_low k y hk (by omega)
  have htop := bitLen_top (k + 1) y (by omega) (by omega)
  have e1 : 64 - s = k + 1 := by omega
  have epq : 2 ^ s * 2 ^ (k + 1) = 18446744073709551616 := by rw [← Nat.pow_add, show s + (k + 1) = 64 by omega]
  have epq' : 2 ^ k * 2 ^ s = 9223372036854775808 := by rw [← Nat.pow_add, show k + s = 63 by omega]
  have hp : 0 < 2 ^ s := Nat.two_pow_pos s
  have hq : 0 < 2 ^ (k + 1) := Nat.two_pow_pos _
  have a1 : 2 ^ k * 2 ^ s ≤ y * 2 ^ s := Nat.mul_le_mul_right _ hlow
  have a2 : (y + 1) * 2 ^ s ≤ 2 ^ (k + 1) * 2 ^ s := Nat.mul_le_mul_right _ htop
  rw [Nat.mul_comm (2 ^ (k + 1)), epq, Nat.add_mul] at a2
  rw [epq'] at a1
  refine ⟨?_, by omega, by omega⟩
  rw [e1]
  have c1 : ((2 : Int) ^ s) = ((2 ^ s : Nat) : Int) := by simp
  have c2 : ((2 : Int) ^ (k + 1)) = ((2 ^ (k + 1) : Nat) : Int) := by simp
  rw [c1, c2]
  generalize 2 ^ s = P at *
  generalize 2 ^ (k + 1) = Q at *
  refine ⟨by omega, by omega, ?_, ?_, ?_⟩
  · rw [← Int.natCast_mul, epq]; rfl
  · rw [← Int.natCast_mul]; omega
  · rw [← Int.natCast_mul]; omega

/-- the high word with the low word's top bits, and the low word's rest -/
theorem words {hi lo y P Q : Int} (F : Fit y P Q) (h0 : 0 ≤ hi) (h1 : hi < y) (l0 : 0 ≤ lo) (l1 : lo ≤ 18446744073709551615) :
    (hi * P + lo / Q) * 18446744073709551616 + lo * P % 18446744073709551616 = (hi * 18446744073709551616 + lo) * P ∧
    0 ≤ hi * P + lo / Q ∧ hi * P + lo / Q < y * P ∧ 0 ≤ hi * P ∧ hi * P ≤ 18446744073709551615 ∧ 0 ≤ lo / Q ∧ lo / Q < P := by
  obtain ⟨p0, q0, pq, _, htop⟩ := F
  have e : lo * P / 18446744073709551616 = lo / Q := by
    rw [← pq, Int.mul_comm lo P]; exact Int.mul_ediv_mul_of_pos _ _ p0
  have e0 : 0 ≤ lo / Q := Int.ediv_nonneg l0 (by omega)
  have e1 : lo / Q < P := (Int.ediv_lt_iff_lt_mul q0).2 (by omega)
  have m0 : 0 ≤ hi * P := Int.mul_nonneg h0 (by omega)
  have m1 : (hi + 1) * P ≤ y * P := Int.mul_le_mul_of_nonneg_right (by omega) (by omega)
  rw [Int.add_mul, Int.one_mul] at m1
  have e2 := Int.mul_ediv_add_emod (lo * P) 18446744073709551616
  have e3 : (hi * 18446744073709551616 + lo) * P = 18446744073709551616 * (hi * P) + lo * P := by
    rw [Int.add_mul, Int.mul_comm hi, Int.mul_assoc]
  refine ⟨?_, by omega, by omega, m0, by omega, e0, e1⟩
  rw [e3]; omega

theorem or_add (hi lo s : Nat) (h : lo < 2 ^ s) (h1 : hi * 2 ^ s + lo < 18446744073709551616) :
    bits .or .u64 ((hi : Int) * 2 ^ s) (lo : Int) = (hi : Int) * 2 ^ s + lo := by
  have c1 : ((2 : Int) ^ s) = ((2 ^ s : Nat) : Int) := by simp
  have e := bits_or_u64_nat (hi * 2 ^ s) lo (by omega) (by omega)
  rw [c1, ← Int.natCast_mul, e]
  have := Nat.shiftLeft_add_eq_or_of_lt h hi
  rw [Nat.shiftLeft_eq] at this
  rw [← this]; simp
theorem or_int {hi lo : Int} {s : Nat} (h0 : 0 ≤ hi) (l0 : 0 ≤ lo) (h : lo < 2 ^ s) (h1 : hi * 2 ^ s + lo ≤ 18446744073709551615) :
    bits .or .u64 (hi * 2 ^ s) lo = hi * 2 ^ s + lo := by
  obtain ⟨a, rfl⟩ : ∃ a : Nat, hi = a := ⟨hi.toNat, by omega⟩
  obtain ⟨b, rfl⟩ : ∃ b : Nat, lo = b := ⟨lo.toNat, by omega⟩
  have c1 : ((2 : Int) ^ s) = ((2 ^ s : Nat) : Int) := by simp
  rw [c1] at h h1
  exact or_add a b s (by omega) (by rw [← Int.natCast_mul] at h1; omega)
theorem mask (x : Int) (h0 : 0 ≤ x) (h1 : x ≤ 18446744073709551615) : bits .and .u64 x 4294967295 = x % 4294967296 := by
  obtain ⟨n, rfl⟩ : ∃ n : Nat, x = n := ⟨x.toNat, by omega⟩
  have h := bits_and_u64_nat n 4294967295 (by omega) (by omega)
  rw [show n &&& 4294967295 = n % 4294967296 from Nat.and_two_pow_sub_one_eq_mod n 32] at h
  exact h
end Go.Proofs.Ytijhcgppahncdaa.Shift
