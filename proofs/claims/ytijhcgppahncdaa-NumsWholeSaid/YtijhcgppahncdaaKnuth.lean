/-
  Plain arithmetic under math/bits.Div64 (two digits of 32 bits, each guessed and brought down): facts on integers alone, no condition but the stated ones.
-/
set_option linter.unusedVariables false
namespace Go.Proofs.Ytijhcgppahncdaa.Knuth

/-- what holds at the head of the loop that brings a guess down: Y = D1 * 2^32 + D0 divides U * 2^32 + u -/
structure Inv (U u Y D1 D0 q r : Int) : Prop where
  sum : q * D1 + r = U
  low : (U * 4294967296 + u) / Y ≤ q
  top : q ≤ 4294967297
  r0 : 0 ≤ r
  r1 : r < 4294967296

structure Args (U u Y D1 D0 : Int) : Prop where
  y : Y = D1 * 4294967296 + D0
  d1 : 2147483648 ≤ D1
  d1' : D1 < 4294967296
  d0 : 0 ≤ D0
  d0' : D0 < 4294967296
  u0 : 0 ≤ u
  u1 : u < 4294967296
  U0 : 0 ≤ U
  U1 : U < Y

theorem quo_in {U u Y D1 D0 : Int} (A : Args U u Y D1 D0) : 0 ≤ (U * 4294967296 + u) / Y ∧ (U * 4294967296 + u) / Y < 4294967296 := by
  obtain ⟨a, b, c, d, e, f, g, h, i⟩ := A
  refine ⟨Int.ediv_nonneg (by omega) (by omega), ?_⟩
  exact (Int.ediv_lt_iff_lt_mul (by omega)).2 (by omega)

theorem rem_in {U u Y D1 D0 : Int} (A : Args U u Y D1 D0) : 0 ≤ (U * 4294967296 + u) % Y ∧ (U * 4294967296 + u) % Y < Y := by
  obtain ⟨a, b, c, d, e, f, g, h, i⟩ := A
  exact ⟨Int.emod_nonneg _ (by omega), Int.emod_lt_of_pos _ (by omega)⟩

/-- q times Y, spelt out -/
theorem mulY {U u Y D1 D0 q r : Int} (A : Args U u Y D1 D0) (h : q * D1 + r = U) : q * Y = U * 4294967296 - r * 4294967296 + q * D0 := by
  rw [A.y, Int.mul_add, ← Int.mul_assoc]
  omega

theorem start {U u Y D1 D0 : Int} (A : Args U u Y D1 D0) : Inv U u Y D1 D0 (U / D1) (U - U / D1 * D1) := by
  have hm := Int.mul_ediv_add_emod U D1
  have hc : U / D1 * D1 = D1 * (U / D1) := Int.mul_comm _ _
  have h0 := Int.emod_nonneg U (b := D1) (by have := A.d1; omega)
  have h1 := Int.emod_lt_of_pos U (b := D1) (by have := A.d1; omega)
  have hq0 : 0 ≤ U / D1 := Int.ediv_nonneg A.U0 (by have := A.d1; omega)
  have sum : U / D1 * D1 + (U - U / D1 * D1) = U := by omega
  obtain ⟨a, b, c, d, e, f, g, h, i⟩ := A
  refine ⟨sum, ?_, ?_, by omega, by omega⟩
  · -- a quotient by the leading digit is no smaller
    have hY := mulY ⟨a, b, c, d, e, f, g, h, i⟩ sum
    have hD : 0 ≤ U / D1 * D0 := Int.mul_nonneg hq0 d
    -- N < (q + 1) * Y
    have hlt : U * 4294967296 + u < (U / D1 + 1) * Y := by
      rw [Int.add_mul, hY]; omega
    have := (Int.ediv_lt_iff_lt_mul (c := Y) (by omega)).2 hlt
    omega
  · have h2 : U < (4294967298) * D1 := by omega
    have := (Int.ediv_lt_iff_lt_mul (c := D1) (by omega)).2 h2
    omega

theorem stop {U u Y D1 D0 q r : Int} (A : Args U u Y D1 D0) (I : Inv U u Y D1 D0 q r) (h1 : q * D0 ≤ 4294967296 * r + u) : q = (U * 4294967296 + u) / Y := by
  have hY := mulY A I.sum
  have hle : q * Y ≤ U * 4294967296 + u := by omega
  have := (Int.le_ediv_iff_mul_le (c := Y) (by have := A.y; have := A.d1; have := A.d0; omega)).2 hle
  have := I.low
  omega

theorem down {U u Y D1 D0 q r : Int} (A : Args U u Y D1 D0) (I : Inv U u Y D1 D0 q r) (h : 4294967296 ≤ q ∨ 4294967296 * r + u < q * D0) :
    (U * 4294967296 + u) / Y ≤ q - 1 ∧ (q - 1) * D1 + (r + D1) = U ∧ 1 ≤ q := by
  have hq := quo_in A
  have hs : (q - 1) * D1 + (r + D1) = U := by rw [Int.sub_mul]; have := I.sum; omega
  have hlow := I.low
  rcases h with h | h
  · exact ⟨by omega, hs, by omega⟩
  · have hY := mulY A I.sum
    have hlt : U * 4294967296 + u < q * Y := by omega
    have := (Int.ediv_lt_iff_lt_mul (c := Y) (by have := A.y; have := A.d1; have := A.d0; omega)).2 hlt
    exact ⟨by omega, hs, by omega⟩

theorem next {U u Y D1 D0 q r : Int} (A : Args U u Y D1 D0) (I : Inv U u Y D1 D0 q r) (h : 4294967296 ≤ q ∨ 4294967296 * r + u < q * D0) (hr : r + D1 < 4294967296) :
    Inv U u Y D1 D0 (q - 1) (r + D1) := by
  obtain ⟨a, b, c⟩ := down A I h
  have := I.top
  have := I.r0
  have := A.d1
  exact ⟨b, a, by omega, by omega, hr⟩

theorem out {U u Y D1 D0 q r : Int} (A : Args U u Y D1 D0) (I : Inv U u Y D1 D0 q r) (h : 4294967296 ≤ q ∨ 4294967296 * r + u < q * D0) (hr : 4294967296 ≤ r + D1) :
    q - 1 = (U * 4294967296 + u) / Y := by
  obtain ⟨a, b, c⟩ := down A I h
  have hY := mulY A b
  have ht := I.top
  have hle : (q - 1) * D0 ≤ 4294967296 * D0 := Int.mul_le_mul_of_nonneg_right (by omega) A.d0
  have hle : (q - 1) * Y ≤ U * 4294967296 + u := by
    have := A.u0; have := A.d0'; omega
  have := (Int.le_ediv_iff_mul_le (c := Y) (by have := A.y; have := A.d1; have := A.d0; omega)).2 hle
  omega

/-- the guess times the low digit fits -/
theorem prod {D0 q : Int} (h0 : 0 ≤ q) (h1 : q < 4294967296) (d0 : 0 ≤ D0) (d1 : D0 < 4294967296) : 0 ≤ q * D0 ∧ q * D0 ≤ 18446744073709551615 := by
  refine ⟨Int.mul_nonneg h0 d0, ?_⟩
  have : q * D0 ≤ 4294967295 * D0 := Int.mul_le_mul_of_nonneg_right (by omega) d0
  omega

theorem rest {U u Y D1 D0 Q : Int} (A : Args U u Y D1 D0) (hQ : Q = (U * 4294967296 + u) / Y) : U * 4294967296 + u - Q * Y = (U * 4294967296 + u) % Y := by
  subst hQ
  have := Int.mul_ediv_add_emod (U * 4294967296 + u) Y
  have : (U * 4294967296 + u) / Y * Y = Y * ((U * 4294967296 + u) / Y) := Int.mul_comm _ _
  omega

/-- both digits: U * 2^64 + L = X * P is divided by y * P -/
theorem whole {X P y U L Q1 R1 Q0 R0 : Int} (hP : 0 < P) (hy : 0 < y) (h : U * 18446744073709551616 + L = X * P)
    (e1 : U * 4294967296 + L / 4294967296 - Q1 * (y * P) = R1) (e0 : R1 * 4294967296 + L % 4294967296 - Q0 * (y * P) = R0)
    (h0 : 0 ≤ R0) (h1 : R0 < y * P) : Q1 * 4294967296 + Q0 = X / y ∧ R0 / P = X % y := by
  have hL : L = L / 4294967296 * 4294967296 + L % 4294967296 := by omega
  have e : (Q1 * 4294967296 + Q0) * (y * P) + R0 = X * P := by
    rw [Int.add_mul, Int.mul_assoc, Int.mul_comm 4294967296, ← Int.mul_assoc]
    omega
  have f : R0 = (X - (Q1 * 4294967296 + Q0) * y) * P := by
    rw [Int.sub_mul, Int.mul_assoc _ y P]; omega
  have g : R0 / P = X - (Q1 * 4294967296 + Q0) * y := by rw [f]; exact Int.mul_ediv_cancel _ (by omega)
  have k0 : 0 ≤ X - (Q1 * 4294967296 + Q0) * y := by
    rw [← g]; exact Int.ediv_nonneg h0 (by omega)
  have k1 : X - (Q1 * 4294967296 + Q0) * y < y := by
    rw [← g]; exact (Int.ediv_lt_iff_lt_mul hP).2 h1
  have := (Int.ediv_emod_unique (a := X) (b := y) (r := X - (Q1 * 4294967296 + Q0) * y) (q := Q1 * 4294967296 + Q0) hy).2
    ⟨by rw [Int.mul_comm y]; omega, k0, k1⟩
  exact ⟨this.1.symm, by rw [g]; exact this.2.symm⟩
end Go.Proofs.Ytijhcgppahncdaa.Knuth
