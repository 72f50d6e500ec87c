/-
  The document's forms of texts as plain functions: bytes of a rune, the form at the start of some bytes, decoding, units. No program in this text. No condition.
-/
import Derived.Lib.DecodeN
import Derived.Test.YtekjejbcdnghjaaDoorUta
set_option linter.unusedVariables false
namespace Go.Proofs.YtekjejbcdnghjaaDoor
theorem decode_two (n b0 b1 b2 b3 : Nat) (lo hi : Nat) (h0 : 194 ≤ b0 ∧ b0 < 224) (h1 : b1 < 256) (hl : longP b0 = 2) (hlo : loP b0 = 128) (hhi : hiP b0 = 191) :
    (((Lib.slowN n b0 b1 b2 b3 2 128 191).1 : Int), (Lib.slowN n b0 b1 b2 b3 2 128 191).2) =
      if (standN n b0 b1 b2 b3).2 = true then (runeN (standN n b0 b1 b2 b3).1 b0 b1 b2 b3, (standN n b0 b1 b2 b3).1) else (65533, 1) := by
  have hs : secP (b0 : Int) (b1 : Int) ↔ 128 ≤ b1 ∧ b1 ≤ 191 := by unfold secP; rw [hlo, hhi]; omega
  unfold Lib.slowN standN
  simp only [hl, hs]
  by_cases c1 : n < 2
  · simp [c1]
  by_cases c2 : 128 ≤ b1 ∧ b1 ≤ 191
  · have c3 : ¬ (b1 < 128 ∨ 191 < b1) := by omega
    simp [c1, c2, c3, runeN]
    omega
  · have c3 : b1 < 128 ∨ 191 < b1 := by omega
    simp [c1, c2, c3]
theorem decode_three (n b0 b1 b2 b3 : Nat) (lo hi : Nat) (h0 : 224 ≤ b0 ∧ b0 < 240) (hl : longP b0 = 3) (hlo : loP b0 = (lo : Int)) (hhi : hiP b0 = (hi : Int)) (hb : 128 ≤ lo ∧ hi ≤ 191) :
    (((Lib.slowN n b0 b1 b2 b3 3 lo hi).1 : Int), (Lib.slowN n b0 b1 b2 b3 3 lo hi).2) =
      if (standN n b0 b1 b2 b3).2 = true then (runeN (standN n b0 b1 b2 b3).1 b0 b1 b2 b3, (standN n b0 b1 b2 b3).1) else (65533, 1) := by
  have hs : secP (b0 : Int) (b1 : Int) ↔ lo ≤ b1 ∧ b1 ≤ hi := by unfold secP; rw [hlo, hhi]; omega
  have ho : okP (b2 : Int) ↔ 128 ≤ b2 ∧ b2 ≤ 191 := by unfold okP; omega
  unfold Lib.slowN standN
  simp only [hl, hs, ho]
  by_cases c1 : n < 3
  · by_cases c2 : n < 2
    · simp [c1, c2]
    · by_cases c3 : lo ≤ b1 ∧ b1 ≤ hi <;> simp [c1, c2, c3]
  have c2 : ¬ n < 2 := by omega
  by_cases c3 : lo ≤ b1 ∧ b1 ≤ hi
  · have c4 : ¬ (b1 < lo ∨ hi < b1) := by omega
    by_cases c5 : 128 ≤ b2 ∧ b2 ≤ 191
    · have c6 : ¬ (b2 < 128 ∨ 191 < b2) := by omega
      simp [c1, c2, c3, c4, c5, c6, runeN]
      omega
    · have c6 : b2 < 128 ∨ 191 < b2 := by omega
      simp [c1, c2, c3, c4, c5, c6]
  · have c4 : b1 < lo ∨ hi < b1 := by omega
    simp [c1, c2, c3, c4]
theorem decode_four (n b0 b1 b2 b3 : Nat) (lo hi : Nat) (h0 : 240 ≤ b0 ∧ b0 < 245) (hl : longP b0 = 4) (hlo : loP b0 = (lo : Int)) (hhi : hiP b0 = (hi : Int)) (hb : 128 ≤ lo ∧ hi ≤ 191) :
    (((Lib.slowN n b0 b1 b2 b3 4 lo hi).1 : Int), (Lib.slowN n b0 b1 b2 b3 4 lo hi).2) =
      if (standN n b0 b1 b2 b3).2 = true then (runeN (standN n b0 b1 b2 b3).1 b0 b1 b2 b3, (standN n b0 b1 b2 b3).1) else (65533, 1) := by
  have hs : secP (b0 : Int) (b1 : Int) ↔ lo ≤ b1 ∧ b1 ≤ hi := by unfold secP; rw [hlo, hhi]; omega
  have ho : okP (b2 : Int) ↔ 128 ≤ b2 ∧ b2 ≤ 191 := by unfold okP; omega
  have ho' : okP (b3 : Int) ↔ 128 ≤ b3 ∧ b3 ≤ 191 := by unfold okP; omega
  unfold Lib.slowN standN
  simp only [hl, hs, ho, ho']
  by_cases c1 : n < 4
  · by_cases c2 : n < 2
    · simp [c1, c2]
    · by_cases c3 : lo ≤ b1 ∧ b1 ≤ hi
      · by_cases d3 : n < 3
        · simp [c1, c2, c3, d3]
        · by_cases c5 : 128 ≤ b2 ∧ b2 ≤ 191 <;> simp [c1, c2, c3, d3, c5]
      · simp [c1, c2, c3]
  have c2 : ¬ n < 2 := by omega
  have d2 : ¬ n < 3 := by omega
  by_cases c3 : lo ≤ b1 ∧ b1 ≤ hi
  · have c4 : ¬ (b1 < lo ∨ hi < b1) := by omega
    by_cases c5 : 128 ≤ b2 ∧ b2 ≤ 191
    · have c6 : ¬ (b2 < 128 ∨ 191 < b2) := by omega
      by_cases c7 : 128 ≤ b3 ∧ b3 ≤ 191
      · have c8 : ¬ (b3 < 128 ∨ 191 < b3) := by omega
        simp [c1, c2, d2, c3, c4, c5, c6, c7, c8, runeN]
        omega
      · have c8 : b3 < 128 ∨ 191 < b3 := by omega
        simp [c1, c2, d2, c3, c4, c5, c6, c7, c8]
    · have c6 : b2 < 128 ∨ 191 < b2 := by omega
      simp [c1, c2, d2, c3, c4, c5, c6]
  · have c4 : b1 < lo ∨ hi < b1 := by omega
    simp [c1, c2, c3, c4]
/-- Go's decoder, in these words -/
theorem decode_stand (n b0 b1 b2 b3 : Nat) (hn : 1 ≤ n) (h0 : b0 < 256) (h1 : b1 < 256) (h2 : b2 < 256) (h3 : b3 < 256) :
    (((Lib.decodeN n b0 b1 b2 b3).1 : Int), (Lib.decodeN n b0 b1 b2 b3).2) =
      if (standN n b0 b1 b2 b3).2 = true then (runeN (standN n b0 b1 b2 b3).1 b0 b1 b2 b3, (standN n b0 b1 b2 b3).1) else (65533, 1) := by
  by_cases k1 : b0 < 128
  · have hl : longP (b0 : Int) = 1 := by unfold longP; rw [if_pos (by omega)]
    have : Lib.decodeN n b0 b1 b2 b3 = (b0, 1) := by simp [Lib.decodeN, k1]
    rw [this]
    simp [standN, hl, runeN]
  by_cases k2 : b0 < 194 ∨ 244 < b0
  · have hl : longP (b0 : Int) = 0 := by unfold longP; rw [if_neg (by omega), if_pos (by omega)]
    have : Lib.decodeN n b0 b1 b2 b3 = (65533, 1) := by
      unfold Lib.decodeN
      rw [if_neg (by omega)]
      repeat' split
      all_goals first | rfl | (exfalso; omega)
    rw [this]
    simp [standN, hl]
  by_cases k3 : b0 < 224
  · rw [← Lib.slow_C2 n b0 b1 b2 b3 hn h1 h2 h3 (by omega)]
    exact decode_two n b0 b1 b2 b3 128 191 (by omega) h1 (by unfold longP; repeat' split <;> omega) (by unfold loP; repeat' split <;> omega) (by unfold hiP; repeat' split <;> omega)
  by_cases k4 : b0 < 240
  · have hl : longP (b0 : Int) = 3 := by unfold longP; repeat' split <;> omega
    by_cases m1 : b0 = 224
    · rw [← Lib.slow_E0 n b0 b1 b2 b3 hn h1 h2 h3 m1]
      exact decode_three n b0 b1 b2 b3 160 191 (by omega) hl (by unfold loP; repeat' split <;> omega) (by unfold hiP; repeat' split <;> omega) (by omega)
    by_cases m2 : b0 = 237
    · rw [← Lib.slow_ED n b0 b1 b2 b3 hn h1 h2 h3 m2]
      exact decode_three n b0 b1 b2 b3 128 159 (by omega) hl (by unfold loP; repeat' split <;> omega) (by unfold hiP; repeat' split <;> omega) (by omega)
    rw [← Lib.slow_E1 n b0 b1 b2 b3 hn h1 h2 h3 (by omega)]
    exact decode_three n b0 b1 b2 b3 128 191 (by omega) hl (by unfold loP; repeat' split <;> omega) (by unfold hiP; repeat' split <;> omega) (by omega)
  have hl : longP (b0 : Int) = 4 := by unfold longP; repeat' split <;> omega
  by_cases m1 : b0 = 240
  · rw [← Lib.slow_F0 n b0 b1 b2 b3 hn h1 h2 h3 m1]
    exact decode_four n b0 b1 b2 b3 144 191 (by omega) hl (by unfold loP; repeat' split <;> omega) (by unfold hiP; repeat' split <;> omega) (by omega)
  by_cases m2 : b0 = 244
  · rw [← Lib.slow_F4 n b0 b1 b2 b3 hn h1 h2 h3 m2]
    exact decode_four n b0 b1 b2 b3 128 143 (by omega) hl (by unfold loP; repeat' split <;> omega) (by unfold hiP; repeat' split <;> omega) (by omega)
  rw [← Lib.slow_F1 n b0 b1 b2 b3 hn h1 h2 h3 (by omega)]
  exact decode_four n b0 b1 b2 b3 128 191 (by omega) hl (by unfold loP; repeat' split <;> omega) (by unfold hiP; repeat' split <;> omega) (by omega)
end Go.Proofs.YtekjejbcdnghjaaDoor
