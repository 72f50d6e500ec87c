/-
  UTF-8, the document's: how much is read, and that reading and writing undo one another. No program in this text. No condition.
-/
import Derived.Test.YtekjejbcdnghjaaDoorUtd
set_option linter.unusedVariables false
set_option linter.unusedSimpArgs false
namespace Go.Proofs.YtekjejbcdnghjaaDoor
open Go.ChangeShapes Go.WideShapes Go.ChangeAt Go.RowKit
theorem losG_step (k : Nat) (s : List Int) (p : Nat) (t : List Int) (hp : p < s.length) : losG (k + 1) s p t = losG k s (p + (standP (s.drop p)).1) (t ++ [if (standP (s.drop p)).2 = true then runeP (s.drop p) else 65533]) := by
  rw [losG, if_pos hp]
theorem losG_end (k : Nat) (s : List Int) (t : List Int) : losG (k + 1) s s.length t = t := by
  rw [losG, if_neg (by omega)]
theorem decG_len (s : List Int) : ∀ (k p : Nat) (t : List Int), p ≤ s.length → t.length ≤ p → (decG k s p t).1.length ≤ s.length
  | 0, p, t, hp, ht => by rw [decG]; exact Nat.le_trans ht hp
  | k + 1, p, t, hp, ht => by
    by_cases hlt : p < s.length
    · obtain ⟨h1, h2, h3⟩ := rest_facts s p hlt
      have hpos := standP_pos (s.drop p)
      by_cases q : (standP (s.drop p)).2 = true
      · rw [decG_ok k s p t hlt q]
        exact decG_len s k _ _ h3 (by simp; omega)
      · rw [decG_bad k s p t hlt (by simpa using q)]
        simp
    · rw [decG, if_neg hlt]
      exact Nat.le_trans ht hp
theorem decP_len (s : List Int) : (decP s).1.length ≤ s.length := decG_len s _ 0 [] (by omega) (by simp)
theorem losG_facts (s : List Int) (hz : ByteZ s) : ∀ (k p : Nat) (t : List Int), p ≤ s.length → t.length ≤ p → allP t = true → (losG k s p t).length ≤ s.length ∧ allP (losG k s p t) = true
  | 0, p, t, hp, ht, ha => by rw [losG]; exact ⟨Nat.le_trans ht hp, ha⟩
  | k + 1, p, t, hp, ht, ha => by
    by_cases hlt : p < s.length
    · obtain ⟨h1, h2, h3⟩ := rest_facts s p hlt
      have hpos := standP_pos (s.drop p)
      rw [losG_step k s p t hlt]
      refine losG_facts s hz k _ _ h3 (by simp; omega) ?_
      unfold allP at *
      rw [List.all_append, ha]
      split
      · rename_i q
        have := (rune_back _ _ _ _ _ q ((hz.drop p).get 0).1 ((hz.drop p).get 0).2).1
        simpa [runeP, standP] using this
      · decide
    · rw [losG, if_neg hlt]
      exact ⟨Nat.le_trans ht hp, ha⟩
theorem take_four (u : List Int) (n : Nat) (h4 : n ≤ 4) (hn : n ≤ u.length) : [u.getD 0 0, u.getD 1 0, u.getD 2 0, u.getD 3 0].take n = u.take n := by
  match u, n with
  | _, 0 => rfl
  | a :: l, 1 => rfl
  | a :: b :: l, 2 => rfl
  | a :: b :: c :: l, 3 => rfl
  | a :: b :: c :: d :: l, 4 => rfl
  | [], _ + 1 => simp at hn
  | [a], _ + 2 => simp at hn
  | [a, b], _ + 3 => simp at hn
  | [a, b, c], _ + 4 => simp at hn
  | _, n + 5 => omega
theorem encZ_append (a b : List Int) : encZ (a ++ b) = encZ a ++ encZ b := by unfold encZ; exact List.flatMap_append
/-- bytes that are read without a fault are read with losses as they are, and are written as they stood -/
theorem dec_back (s : List Int) (hz : ByteZ s) : ∀ (k p : Nat) (t : List Int), p ≤ s.length → s.length < k + p → encZ t = s.take p → (decG k s p t).2.2 = 0 → (decG k s p t).1 = losG k s p t ∧ encZ (decG k s p t).1 = s
  | 0, p, t, hp, hk, ht, h => by omega
  | k + 1, p, t, hp, hk, ht, h => by
    by_cases hlt : p < s.length
    · obtain ⟨h1, h2, h3⟩ := rest_facts s p hlt
      have hpos := standP_pos (s.drop p)
      by_cases q : (standP (s.drop p)).2 = true
      · rw [decG_ok k s p t hlt q] at h ⊢
        rw [losG_step k s p t hlt, if_pos q]
        refine dec_back s hz k _ _ h3 (by omega) ?_ h
        have := (rune_back _ _ _ _ _ q ((hz.drop p).get 0).1 ((hz.drop p).get 0).2).2
        have hle := standP_le (s.drop p) h1
        rw [take_four (s.drop p) _ (standN_pos _ _ _ _ _).2 hle] at this
        rw [encZ_append, ht, List.take_add]
        have e : encZ [runeP (s.drop p)] = Lib.encodeRuneZ (runeP (s.drop p)) := by simp [encZ]
        rw [e]
        exact congrArg _ this
      · rw [decG_bad k s p t hlt (by simpa using q)] at h
        exfalso
        dsimp only at h
        split at h <;> omega
    · obtain rfl : p = s.length := by omega
      rw [decG_end, losG_end]
      exact ⟨rfl, by rw [ht, List.take_length]⟩
theorem decP_back (s : List Int) (hz : ByteZ s) (h : (decP s).2.2 = 0) : (decP s).1 = losP s ∧ encZ (decP s).1 = s :=
  dec_back s hz _ 0 [] (by omega) (by omega) (by simp [encZ]) h
theorem dec_empty (s : List Int) : ∀ (k p : Nat) (t : List Int), (decG k s p t).2.2 ≠ 0 → (decG k s p t).1 = []
  | 0, p, t, h => by rw [decG] at h; exact absurd rfl h
  | k + 1, p, t, h => by
    by_cases hlt : p < s.length
    · by_cases q : (standP (s.drop p)).2 = true
      · rw [decG_ok k s p t hlt q] at h ⊢
        exact dec_empty s k _ _ h
      · rw [decG_bad k s p t hlt (by simpa using q)]
    · rw [decG, if_neg hlt] at h
      exact absurd rfl h
/-! ### texts, written and read -/
theorem stand_enc (r : Int) (l : List Int) (hv : Lib.validRune r = true) : standP (Lib.encodeRuneZ r ++ l) = ((Lib.encodeRuneZ r).length, true) ∧ runeP (Lib.encodeRuneZ r ++ l) = r := by
  have hv := of_decide_eq_true hv
  by_cases k1 : r < 128
  · rw [Lib.encodeRuneZ_one (by omega) (by omega)]
    have e : standP ([r] ++ l) = (1, true) := by
      show standN (l.length + 1) r _ _ _ = _
      unfold standN
      have : longP r = 1 := by unfold longP; rw [if_pos k1]
      rw [this]; rfl
    refine ⟨e, ?_⟩
    unfold runeP
    rw [e]
    rfl
  by_cases k2 : r < 2048
  · rw [Lib.encodeRuneZ_two (by omega) (by omega)]
    have e : standP ([192 + r / 64, 128 + r % 64] ++ l) = (2, true) := by
      show standN (l.length + 2) (192 + r / 64) (128 + r % 64) _ _ = _
      have hl : longP (192 + r / 64) = 2 := by unfold longP; rw [if_neg (by omega), if_neg (by omega), if_pos (by omega)]
      exact (stand_end_n _ 2 _ _ _ _ (by omega) (by omega) (by omega) (fun _ => by unfold secP loP hiP; (repeat' split) <;> omega) (fun h => by omega) (fun h => by omega) (Or.inl (by omega))).trans (by rw [hl]; rfl)
    refine ⟨e, ?_⟩
    unfold runeP
    rw [e]
    show (192 + r / 64 - 192) * 64 + (128 + r % 64) - 128 = r
    omega
  by_cases k3 : r < 65536
  · rw [Lib.encodeRuneZ_three (by omega)]
    have e : standP ([224 + r / 4096, 128 + r / 64 % 64, 128 + r % 64] ++ l) = (3, true) := by
      show standN (l.length + 3) (224 + r / 4096) (128 + r / 64 % 64) (128 + r % 64) _ = _
      have hl : longP (224 + r / 4096) = 3 := by unfold longP; rw [if_neg (by omega), if_neg (by omega), if_neg (by omega), if_pos (by omega)]
      exact (stand_end_n _ 3 _ _ _ _ (by omega) (by omega) (by omega) (fun _ => by unfold secP loP hiP; (repeat' split) <;> omega) (fun h => by unfold okP; omega) (fun h => by omega) (Or.inl (by omega))).trans (by rw [hl]; rfl)
    refine ⟨e, ?_⟩
    unfold runeP
    rw [e]
    show ((224 + r / 4096 - 224) * 64 + (128 + r / 64 % 64) - 128) * 64 + (128 + r % 64) - 128 = r
    omega
  · rw [Lib.encodeRuneZ_four (by omega) (by omega)]
    have e : standP ([240 + r / 262144, 128 + r / 4096 % 64, 128 + r / 64 % 64, 128 + r % 64] ++ l) = (4, true) := by
      show standN (l.length + 4) (240 + r / 262144) (128 + r / 4096 % 64) (128 + r / 64 % 64) (128 + r % 64) = _
      have hl : longP (240 + r / 262144) = 4 := by unfold longP; rw [if_neg (by omega), if_neg (by omega), if_neg (by omega), if_neg (by omega)]
      exact (stand_end_n _ 4 _ _ _ _ (by omega) (by omega) (by omega) (fun _ => by unfold secP loP hiP; (repeat' split) <;> omega) (fun h => by unfold okP; omega) (fun h => by unfold okP; omega) (Or.inl (by omega))).trans (by rw [hl]; rfl)
    refine ⟨e, ?_⟩
    unfold runeP
    rw [e]
    show (((240 + r / 262144 - 240) * 64 + (128 + r / 4096 % 64) - 128) * 64 + (128 + r / 64 % 64) - 128) * 64 + (128 + r % 64) - 128 = r
    omega
theorem dec_enc : ∀ (t : List Int) (pre acc : List Int) (k : Nat), allP t = true → (encZ t).length < k → decG k (pre ++ encZ t) pre.length acc = (acc ++ t, (pre ++ encZ t).length, 0)
  | [], pre, acc, k, ha, hk => by
    obtain ⟨k, rfl⟩ : ∃ k', k = k' + 1 := ⟨k - 1, by omega⟩
    have e : pre ++ encZ [] = pre := by simp [encZ]
    rw [e, decG_end]
    simp
  | r :: t, pre, acc, k, ha, hk => by
    obtain ⟨k, rfl⟩ : ∃ k', k = k' + 1 := ⟨k - 1, by omega⟩
    rw [allP_cons, Bool.and_eq_true] at ha
    have hr := lenP_range r
    unfold lenP at hr
    have hd : (pre ++ encZ (r :: t)).drop pre.length = Lib.encodeRuneZ r ++ encZ t := by rw [List.drop_left, encZ_cons]
    obtain ⟨s1, s2⟩ := stand_enc r (encZ t) ha.1
    have hlt : pre.length < (pre ++ encZ (r :: t)).length := by rw [encZ_cons]; simp; omega
    rw [decG_ok k _ _ acc hlt (by rw [hd, s1]), hd, s1, s2]
    have e : pre ++ encZ (r :: t) = (pre ++ Lib.encodeRuneZ r) ++ encZ t := by rw [encZ_cons, List.append_assoc]
    have e2 : pre.length + (Lib.encodeRuneZ r).length = (pre ++ Lib.encodeRuneZ r).length := by simp
    rw [e]
    show decG k _ (pre.length + (Lib.encodeRuneZ r).length) _ = _
    rw [e2, dec_enc t _ _ k ha.2 (by rw [encZ_cons, List.length_append] at hk; omega)]
    simp
theorem decP_enc (t : List Int) (h : allP t = true) : decP (encZ t) = (t, (encZ t).length, 0) := by
  have := dec_enc t [] [] ((encZ t).length + 1) h (by omega)
  simpa [decP] using this
end Go.Proofs.YtekjejbcdnghjaaDoor
