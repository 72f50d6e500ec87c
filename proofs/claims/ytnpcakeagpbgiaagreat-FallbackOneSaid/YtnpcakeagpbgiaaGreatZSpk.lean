/-
  Plain mathematics: lists of spans that come of values are whole, tell the values, begin where the value turns. No condition.
-/
import Derived.Test.YtnpcakeagpbgiaaGreatSza
set_option linter.unusedVariables false
namespace Go.Proofs.YtnpcakeagpbgiaaGreat.S5

theorem good_snoc {l : List Sp} {s : Sp} (h : ∀ k, k < l.length → okAt l k) (h1 : s.f = endS l) (h2 : s.f < s.t) (h3 : ∀ p, l.getLast? = some p → s.v ≠ p.v) : ∀ k, k < (l ++ [s]).length → okAt (l ++ [s]) k := by
  intro k hk
  rw [List.length_append] at hk
  simp at hk
  rcases Nat.lt_or_ge k l.length with hl | hl
  · obtain ⟨a, ha, b1, b2, b3⟩ := h k hl
    refine ⟨a, by rw [List.getElem?_append_left hl]; exact ha, ?_, b2, fun p hp hpp => b3 p hp ?_⟩
    · rw [List.take_append_of_le_length (by omega)]; exact b1
    · rw [List.getElem?_append_left (by omega)] at hpp; exact hpp
  · obtain rfl : k = l.length := by omega
    refine ⟨s, by simp, ?_, h2, fun p hp hpp => h3 p ?_⟩
    · rw [List.take_left]; exact h1
    · rw [List.getElem?_append_left (by omega)] at hpp
      rw [List.getLast?_eq_getElem?]
      exact hpp
theorem good_init {l : List Sp} {s : Sp} (h : ∀ k, k < (l ++ [s]).length → okAt (l ++ [s]) k) : (∀ k, k < l.length → okAt l k) ∧ s.f = endS l ∧ s.f < s.t ∧ ∀ p, l.getLast? = some p → s.v ≠ p.v := by
  refine ⟨fun k hk => ?_, ?_⟩
  · obtain ⟨a, ha, b1, b2, b3⟩ := h k (by simp; omega)
    refine ⟨a, by rw [List.getElem?_append_left hk] at ha; exact ha, ?_, b2, fun p hp hpp => b3 p hp ?_⟩
    · rw [List.take_append_of_le_length (by omega)] at b1; exact b1
    · rw [List.getElem?_append_left (by omega)]; exact hpp
  · obtain ⟨a, ha, b1, b2, b3⟩ := h l.length (by simp)
    have e : s = a := by simpa using ha
    subst e
    rw [List.take_left] at b1
    refine ⟨b1, b2, fun p hp => ?_⟩
    rw [List.getLast?_eq_getElem?] at hp
    have hl : 0 < l.length := by
      rcases Nat.eq_zero_or_pos l.length with h0 | h0
      · rw [List.eq_nil_of_length_eq_zero h0] at hp; simp at hp
      · exact h0
    exact b3 p hl (by rw [List.getElem?_append_left (by omega)]; exact hp)
theorem good_of (xs : List Int) : ∀ k, k < (of xs).length → okAt (of xs) k := by
  induction xs using rev_ind with
  | nil => intro k hk; simp [of] at hk
  | append_singleton xs x ih =>
    rw [of_snoc']
    have he := endS_of xs
    rcases snoc_cases (of xs) with h | ⟨l', s, h⟩
    · rw [h] at he ⊢
      have : xs.length = 0 := by simp [endS] at he; omega
      rw [ext_nil _ _ (by omega)]
      have := good_snoc (l := []) (s := ⟨0, (xs.length : Int) + 1, x⟩) (fun k hk => by simp at hk) rfl (by simp <;> omega) (fun p hp => by simp at hp)
      exact this
    · rw [h] at ih he ⊢
      rw [endS_snoc] at he
      rw [ext_snoc _ _ _ _ (by omega)]
      obtain ⟨g1, g2, g3, g4⟩ := good_init ih
      split
      · exact good_snoc g1 g2 (by simp; omega) g4
      · rename_i hv
        rw [show l' ++ [s, (⟨s.t, (xs.length : Int) + 1, x⟩ : Sp)] = (l' ++ [s]) ++ [⟨s.t, (xs.length : Int) + 1, x⟩] by simp]
        refine good_snoc ih (by simp [endS]) (by simp; omega) (fun p hp => ?_)
        simp at hp
        subst hp
        exact fun h => hv h.symm
theorem whole_of (xs : List Int) : wholeB (of xs) xs.length = true := wholeB_true _ _ ⟨good_of xs, endS_of xs⟩

theorem atP_parts : ∀ (l : List Sp) (xs : List Int) (off i : Int), Parts l xs off → atP l i = if off ≤ i ∧ i < off + xs.length then xs.getD (i - off).toNat 0 else 0
  | [], xs, off, i, h => by
    have h : xs = [] := h
    subst h
    rw [if_neg (by simp <;> omega)]; rfl
  | s :: l, xs, off, i, ⟨k, ys, hk, e1, e2, e3, hp⟩ => by
    subst e3
    simp only [atP]
    rw [atP_parts l ys (off + k) i hp, e1, e2]
    by_cases h2 : off ≤ i ∧ i < off + k
    · rw [if_pos h2, if_pos (by simp; omega), List.getD_eq_getElem?_getD, List.getElem?_append_left (by simp; omega), List.getElem?_replicate, if_pos (by omega)]
      rfl
    · rw [if_neg h2]
      by_cases h1 : off + k ≤ i ∧ i < off + k + ys.length
      · rw [if_pos h1, if_pos (by simp; omega)]
        rw [List.getD_eq_getElem?_getD, List.getD_eq_getElem?_getD, List.getElem?_append_right (by simp; omega)]
        congr 2
        simp
        omega
      · rw [if_neg h1, if_neg (by simp; omega)]
theorem atP_of (xs : List Int) (i : Nat) (h : i < xs.length) : atP (of xs) i = xs[i] := by
  rw [atP_parts _ xs 0 i (parts_of xs), if_pos (by omega), List.getD_eq_getElem?_getD]
  simp [h]
/-- each span begins at 0, or where the value turns -/
theorem of_starts (xs : List Int) : ∀ i, i ≤ xs.length → ∀ s ∈ of (xs.take i), s.f = 0 ∨ ∃ j : Nat, s.f = ((j + 1 : Nat) : Int) ∧ j + 1 < xs.length ∧ xs[j]? ≠ xs[j + 1]?
  | 0, _, s, hs => by simp [of] at hs
  | 1, h, s, hs => by
    rw [of_step0 xs (by omega)] at hs
    simp at hs
    subst hs
    exact .inl rfl
  | i + 2, h, s, hs => by
    have ih := of_starts xs (i + 1) (by omega)
    by_cases he : xs[i + 1] = xs[i]
    · obtain ⟨l', f, e1, e2⟩ := of_same xs i (by omega) he
      rw [e2] at hs
      rw [e1] at ih
      rcases List.mem_append.1 hs with hs | hs
      · exact ih s (List.mem_append_left _ hs)
      · simp at hs
        subst hs
        exact ih ⟨f, i + 1, xs[i]⟩ (by simp)
    · rw [of_other xs i (by omega) he] at hs
      rcases List.mem_append.1 hs with hs | hs
      · exact ih s hs
      · simp at hs
        subst hs
        refine .inr ⟨i, by simp, by omega, fun h2 => he ?_⟩
        rw [List.getElem?_eq_getElem (by omega), List.getElem?_eq_getElem (by omega)] at h2
        exact (Option.some.inj h2).symm
end Go.Proofs.YtnpcakeagpbgiaaGreat.S5
