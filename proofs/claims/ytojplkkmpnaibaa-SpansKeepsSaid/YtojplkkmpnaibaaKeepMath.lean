/-
  Plain mathematics: whole lists are whole; Set twice, Set of what stands there, Edit of nothing. No condition.
-/
import Derived.Test.YtojplkkmpnaibaaEdit
set_option linter.unusedVariables false
namespace Go.Proofs.Ytojplkkmpnaibaa

theorem good_snoc {l : List Sp} {s : Sp} (h : ∀ k, k < l.length → okAt l k) (h1 : s.f = endS l) (h2 : s.f < s.t) (h3 : ∀ p, l.getLast? = some p → s.v ≠ p.v) : ∀ k, k < (l ++ [s]).length → okAt (l ++ [s]) k := by
  intro k hk
  rw [List.length_append] at hk
  simp at hk
  rcases Nat.lt_or_ge k l.length with hl | hl
  · obtain ⟨a, ha, b1, b2, b3⟩ := h k hl
    refine ⟨a, by rw [List.getElem?_append_left hl]; exact ha, ?_, b2, fun p hp hpp => b3 p hp ?_⟩
    · rw [List.take_append_of_le_length (by omega)]; exact b1
    · rw [List.getElem?_append_left (by omega)] at hpp; exact hpp
  · obtain rfl : k = l.length := by omega
    refine ⟨s, by simp, ?_, h2, fun p hp hpp => h3 p ?_⟩
    · rw [List.take_left]; exact h1
    · rw [List.getElem?_append_left (by omega)] at hpp
      rw [List.getLast?_eq_getElem?]
      exact hpp
theorem good_init {l : List Sp} {s : Sp} (h : ∀ k, k < (l ++ [s]).length → okAt (l ++ [s]) k) : (∀ k, k < l.length → okAt l k) ∧ s.f = endS l ∧ s.f < s.t ∧ ∀ p, l.getLast? = some p → s.v ≠ p.v := by
  refine ⟨fun k hk => ?_, ?_⟩
  · obtain ⟨a, ha, b1, b2, b3⟩ := h k (by simp; omega)
    refine ⟨a, by rw [List.getElem?_append_left hk] at ha; exact ha, ?_, b2, fun p hp hpp => b3 p hp ?_⟩
    · rw [List.take_append_of_le_length (by omega)] at b1; exact b1
    · rw [List.getElem?_append_left (by omega)]; exact hpp
  · obtain ⟨a, ha, b1, b2, b3⟩ := h l.length (by simp)
    have e : s = a := by simpa using ha
    subst e
    rw [List.take_left] at b1
    refine ⟨b1, b2, fun p hp => ?_⟩
    rw [List.getLast?_eq_getElem?] at hp
    have hl : 0 < l.length := by
      rcases Nat.eq_zero_or_pos l.length with h0 | h0
      · rw [List.eq_nil_of_length_eq_zero h0] at hp; simp at hp
      · exact h0
    exact b3 p hl (by rw [List.getElem?_append_left (by omega)]; exact hp)
theorem good_of (xs : List Int) : ∀ k, k < (of xs).length → okAt (of xs) k := by
  induction xs using rev_ind with
  | nil => intro k hk; simp [of] at hk
  | append_singleton xs x ih =>
    rw [of_snoc']
    have he := endS_of xs
    rcases snoc_cases (of xs) with h | ⟨l', s, h⟩
    · rw [h] at he ⊢
      have : xs.length = 0 := by simp [endS] at he; omega
      rw [ext_nil _ _ (by omega)]
      have := good_snoc (l := []) (s := ⟨0, (xs.length : Int) + 1, x⟩) (fun k hk => by simp at hk) rfl (by simp <;> omega) (fun p hp => by simp at hp)
      exact this
    · rw [h] at ih he ⊢
      rw [endS_snoc] at he
      rw [ext_snoc _ _ _ _ (by omega)]
      obtain ⟨g1, g2, g3, g4⟩ := good_init ih
      split
      · exact good_snoc g1 g2 (by simp; omega) g4
      · rename_i hv
        rw [show l' ++ [s, (⟨s.t, (xs.length : Int) + 1, x⟩ : Sp)] = (l' ++ [s]) ++ [⟨s.t, (xs.length : Int) + 1, x⟩] by simp]
        refine good_snoc ih (by simp [endS]) (by simp; omega) (fun p hp => ?_)
        simp at hp
        subst hp
        exact fun h => hv h.symm
theorem whole_of (xs : List Int) : wholeB (of xs) xs.length = true := wholeB_true _ _ ⟨good_of xs, endS_of xs⟩

theorem atP_parts : ∀ (l : List Sp) (xs : List Int) (off i : Int), Parts l xs off → atP l i = if off ≤ i ∧ i < off + xs.length then xs.getD (i - off).toNat 0 else 0
  | [], xs, off, i, h => by
    have h : xs = [] := h
    subst h
    rw [if_neg (by simp <;> omega)]; rfl
  | s :: l, xs, off, i, ⟨k, ys, hk, e1, e2, e3, hp⟩ => by
    subst e3
    simp only [atP]
    rw [atP_parts l ys (off + k) i hp, e1, e2]
    by_cases h2 : off ≤ i ∧ i < off + k
    · rw [if_pos h2, if_pos (by simp; omega), List.getD_eq_getElem?_getD, List.getElem?_append_left (by simp; omega), List.getElem?_replicate, if_pos (by omega)]
      rfl
    · rw [if_neg h2]
      by_cases h1 : off + k ≤ i ∧ i < off + k + ys.length
      · rw [if_pos h1, if_pos (by simp; omega)]
        rw [List.getD_eq_getElem?_getD, List.getD_eq_getElem?_getD, List.getElem?_append_right (by simp; omega)]
        congr 2
        simp
        omega
      · rw [if_neg h1, if_neg (by simp; omega)]
theorem atP_of (xs : List Int) (i : Nat) (h : i < xs.length) : atP (of xs) i = xs[i] := by
  rw [atP_parts _ xs 0 i (parts_of xs), if_pos (by omega), List.getD_eq_getElem?_getD]
  simp [h]
theorem length_setP (xs : List Int) (lo hi v : Int) : (setP xs lo hi v).length = xs.length := by simp [setP]
theorem setP_setP (xs : List Int) (lo hi u v : Int) : setP (setP xs lo hi u) lo hi v = setP xs lo hi v := by
  apply List.ext_getElem
  · simp [setP]
  · intro i h1 h2
    simp only [setP, List.getElem_mapIdx]
    split <;> rfl
theorem setP_at (xs : List Int) (i : Nat) (h : i < xs.length) : setP xs i ((i : Int) + 1) xs[i] = xs := by
  apply List.ext_getElem
  · simp [setP]
  · intro j h1 h2
    simp only [setP, List.getElem_mapIdx]
    split
    · have : i = j := by omega
      subst this
      rfl
    · rfl
theorem pick_full (xs : List Int) (N : Int) (h : N = xs.length) : pick 0 N 0 xs = xs := pick_all 0 N 0 xs 0 (by omega) (by omega)
theorem editX_zero (xs : List Int) (a : Nat) (v : Int) : editX xs a 0 0 v = xs := by simp [editX]
theorem edit_swap (xs : List Int) (from_ to v : Int) (h0 : 0 ≤ from_) (h1 : from_ ≤ to) (h2 : to ≤ xs.length) :
    editX xs (atN xs.length from_) (atN (xs.length - atN xs.length from_) (to - from_)) (to - from_) v = setP xs from_ to v := by
  have e1 : atN xs.length from_ = from_.toNat := by unfold atN; omega
  have e2 : atN (xs.length - atN xs.length from_) (to - from_) = (to - from_).toNat := by rw [e1]; unfold atN; omega
  rw [e2, e1]
  have := setP_edit xs from_ to v from_.toNat (to - from_).toNat (by unfold clampI; omega) (by unfold clampI; omega)
  rw [← this]
  congr 1
  omega
theorem edit_none (xs : List Int) (from_ v : Int) : editX xs (atN xs.length from_) (atN (xs.length - atN xs.length from_) 0) 0 v = xs := by
  have e2 : atN (xs.length - atN xs.length from_) 0 = 0 := by unfold atN; omega
  rw [e2]
  exact editX_zero _ _ _
end Go.Proofs.Ytojplkkmpnaibaa
