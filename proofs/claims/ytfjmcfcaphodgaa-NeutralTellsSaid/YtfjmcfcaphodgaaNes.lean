/-
  Contracts of the small functions of neutral (the program's and the document's): the class of a level, neutral classes, the direction of a class, what stands at an end, what a run becomes, by how much a class is above its level. No condition.
-/
import Derived.Test.YtfjmcfcaphodgaaNea
import Derived.Test.YtfjmcfcaphodgaaOwn
set_option linter.unusedVariables false
set_option linter.unusedSimpArgs false
namespace Go.Proofs.Ytfjmcfcaphodgaa
open Go.ChangeShapes Go.WideShapes Go.ChangeAt Go.RowKit Go.Sort

theorem odd_ok (x : Int) (w : World) : Calls Try.prog 24 #[.int .i64 x] w fun e w' => e = .returned (.bool (decide (x.tmod 2 ≠ 0))) ∧ w = w' := by
  obtain ⟨q, hq⟩ : ∃ q, x.tmod 2 = q := ⟨_, rfl⟩
  have h1 : -1 ≤ q ∧ q ≤ 1 := by
    have := Int.tmod_lt_of_pos x (show (0 : Int) < 2 by decide)
    have := Int.lt_tmod_of_pos x (show (0 : Int) < 2 by decide)
    omega
  rw [hq]
  by_cases h0 : q = 0
  · subst h0
    go_enter Try.func24, Try.ntmps24
    go_wp2
    go_ret
    exact ⟨rfl, rfl⟩
  · have hr : decide (q ≠ 0) = true := by simpa using h0
    have h2 : (q != 0) = true := by simpa using h0
    rw [hr, ← h2]
    clear hr h2
    go_enter Try.func24, Try.ntmps24
    go_wp2
    go_ret
    exact ⟨rfl, rfl⟩
theorem embed_ok (x : Int) (w : World) : Calls Try.prog 11 #[.int .i64 x] w fun e w' => e = .returned (.int .i64 (embN x)) ∧ w = w' := by
  have HO := Lib.hid fun w => odd_ok x w
  unfold embN
  by_cases h : x.tmod 2 ≠ 0
  · rw [if_pos h]
    have e : decide (x.tmod 2 ≠ 0) = true := decide_eq_true h
    rw [e] at HO
    clear h e
    go_enter Try.func11, Try.ntmps11
    go_wp2_with (go_at_call 24; (with_reducible refine (HO.out _).mono ?_); rintro e u ⟨rfl, rfl⟩)
    go_ret
    exact ⟨rfl, rfl⟩
  · rw [if_neg h]
    have e : decide (x.tmod 2 ≠ 0) = false := decide_eq_false h
    rw [e] at HO
    clear h e
    go_enter Try.func11, Try.ntmps11
    go_wp2_with (go_at_call 24; (with_reducible refine (HO.out _).mono ?_); rintro e u ⟨rfl, rfl⟩)
    go_ret
    exact ⟨rfl, rfl⟩
theorem rembed_ok (x : Int) (w : World) : Calls Try.prog 12 #[.int .i64 x] w fun e w' => e = .returned (.int .i64 (embN x)) ∧ w = w' := by
  unfold embN
  obtain ⟨q, hq⟩ : ∃ q, x.tmod 2 = q := ⟨_, rfl⟩
  have h1 : -1 ≤ q ∧ q ≤ 1 := by
    have := Int.tmod_lt_of_pos x (show (0 : Int) < 2 by decide)
    have := Int.lt_tmod_of_pos x (show (0 : Int) < 2 by decide)
    omega
  rw [hq]
  by_cases h0 : q = 0
  · subst h0
    go_enter Try.func12, Try.ntmps12
    go_wp2
    go_ret
    exact ⟨rfl, rfl⟩
  · have h2 : (q == 0) = false := by simpa using h0
    rw [if_pos h0]
    go_enter Try.func12, Try.ntmps12
    go_wp2
    go_ret
    exact ⟨rfl, rfl⟩
theorem edge_ok (c : Int) (w : World) : Calls Try.prog 17 #[.int .i64 c] w fun e w' => e = .returned (.int .i64 (edgeN c)) ∧ w = w' := by
  unfold edgeN
  by_cases h : c = 2
  · subst h
    go_enter Try.func17, Try.ntmps17
    go_wp2
    go_ret
    exact ⟨rfl, rfl⟩
  rw [if_neg h]
  go_enter Try.func17, Try.ntmps17
  go_wp2
  go_ret
  exact ⟨rfl, rfl⟩
theorem redge_ok (c : Int) (w : World) : Calls Try.prog 22 #[.int .i64 c] w fun e w' => e = .returned (.int .i64 (edgeN c)) ∧ w = w' := by
  unfold edgeN
  by_cases h : c = 2
  · subst h
    go_enter Try.func22, Try.ntmps22
    go_wp2
    go_ret
    exact ⟨rfl, rfl⟩
  rw [if_neg h]
  go_enter Try.func22, Try.ntmps22
  go_wp2
  go_ret
  exact ⟨rfl, rfl⟩
theorem direction_ok (c : Int) (w : World) : Calls Try.prog 19 #[.int .i64 c] w fun e w' => e = .returned (.int .i64 (wayN c)) ∧ w = w' := by
  unfold wayN
  by_cases h : c = 2 ∨ c = 3 ∨ c = 4 ∨ c = 7
  · rw [if_pos h]
    rcases h with rfl | rfl | rfl | rfl
    all_goals
      go_enter Try.func19, Try.ntmps19
      go_wp2
      go_ret
      exact ⟨rfl, rfl⟩
  · rw [if_neg h]
    simp only [not_or] at h
    obtain ⟨h2, h3, h4, h7⟩ := h
    go_enter Try.func19, Try.ntmps19
    go_wp2
    go_ret
    exact ⟨rfl, rfl⟩
theorem way_ok (c : Int) (w : World) : Calls Try.prog 23 #[.int .i64 c] w fun e w' => e = .returned (.int .i64 (wayN c)) ∧ w = w' := by
  unfold wayN
  by_cases h : c = 2 ∨ c = 3 ∨ c = 4 ∨ c = 7
  · rw [if_pos h]
    rcases h with rfl | rfl | rfl | rfl
    all_goals
      go_enter Try.func23, Try.ntmps23
      go_wp2
      go_ret
      exact ⟨rfl, rfl⟩
  · rw [if_neg h]
    simp only [not_or] at h
    obtain ⟨h2, h3, h4, h7⟩ := h
    have e : (c == 2 || c == 3 || c == 4 || c == 7) = false := by simp [h2, h3, h4, h7]
    go_enter Try.func23, Try.ntmps23
    go_wp2
    go_ret
    exact ⟨rfl, rfl⟩
theorem neu_cases8 (c : Int) : (neuC c = true ∧ (c = 11 ∨ c = 12 ∨ c = 13 ∨ c = 14 ∨ c = 20 ∨ c = 21 ∨ c = 22 ∨ c = 23)) ∨ (neuC c = false ∧ c ≠ 11 ∧ c ≠ 12 ∧ c ≠ 13 ∧ c ≠ 14 ∧ c ≠ 20 ∧ c ≠ 21 ∧ c ≠ 22 ∧ c ≠ 23) := by
  cases h : neuC c with
  | true => exact .inl ⟨rfl, by unfold neuC at h; simp [or_assoc] at h; exact h⟩
  | false => exact .inr ⟨rfl, by unfold neuC at h; simp [and_assoc] at h; exact h⟩
theorem neutral_is_ok (c : Int) (w : World) : Calls Try.prog 18 #[.int .i64 c] w fun e w' => e = .returned (.bool (neuC c)) ∧ w = w' := by
  rcases neu_cases8 c with ⟨e, h⟩ | ⟨e, h⟩
  · rw [e]
    clear e
    rcases h with rfl | rfl | rfl | rfl | rfl | rfl | rfl | rfl
    all_goals
      go_enter Try.func18, Try.ntmps18
      go_wp2
      go_ret
      exact ⟨rfl, rfl⟩
  · rw [e]
    clear e
    obtain ⟨h1, h2, h3, h4, h5, h6, h7, h8⟩ := h
    go_enter Try.func18, Try.ntmps18
    go_wp2
    go_ret
    exact ⟨rfl, rfl⟩
theorem neutral1_ok (c : Int) (w : World) : Calls Try.prog 13 #[.int .i64 c] w fun e w' => e = .returned (.bool (neuC c)) ∧ w = w' := by
  rcases neu_cases8 c with ⟨e, h⟩ | ⟨e, h⟩
  · rw [e]
    clear e
    rcases h with rfl | rfl | rfl | rfl | rfl | rfl | rfl | rfl
    all_goals
      go_enter Try.func13, Try.ntmps13
      go_wp2
      go_ret
      exact ⟨rfl, rfl⟩
  · unfold neuC
    clear e
    obtain ⟨h1, h2, h3, h4, h5, h6, h7, h8⟩ := h
    go_enter Try.func13, Try.ntmps13
    go_wp2
    go_ret
    exact ⟨rfl, rfl⟩
def betN (a b level : Int) : Int := if a = b then a else embN level
theorem between_ok (a b level : Int) (w : World) : Calls Try.prog 21 #[.int .i64 a, .int .i64 b, .int .i64 level] w fun e w' => e = .returned (.int .i64 (betN a b level)) ∧ w = w' := by
  have HE := Lib.hid fun w => embed_ok level w
  unfold betN
  generalize embN level = E at *
  by_cases h : a = b
  · subst h
    rw [if_pos rfl]
    go_enter Try.func21, Try.ntmps21
    go_wp2
    go_ret
    exact ⟨rfl, rfl⟩
  · rw [if_neg h]
    have hb : (a == b) = false := by simpa using h
    go_enter Try.func21, Try.ntmps21
    go_wp2_with (go_at_call 11; (with_reducible refine (HE.out _).mono ?_); rintro e u ⟨rfl, rfl⟩)
    go_ret
    exact ⟨rfl, rfl⟩
/-- by how much a class is above its level -/
def riseN (c : Int) (odd : Bool) : Int := if odd then (if c = 1 ∨ c = 4 ∨ c = 7 then 1 else 0) else if c = 2 then 1 else if c = 4 ∨ c = 7 then 2 else 0
theorem imp_rise (level c : Int) : impN level c = level + riseN c (decide (level.tmod 2 ≠ 0)) := by
  unfold impN riseN
  by_cases h : level.tmod 2 ≠ 0
  · rw [if_pos h, decide_eq_true h]
    simp only [if_true]
    split <;> omega
  · rw [if_neg h, decide_eq_false h]
    simp only [Bool.false_eq_true, if_false]
    split
    · rfl
    · split <;> omega
theorem rise_bnd (c : Int) (b : Bool) : 0 ≤ riseN c b ∧ riseN c b ≤ 2 := by
  unfold riseN
  cases b
  · simp only [Bool.false_eq_true, if_false]
    split
    · omega
    · split <;> omega
  · simp only [if_true]
    split <;> omega
theorem rise_ok (c : Int) (b : Bool) (w : World) : Calls Try.prog 25 #[.int .i64 c, .bool b] w fun e w' => e = .returned (.int .i64 (riseN c b)) ∧ w = w' := by
  unfold riseN
  by_cases h1 : c = 1
  · subst h1
    cases b
    all_goals
      go_enter Try.func25, Try.ntmps25
      go_wp2
      go_ret
      exact ⟨rfl, rfl⟩
  by_cases h2 : c = 2
  · subst h2
    cases b
    all_goals
      go_enter Try.func25, Try.ntmps25
      go_wp2
      go_ret
      exact ⟨rfl, rfl⟩
  by_cases h4 : c = 4
  · subst h4
    cases b
    all_goals
      go_enter Try.func25, Try.ntmps25
      go_wp2
      go_ret
      exact ⟨rfl, rfl⟩
  by_cases h7 : c = 7
  · subst h7
    cases b
    all_goals
      go_enter Try.func25, Try.ntmps25
      go_wp2
      go_ret
      exact ⟨rfl, rfl⟩
  rw [if_neg (show ¬(c = 1 ∨ c = 4 ∨ c = 7) by omega), if_neg h2, if_neg (show ¬(c = 4 ∨ c = 7) by omega), ite_self]
  go_enter Try.func25, Try.ntmps25
  go_wp2
  go_ret
  exact ⟨rfl, rfl⟩
end Go.Proofs.Ytfjmcfcaphodgaa
