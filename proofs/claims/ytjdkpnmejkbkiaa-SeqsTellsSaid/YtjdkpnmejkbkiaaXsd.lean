/-
  Contracts: what is removed, what initiates an isolate, the state at the beginning of a paragraph, what a removed character does to the program's state. Condition: at most 1000 entries, counters of at most 1000.
-/
import Derived.Test.YtjdkpnmejkbkiaaXsc
set_option linter.unusedVariables false
set_option linter.unusedSimpArgs false
namespace Go.Proofs.Ytjdkpnmejkbkiaa
open Go.ChangeShapes Go.WideShapes Go.ChangeAt Go.RowKit Go.Sort

theorem rem_cases (c : Int) : (remC c = true ∧ (c = 15 ∨ c = 17 ∨ c = 16 ∨ c = 18 ∨ c = 19 ∨ c = 10)) ∨ (remC c = false ∧ (c == 15) = false ∧ (c == 17) = false ∧ (c == 16) = false ∧ (c == 18) = false ∧ (c == 19) = false ∧ (c == 10) = false) := by
  unfold remC
  by_cases h1 : c = 15
  · subst h1; exact .inl ⟨rfl, by decide⟩
  by_cases h2 : c = 17
  · subst h2; exact .inl ⟨rfl, by decide⟩
  by_cases h3 : c = 16
  · subst h3; exact .inl ⟨rfl, by decide⟩
  by_cases h4 : c = 18
  · subst h4; exact .inl ⟨rfl, by decide⟩
  by_cases h5 : c = 19
  · subst h5; exact .inl ⟨rfl, by decide⟩
  by_cases h6 : c = 10
  · subst h6; exact .inl ⟨rfl, by decide⟩
  right
  simp [h1, h2, h3, h4, h5, h6]

set_option maxHeartbeats 2000000 in
theorem removed_ok (c : Int) (w : World) : Calls Try.prog 38 #[.int .i64 c] w fun e w' => e = .returned (.bool (remC c)) ∧ w = w' := by
  rcases rem_cases c with ⟨h, hc⟩ | ⟨h, a, b, d, e, f, g⟩
  · rw [h]
    clear h
    rcases hc with rfl | rfl | rfl | rfl | rfl | rfl
    all_goals
      go_enter Try.func38, Try.ntmps38
      go_wp2
      go_ret
      exact ⟨rfl, rfl⟩
  · rw [h]
    clear h
    go_enter Try.func38, Try.ntmps38
    go_wp2
    go_ret
    exact ⟨rfl, rfl⟩
set_option maxHeartbeats 2000000 in
theorem rremoved_ok (c : Int) (w : World) : Calls Try.prog 16 #[.int .i64 c] w fun e w' => e = .returned (.bool (remC c)) ∧ w = w' := by
  rcases rem_cases c with ⟨h, hc⟩ | ⟨h, a, b, d, e, f, g⟩
  · rw [h]
    clear h
    rcases hc with rfl | rfl | rfl | rfl | rfl | rfl
    all_goals
      go_enter Try.func16, Try.ntmps16
      go_wp2
      go_ret
      exact ⟨rfl, rfl⟩
  · rw [h]
    clear h
    go_enter Try.func16, Try.ntmps16
    go_wp2
    go_ret
    exact ⟨rfl, rfl⟩

end Go.Proofs.Ytjdkpnmejkbkiaa
