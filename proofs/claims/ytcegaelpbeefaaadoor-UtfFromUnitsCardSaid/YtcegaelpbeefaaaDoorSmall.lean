/-
  Contracts: whether a rune, a text is right (the document's and the program's), units' kinds, a form's length, second bytes. No condition.
-/
import Derived.Test.YtcegaelpbeefaaaDoorMath
import Derived.Test.YtcegaelpbeefaaaDoorMine
import Derived.Test.YtcegaelpbeefaaaDoorShelf
set_option linter.unusedVariables false
namespace Go.Proofs.YtcegaelpbeefaaaDoor
open Go.ChangeShapes Go.WideShapes Go.ChangeAt Go.RowKit

theorem one_ok (r : Int) (w : World) : Calls Tryd.prog 31 #[.int .i32 r] w fun e w' => e = .returned (.bool (Lib.validRune r)) ∧ w = w' := by
  have hv : Lib.validRune r = decide ((0 ≤ r ∧ r < 55296) ∨ (57343 < r ∧ r ≤ 1114111)) := rfl
  rw [hv]
  clear hv
  by_cases h1 : 0 ≤ r
  · by_cases h2 : r < 55296
    · have e : decide ((0 ≤ r ∧ r < 55296) ∨ (57343 < r ∧ r ≤ 1114111)) = true := by simp; omega
      rw [e]
      go_enter Tryd.func31, Tryd.ntmps31
      go_wp2
      all_goals go_ret
      all_goals exact ⟨by first | rfl | (simp <;> omega), rfl⟩
    · by_cases h3 : 57343 < r
      · have e : decide ((0 ≤ r ∧ r < 55296) ∨ (57343 < r ∧ r ≤ 1114111)) = decide (r ≤ 1114111) := by apply decide_eq_decide.2; omega
        rw [e]
        go_enter Tryd.func31, Tryd.ntmps31
        go_wp2
        all_goals go_ret
        all_goals exact ⟨by first | rfl | (simp <;> omega), rfl⟩
      · have e : decide ((0 ≤ r ∧ r < 55296) ∨ (57343 < r ∧ r ≤ 1114111)) = false := by simp; omega
        rw [e]
        go_enter Tryd.func31, Tryd.ntmps31
        go_wp2
        all_goals go_ret
        all_goals exact ⟨by first | rfl | (simp <;> omega), rfl⟩
  · have e : decide ((0 ≤ r ∧ r < 55296) ∨ (57343 < r ∧ r ≤ 1114111)) = false := by simp; omega
    have h3 : ¬ 57343 < r := by omega
    rw [e]
    go_enter Tryd.func31, Tryd.ntmps31
    go_wp2
    all_goals go_ret
    all_goals exact ⟨by first | rfl | (simp <;> omega), rfl⟩

theorem allP_take (t : List Int) (k : Nat) (h : k < t.length) (hk : allP (t.take k) = true) (hv : Lib.validRune t[k] = true) : allP (t.take (k + 1)) = true := by
  rw [List.take_add_one, List.getElem?_eq_getElem h]
  unfold allP at hk ⊢
  rw [List.all_append, hk, Bool.true_and]
  simp [hv]
theorem allP_bad (t : List Int) (k : Nat) (h : k < t.length) (hv : Lib.validRune t[k] = false) : allP t = false := by
  unfold allP
  rw [List.all_eq_false]
  exact ⟨t[k], List.getElem_mem h, by simp [hv]⟩

/-- utf.Right -/
theorem right_ok (A : Option Addr) (c : Nat) (t : List Int) (w : World) (hn : t.length ≤ 9223372036854775807) (h : Has w w.heap.size A (t.map (Value.int .i32))) :
    Calls Tryd.prog 14 #[.slice A t.length c] w fun e w' => e = .returned (.bool (allP t)) ∧ w = w' := by
  obtain ⟨V, hV⟩ : ∃ V, allP t = V := ⟨_, rfl⟩
  rw [hV]
  have HV := Lib.hid hV
  clear hV
  go_enter Tryd.func14, Tryd.ntmps14
  go_wp2
  go_loop [7] (fun i => ∃ k : Nat, k ≤ t.length ∧ i = .int .i64 k ∧ Hid (allP (t.take k) = true)) (fun i => t.length - (intOf i).toNat)
  case atStart => exact ⟨0, by omega, rfl, Lib.hid rfl⟩
  case round =>
    obtain ⟨k, hk, rfl, HK⟩ := hrel
    by_cases hlt : k < t.length
    · obtain ⟨b, off, rfl, hb, hc⟩ := h.at_int hlt
      obtain ⟨X, hX⟩ : ∃ X, t[k] = X := ⟨_, rfl⟩
      rw [hX] at hc
      obtain ⟨v, hv⟩ : ∃ v, Lib.validRune X = v := ⟨_, rfl⟩
      have cv := fun w => Tryd.utf8_ValidRune X w
      rw [hv] at cv
      have HX := Lib.hid hX
      have Hv := Lib.hid hv
      clear hX hv h
      cases v
      · go_wp2_with (go_at_call 30; refine (cv _).mono ?_; rintro e w' ⟨rfl, rfl⟩)
        go_ret
        exact ⟨by rw [← HV.out, allP_bad t k hlt (by rw [HX.out]; exact Hv.out)]; rfl, rfl⟩
      · go_wp2_with (go_at_call 30; refine (cv _).mono ?_; rintro e w' ⟨rfl, rfl⟩)
        go_round
        case rel => exact ⟨k + 1, by omega, by go_num, Lib.hid (allP_take t k hlt HK.out (by rw [HX.out]; exact Hv.out))⟩
        case measure => simp [intOf]; omega
    · obtain rfl : k = t.length := by omega
      have HT : Hid (V = true) := Lib.hid (by rw [← HV.out]; simpa using HK.out)
      go_wp2
      go_ret
      exact ⟨by rw [HT.out]; rfl, rfl⟩
/-- the document's Right -/
theorem refRight_ok (A : Option Addr) (c : Nat) (t : List Int) (w : World) (hn : t.length ≤ 9223372036854775807) (h : Has w w.heap.size A (t.map (Value.int .i32))) :
    Calls Tryd.prog 15 #[.slice A t.length c] w fun e w' => e = .returned (.bool (allP t)) ∧ w = w' := by
  obtain ⟨V, hV⟩ : ∃ V, allP t = V := ⟨_, rfl⟩
  rw [hV]
  have HV := Lib.hid hV
  clear hV
  go_enter Tryd.func15, Tryd.ntmps15
  go_wp2
  go_loop [3] (fun i => ∃ k : Nat, k ≤ t.length ∧ i = .int .i64 k ∧ Hid (allP (t.take k) = true)) (fun i => t.length - (intOf i).toNat)
  case atStart => exact ⟨0, by omega, rfl, Lib.hid rfl⟩
  case round =>
    obtain ⟨k, hk, rfl, HK⟩ := hrel
    by_cases hlt : k < t.length
    · obtain ⟨b, off, rfl, hb, hc⟩ := h.at_int hlt
      obtain ⟨X, hX⟩ : ∃ X, t[k] = X := ⟨_, rfl⟩
      rw [hX] at hc
      obtain ⟨v, hv⟩ : ∃ v, Lib.validRune X = v := ⟨_, rfl⟩
      have cv := fun w => one_ok X w
      rw [hv] at cv
      have HX := Lib.hid hX
      have Hv := Lib.hid hv
      clear hX hv h
      cases v
      · go_wp2_with (go_at_call 31; refine (cv _).mono ?_; rintro e w' ⟨rfl, rfl⟩)
        go_ret
        exact ⟨by rw [← HV.out, allP_bad t k hlt (by rw [HX.out]; exact Hv.out)]; rfl, rfl⟩
      · go_wp2_with (go_at_call 31; refine (cv _).mono ?_; rintro e w' ⟨rfl, rfl⟩)
        go_round
        case rel => exact ⟨k + 1, by omega, by go_num, Lib.hid (allP_take t k hlt HK.out (by rw [HX.out]; exact Hv.out))⟩
        case measure => simp [intOf]; omega
    · obtain rfl : k = t.length := by omega
      have HT : Hid (V = true) := Lib.hid (by rw [← HV.out]; simpa using HK.out)
      go_wp2
      go_ret
      exact ⟨by rw [HT.out]; rfl, rfl⟩

theorem high_ok (x : Int) (w : World) : Calls Tryd.prog 39 #[.int .u16 x] w fun e w' => e = .returned (.bool (decide (highP x))) ∧ w = w' := by
  by_cases h1 : 55296 ≤ x
  · have e : decide (highP x) = decide (x < 56320) := by apply decide_eq_decide.2; unfold highP; omega
    rw [e]
    clear e
    go_enter Tryd.func39, Tryd.ntmps39
    go_wp2
    all_goals go_ret
    all_goals exact ⟨by first | rfl | (simp <;> omega), rfl⟩
  · have e : decide (highP x) = false := decide_eq_false (by unfold highP; omega)
    rw [e]
    clear e
    go_enter Tryd.func39, Tryd.ntmps39
    go_wp2
    all_goals go_ret
    all_goals exact ⟨by first | rfl | (simp <;> omega), rfl⟩
theorem low_ok (x : Int) (w : World) : Calls Tryd.prog 45 #[.int .u16 x] w fun e w' => e = .returned (.bool (decide (lowP x))) ∧ w = w' := by
  by_cases h1 : 56320 ≤ x
  · have e : decide (lowP x) = decide (x < 57344) := by apply decide_eq_decide.2; unfold lowP; omega
    rw [e]
    clear e
    go_enter Tryd.func45, Tryd.ntmps45
    go_wp2
    all_goals go_ret
    all_goals exact ⟨by first | rfl | (simp <;> omega), rfl⟩
  · have e : decide (lowP x) = false := decide_eq_false (by unfold lowP; omega)
    rw [e]
    clear e
    go_enter Tryd.func45, Tryd.ntmps45
    go_wp2
    all_goals go_ret
    all_goals exact ⟨by first | rfl | (simp <;> omega), rfl⟩

theorem long_ok (x : Int) (w : World) : Calls Tryd.prog 35 #[.int .i64 x] w fun e w' => e = .returned (.int .i64 (longP x)) ∧ w = w' := by
  obtain ⟨L, hL⟩ : ∃ L, longP x = L := ⟨_, rfl⟩
  have HL := Lib.hid hL
  rw [hL]
  clear hL
  unfold longP at HL
  go_enter Tryd.func35, Tryd.ntmps35
  go_wp2
  all_goals go_ret
  all_goals refine ⟨?_, rfl⟩
  all_goals (have hl := HL.out; repeat' split at hl)
  all_goals first | (subst hl; rfl) | (exfalso; omega)

theorem second_ok (a b : Int) (w : World) : Calls Tryd.prog 44 #[.int .i64 a, .int .i64 b] w fun e w' => e = .returned (.bool (decide (secP a b))) ∧ w = w' := by
  obtain ⟨V, hV⟩ : ∃ V, decide (secP a b) = V := ⟨_, rfl⟩
  have HV := Lib.hid hV
  rw [hV]
  clear hV
  unfold secP loP hiP at HV
  by_cases k1 : a = 224
  · subst k1
    go_enter Tryd.func44, Tryd.ntmps44
    go_wp2
    all_goals go_ret
    all_goals refine ⟨?_, rfl⟩
    all_goals (have hv := HV.out; subst hv)
    all_goals simp [*] <;> omega
  by_cases k2 : a = 237
  · subst k2
    go_enter Tryd.func44, Tryd.ntmps44
    go_wp2
    all_goals go_ret
    all_goals refine ⟨?_, rfl⟩
    all_goals (have hv := HV.out; subst hv)
    all_goals simp [*] <;> omega
  by_cases k3 : a = 240
  · subst k3
    go_enter Tryd.func44, Tryd.ntmps44
    go_wp2
    all_goals go_ret
    all_goals refine ⟨?_, rfl⟩
    all_goals (have hv := HV.out; subst hv)
    all_goals simp [*] <;> omega
  by_cases k4 : a = 244
  · subst k4
    go_enter Tryd.func44, Tryd.ntmps44
    go_wp2
    all_goals go_ret
    all_goals refine ⟨?_, rfl⟩
    all_goals (have hv := HV.out; subst hv)
    all_goals simp [*] <;> omega
  go_enter Tryd.func44, Tryd.ntmps44
  go_wp2
  all_goals go_ret
  all_goals refine ⟨?_, rfl⟩
  all_goals (have hv := HV.out; subst hv)
  all_goals simp [*] <;> omega
end Go.Proofs.YtcegaelpbeefaaaDoor
