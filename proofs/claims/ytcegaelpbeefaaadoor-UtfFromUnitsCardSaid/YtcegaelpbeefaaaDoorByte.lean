/-
  Contracts of Byte (the program's and the document's): the bytes ahead of a place. No condition but that the text has at most a million runes.
-/
import Derived.Test.YtcegaelpbeefaaaDoorForm
set_option linter.unusedVariables false
namespace Go.Proofs.YtcegaelpbeefaaaDoor
open Go.ChangeShapes Go.WideShapes Go.ChangeAt Go.RowKit

theorem sumP_take (t : List Int) (k : Nat) (h : k < t.length) : sumP (t.take (k + 1)) = sumP (t.take k) + lenP t[k] := by
  rw [List.take_add_one, List.getElem?_eq_getElem h]
  unfold sumP
  rw [List.map_append, List.sum_append]
  simp
theorem allP_at (t : List Int) (k : Nat) (h : k < t.length) (hv : allP t = true) : Lib.validRune t[k] = true := by
  unfold allP at hv
  rw [List.all_eq_true] at hv
  exact hv _ (List.getElem_mem h)
theorem sumP_take_range (t : List Int) (k : Nat) : 0 ≤ sumP (t.take k) ∧ sumP (t.take k) ≤ 4 * t.length := by
  have := sumP_range (t.take k)
  rw [List.length_take] at this
  omega

set_option maxHeartbeats 1000000 in
theorem byte_ok (A : Option Addr) (c : Nat) (t : List Int) (at_ : Int) (w : World) (hn : t.length ≤ 1000000) (hc : t.length ≤ c) (h : Has w w.heap.size A (t.map (Value.int .i32))) :
    Calls Tryd.prog 24 #[.slice A t.length c, .int .i64 at_] w fun e w' => e = .returned (.int .i64 (byteP t at_)) ∧ w = w' := by
  have cr := fun w h => right_ok A c t w (by omega) h
  by_cases hv : allP t = true
  · rw [hv] at cr
    by_cases h0 : at_ < 0
    · have e : byteP t at_ = -1 := by unfold byteP; rw [if_pos (Or.inr (Or.inl h0))]
      rw [e]
      clear e hv
      go_enter Tryd.func24, Tryd.ntmps24
      go_wp2_with (go_at_call 14; refine (cr _ (by assumption)).mono ?_; rintro e w' ⟨rfl, rfl⟩)
      go_ret
      exact ⟨rfl, rfl⟩
    by_cases h1 : (t.length : Int) < at_
    · have e : byteP t at_ = -1 := by unfold byteP; rw [if_pos (Or.inr (Or.inr h1))]
      rw [e]
      clear e hv
      go_enter Tryd.func24, Tryd.ntmps24
      go_wp2_with (go_at_call 14; refine (cr _ (by assumption)).mono ?_; rintro e w' ⟨rfl, rfl⟩)
      go_ret
      exact ⟨rfl, rfl⟩
    · have e : byteP t at_ = sumP (t.take at_.toNat) := by unfold byteP; rw [if_neg (by rw [hv]; simp; omega)]
      rw [e]
      clear e
      have HV := Lib.hid hv
      clear hv
      go_enter Tryd.func24, Tryd.ntmps24
      go_wp2_with (go_at_call 14; refine (cr _ (by assumption)).mono ?_; rintro e w' ⟨rfl, rfl⟩)
      go_loop [5, 25] (fun s i => ∃ k : Nat, (k : Int) ≤ at_ ∧ i = .int .i64 k ∧ s = .int .i64 (sumP (t.take k))) (fun _ i => at_.toNat - (intOf i).toNat)
      case atStart => exact ⟨0, by omega, rfl, rfl⟩
      case round =>
        obtain ⟨k, hk, rfl, rfl⟩ := hrel
        by_cases hlt : (k : Int) < at_
        · obtain ⟨b, off, rfl, hb, hcc⟩ := h.at_int (k := k) (by omega)
          have HS := Lib.hid (sumP_take t k (by omega))
          have HL := Lib.hid (runeLen_eq _ (allP_at t k (by omega) HV.out))
          have hs := sumP_take_range t k
          have hl := lenP_range (t[k]'(by omega))
          obtain ⟨X, hX⟩ : ∃ X, t[k]'(by omega) = X := ⟨_, rfl⟩
          obtain ⟨S, hS⟩ : ∃ S, sumP (t.take k) = S := ⟨_, rfl⟩
          rw [hX] at hcc hl
          rw [hS] at hs ⊢
          have HX := Lib.hid hX
          have HS2 := Lib.hid hS
          have cl := fun w => Tryd.utf8_RuneLen X w
          have eL : Lib.runeLen X = lenP X := by have := HL.out; rwa [HX.out] at this
          rw [eL] at cl
          obtain ⟨L, hL⟩ : ∃ L, lenP X = L := ⟨_, rfl⟩
          rw [hL] at cl hl
          have HL2 := Lib.hid hL
          clear hX hS eL hL h
          go_wp2_with (go_at_call 40; refine (cl _).mono ?_; rintro e w' ⟨rfl, rfl⟩)
          go_round
          case rel => exact ⟨k + 1, by omega, by go_num, by rw [HS.out, HX.out, HL2.out, HS2.out]⟩
          case measure => simp [intOf]; omega
        · have HN := Lib.hid (show at_.toNat = k by omega)
          go_wp2
          go_ret
          exact ⟨by rw [HN.out]; rfl, rfl⟩
  · have hv' : allP t = false := by simpa using hv
    rw [hv'] at cr
    have e : byteP t at_ = -1 := by unfold byteP; rw [if_pos (Or.inl hv')]
    rw [e]
    clear e hv hv'
    go_enter Tryd.func24, Tryd.ntmps24
    go_wp2_with (go_at_call 14; refine (cr _ (by assumption)).mono ?_; rintro e w' ⟨rfl, rfl⟩)
    go_ret
    exact ⟨rfl, rfl⟩
end Go.Proofs.YtcegaelpbeefaaaDoor
