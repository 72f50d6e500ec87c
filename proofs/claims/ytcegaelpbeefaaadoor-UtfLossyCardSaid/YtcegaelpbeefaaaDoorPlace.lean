/-
  Contracts of the document's Byte, and of Place (the program's and the document's). No condition but that the text has at most a million runes.
-/
import Derived.Test.YtcegaelpbeefaaaDoorByte
set_option linter.unusedVariables false
namespace Go.Proofs.YtcegaelpbeefaaaDoor
open Go.ChangeShapes Go.WideShapes Go.ChangeAt Go.RowKit

set_option maxHeartbeats 1000000 in
theorem refByte_ok (A : Option Addr) (c : Nat) (t : List Int) (at_ : Int) (w : World) (hn : t.length ≤ 1000000) (hc : t.length ≤ c) (h : Has w w.heap.size A (t.map (Value.int .i32))) :
    Calls Tryd.prog 25 #[.slice A t.length c, .int .i64 at_] w fun e w' => e = .returned (.int .i64 (byteP t at_)) ∧ Below w.heap.size w w' := by
  have cr := fun w h => refRight_ok A c t w (by omega) h
  by_cases hv : allP t = true
  · rw [hv] at cr
    by_cases h0 : at_ < 0
    · have e : byteP t at_ = -1 := by unfold byteP; rw [if_pos (Or.inr (Or.inl h0))]
      rw [e]
      clear e hv
      go_enter Tryd.func25, Tryd.ntmps25
      go_wp2_with (go_at_call 15; refine (cr _ (by assumption)).mono ?_; rintro e w' ⟨rfl, rfl⟩)
      go_ret
      exact ⟨rfl, Below.refl _ _⟩
    by_cases h1 : (t.length : Int) < at_
    · have e : byteP t at_ = -1 := by unfold byteP; rw [if_pos (Or.inr (Or.inr h1))]
      rw [e]
      clear e hv
      go_enter Tryd.func25, Tryd.ntmps25
      go_wp2_with (go_at_call 15; refine (cr _ (by assumption)).mono ?_; rintro e w' ⟨rfl, rfl⟩)
      go_ret
      exact ⟨rfl, Below.refl _ _⟩
    · have e : byteP t at_ = sumP (t.take at_.toNat) := by unfold byteP; rw [if_neg (by rw [hv]; simp; omega)]
      rw [e]
      clear e
      have HV := Lib.hid hv
      clear hv
      go_enter Tryd.func25, Tryd.ntmps25
      go_wp2_with (go_at_call 15; refine (cr _ (by assumption)).mono ?_; rintro e w' ⟨rfl, rfl⟩)
      obtain ⟨W0, HW0⟩ : ∃ W0, Hid (W0 = w) := ⟨w, rfl⟩
      go_loopw [5, 6] (fun s i wr => ∃ k : Nat, (k : Int) ≤ at_ ∧ i = .int .i64 k ∧ s = .int .i64 (sumP (t.take k)) ∧ Below W0.heap.size W0 wr) (fun _ i _ => at_.toNat - (intOf i).toNat)
      case atStart => exact ⟨0, by omega, rfl, rfl, by rw [HW0.out]; exact Below.refl _ _⟩
      case round =>
        obtain ⟨k, hk, rfl, rfl, hbl⟩ := hrel
        by_cases hlt : (k : Int) < at_
        · have h2 := h
          rw [← HW0.out] at h2
          obtain ⟨b, off, rfl, hb, hcc⟩ := (h2.carry hbl).at_int (k := k) (by omega)
          have HS := Lib.hid (sumP_take t k (by omega))
          have hval := allP_at t k (by omega) HV.out
          have hs := sumP_take_range t k
          have hl := lenP_range (t[k]'(by omega))
          obtain ⟨X, hX⟩ : ∃ X, t[k]'(by omega) = X := ⟨_, rfl⟩
          obtain ⟨S, hS⟩ : ∃ S, sumP (t.take k) = S := ⟨_, rfl⟩
          rw [hX] at hcc hl hval
          rw [hS] at hs ⊢
          have HX := Lib.hid hX
          have HS2 := Lib.hid hS
          have cf := fun w => form_ok X w hval
          have HM := Lib.hid (show lenP X = ((Lib.encodeRuneZ X).length : Int) from rfl)
          clear hX hS h h2 hval
          go_wp2_with (go_at_call 29; refine (cf _).mono ?_; rintro e w2 ⟨v, rfl, A1, c1, rfl, hc1, hh1, hb1⟩; obtain ⟨M, hM⟩ : ∃ M, (Lib.encodeRuneZ X).length = M := ⟨_, rfl⟩; rw [hM]; have HM2 := Lib.hid hM; clear hM hh1 hc1; have hl2 : (1 : Int) ≤ M ∧ (M : Int) ≤ 4 := by rw [← HM2.out, ← HM.out]; exact hl)
          go_roundw
          case rel => exact ⟨k + 1, by omega, by go_num, by rw [HS.out, HX.out, HM.out, HM2.out, HS2.out], below_trans hbl hb1 hbl.size⟩
          case measure => simp [intOf]; omega
        · have HN := Lib.hid (show at_.toNat = k by omega)
          go_wp2
          go_ret
          exact ⟨by rw [HN.out]; rfl, by rw [HW0.out] at hbl; exact hbl⟩
  · have hv' : allP t = false := by simpa using hv
    rw [hv'] at cr
    have e : byteP t at_ = -1 := by unfold byteP; rw [if_pos (Or.inl hv')]
    rw [e]
    clear e hv hv'
    go_enter Tryd.func25, Tryd.ntmps25
    go_wp2_with (go_at_call 15; refine (cr _ (by assumption)).mono ?_; rintro e w' ⟨rfl, rfl⟩)
    go_ret
    exact ⟨rfl, Below.refl _ _⟩

theorem plaG_step (t : List Int) (k : Nat) (h : k < t.length) (n b : Int) : plaG (t.drop k) k n b = if b < n + lenP t[k] then (k : Int) else plaG (t.drop (k + 1)) (k + 1) (n + lenP t[k]) b := by
  rw [List.drop_eq_getElem_cons h]
  rfl
theorem plaG_end (t : List Int) (n b : Int) : plaG (t.drop t.length) t.length n b = if b = n then (t.length : Int) else -1 := by
  rw [List.drop_length]
  rfl

set_option maxHeartbeats 1000000 in
theorem place_ok (A : Option Addr) (c : Nat) (t : List Int) (q : Int) (w : World) (hn : t.length ≤ 1000000) (hc : t.length ≤ c) (h : Has w w.heap.size A (t.map (Value.int .i32))) :
    Calls Tryd.prog 26 #[.slice A t.length c, .int .i64 q] w fun e w' => e = .returned (.int .i64 (plaP t q)) ∧ w = w' := by
  have cr := fun w h => right_ok A c t w (by omega) h
  by_cases hv : allP t = true
  · rw [hv] at cr
    by_cases h0 : q < 0
    · have e : plaP t q = -1 := by unfold plaP; rw [if_pos (Or.inr h0)]
      rw [e]
      clear e hv
      go_enter Tryd.func26, Tryd.ntmps26
      go_wp2_with (go_at_call 14; refine (cr _ (by assumption)).mono ?_; rintro e w' ⟨rfl, rfl⟩)
      go_ret
      exact ⟨rfl, rfl⟩
    · obtain ⟨P, hP⟩ : ∃ P, plaP t q = P := ⟨_, rfl⟩
      have e : plaP t q = plaG (t.drop 0) 0 (sumP (t.take 0)) q := by unfold plaP; rw [if_neg (by rw [hv]; simp; omega)]; rfl
      rw [hP] at e ⊢
      have HE := Lib.hid e
      have HV := Lib.hid hv
      clear hv e hP
      go_enter Tryd.func26, Tryd.ntmps26
      go_wp2_with (go_at_call 14; refine (cr _ (by assumption)).mono ?_; rintro e w' ⟨rfl, rfl⟩)
      go_loop [5, 17] (fun s i => ∃ k : Nat, k ≤ t.length ∧ i = .int .i64 k ∧ s = .int .i64 (sumP (t.take k)) ∧ sumP (t.take k) ≤ q ∧ Hid (P = plaG (t.drop k) k (sumP (t.take k)) q)) (fun _ i => t.length - (intOf i).toNat)
      case atStart => exact ⟨0, by omega, rfl, rfl, by simp [sumP]; omega, HE⟩
      case round =>
        obtain ⟨k, hk, rfl, rfl, hle, HG⟩ := hrel
        by_cases hlt : k < t.length
        · obtain ⟨b, off, rfl, hb, hcc⟩ := h.at_int (k := k) (by omega)
          have HS := Lib.hid (sumP_take t k (by omega))
          have HL := Lib.hid (runeLen_eq _ (allP_at t k (by omega) HV.out))
          have hs := sumP_take_range t k
          have hl := lenP_range (t[k]'(by omega))
          have HG2 := Lib.hid (HG.out.trans (plaG_step t k hlt _ q))
          clear HG
          obtain ⟨X, hX⟩ : ∃ X, t[k]'(by omega) = X := ⟨_, rfl⟩
          obtain ⟨S, hS⟩ : ∃ S, sumP (t.take k) = S := ⟨_, rfl⟩
          rw [hX] at hcc hl HG2
          rw [hS] at hs HG2 hle ⊢
          have HX := Lib.hid hX
          have HS2 := Lib.hid hS
          have cl := fun w => Tryd.utf8_RuneLen X w
          have eL : Lib.runeLen X = lenP X := by have := HL.out; rwa [HX.out] at this
          rw [eL] at cl
          obtain ⟨L, hL⟩ : ∃ L, lenP X = L := ⟨_, rfl⟩
          rw [hL] at cl hl HG2
          have HL2 := Lib.hid hL
          clear hX hS eL hL h
          by_cases hq : q < S + L
          · go_wp2_with (go_at_call 40; refine (cl _).mono ?_; rintro e w' ⟨rfl, rfl⟩)
            go_ret
            have := HG2.out
            rw [if_pos hq] at this
            exact ⟨by rw [this]; rfl, rfl⟩
          · have HG3 := Lib.hid (HG2.out.trans (if_neg hq))
            clear HG2
            go_wp2_with (go_at_call 40; refine (cl _).mono ?_; rintro e w' ⟨rfl, rfl⟩)
            go_round
            case rel => exact ⟨k + 1, by omega, by go_num, by rw [HS.out, HX.out, HL2.out, HS2.out], by rw [HS.out, HX.out, HL2.out, HS2.out]; omega, Lib.hid (by rw [HS.out, HX.out, HL2.out, HS2.out]; exact HG3.out)⟩
            case measure => simp [intOf]; omega
        · obtain rfl : k = t.length := by omega
          obtain ⟨S, hS⟩ : ∃ S, sumP (t.take t.length) = S := ⟨_, rfl⟩
          have HG2 := Lib.hid (HG.out.trans (plaG_end t _ q))
          rw [hS] at hle HG2 ⊢
          clear HG hS h
          by_cases hq : S < q
          · have e := HG2.out
            rw [if_neg (by omega)] at e
            have HE2 := Lib.hid e
            clear e HG2
            go_wp2
            go_ret
            exact ⟨by rw [HE2.out]; rfl, rfl⟩
          · have e := HG2.out
            rw [if_pos (by omega)] at e
            have HE2 := Lib.hid e
            clear e HG2
            go_wp2
            go_ret
            exact ⟨by rw [HE2.out]; rfl, rfl⟩
  · have hv' : allP t = false := by simpa using hv
    rw [hv'] at cr
    have e : plaP t q = -1 := by unfold plaP; rw [if_pos (Or.inl hv')]
    rw [e]
    clear e hv hv'
    go_enter Tryd.func26, Tryd.ntmps26
    go_wp2_with (go_at_call 14; refine (cr _ (by assumption)).mono ?_; rintro e w' ⟨rfl, rfl⟩)
    go_ret
    exact ⟨rfl, rfl⟩

set_option maxHeartbeats 1000000 in
theorem refPlace_ok (A : Option Addr) (c : Nat) (t : List Int) (q : Int) (w : World) (hn : t.length ≤ 1000000) (hc : t.length ≤ c) (h : Has w w.heap.size A (t.map (Value.int .i32))) :
    Calls Tryd.prog 27 #[.slice A t.length c, .int .i64 q] w fun e w' => e = .returned (.int .i64 (plaP t q)) ∧ Below w.heap.size w w' := by
  have cr := fun w h => refRight_ok A c t w (by omega) h
  by_cases hv : allP t = true
  · rw [hv] at cr
    by_cases h0 : q < 0
    · have e : plaP t q = -1 := by unfold plaP; rw [if_pos (Or.inr h0)]
      rw [e]
      clear e hv
      go_enter Tryd.func27, Tryd.ntmps27
      go_wp2_with (go_at_call 15; refine (cr _ (by assumption)).mono ?_; rintro e w' ⟨rfl, rfl⟩)
      go_ret
      exact ⟨rfl, Below.refl _ _⟩
    · obtain ⟨P, hP⟩ : ∃ P, plaP t q = P := ⟨_, rfl⟩
      have e : plaP t q = plaG (t.drop 0) 0 (sumP (t.take 0)) q := by unfold plaP; rw [if_neg (by rw [hv]; simp; omega)]; rfl
      rw [hP] at e ⊢
      have HE := Lib.hid e
      have HV := Lib.hid hv
      clear hv e hP
      go_enter Tryd.func27, Tryd.ntmps27
      go_wp2_with (go_at_call 15; refine (cr _ (by assumption)).mono ?_; rintro e w' ⟨rfl, rfl⟩)
      obtain ⟨W0, HW0⟩ : ∃ W0, Hid (W0 = w) := ⟨w, rfl⟩
      go_loopw [5, 6] (fun s i wr => ∃ k : Nat, k ≤ t.length ∧ i = .int .i64 k ∧ s = .int .i64 (sumP (t.take k)) ∧ sumP (t.take k) ≤ q ∧ Hid (P = plaG (t.drop k) k (sumP (t.take k)) q) ∧ Below W0.heap.size W0 wr) (fun _ i _ => t.length - (intOf i).toNat)
      case atStart => exact ⟨0, by omega, rfl, rfl, by simp [sumP]; omega, HE, by rw [HW0.out]; exact Below.refl _ _⟩
      case round =>
        obtain ⟨k, hk, rfl, rfl, hle, HG, hbl⟩ := hrel
        by_cases hlt : k < t.length
        · have h2 := h
          rw [← HW0.out] at h2
          obtain ⟨b, off, rfl, hb, hcc⟩ := (h2.carry hbl).at_int (k := k) (by omega)
          have HS := Lib.hid (sumP_take t k (by omega))
          have hval := allP_at t k (by omega) HV.out
          have hs := sumP_take_range t k
          have hl := lenP_range (t[k]'(by omega))
          have HG2 := Lib.hid (HG.out.trans (plaG_step t k hlt _ q))
          clear HG
          obtain ⟨X, hX⟩ : ∃ X, t[k]'(by omega) = X := ⟨_, rfl⟩
          obtain ⟨S, hS⟩ : ∃ S, sumP (t.take k) = S := ⟨_, rfl⟩
          rw [hX] at hcc hl HG2 hval
          rw [hS] at hs HG2 hle ⊢
          have HX := Lib.hid hX
          have HS2 := Lib.hid hS
          have cf := fun w => form_ok X w hval
          have HM := Lib.hid (show lenP X = ((Lib.encodeRuneZ X).length : Int) from rfl)
          obtain ⟨M, hM⟩ : ∃ M, (Lib.encodeRuneZ X).length = M := ⟨_, rfl⟩
          have HM2 := Lib.hid hM
          have HM3 := Lib.hid (show lenP X = (M : Int) by rw [HM.out, hM])
          have hl2 : (1 : Int) ≤ M ∧ (M : Int) ≤ 4 := by rw [← HM3.out]; exact hl
          rw [HM3.out] at HG2
          clear hX hS h h2 hval hl hM
          by_cases hq : q < S + (M : Int)
          · go_wp2_with (go_at_call 29; refine (cf _).mono ?_; rintro e w2 ⟨v, rfl, A1, c1, rfl, hc1, hh1, hb1⟩; rw [HM2.out]; clear hh1 hc1)
            go_ret
            have := HG2.out
            rw [if_pos hq] at this
            rw [HW0.out] at hbl
            exact ⟨by rw [this]; rfl, below_trans hbl hb1 hbl.size⟩
          · have HG3 := Lib.hid (HG2.out.trans (if_neg hq))
            clear HG2
            go_wp2_with (go_at_call 29; refine (cf _).mono ?_; rintro e w2 ⟨v, rfl, A1, c1, rfl, hc1, hh1, hb1⟩; rw [HM2.out]; clear hh1 hc1)
            go_roundw
            case rel => exact ⟨k + 1, by omega, by go_num, by rw [HS.out, HX.out, HM3.out, HS2.out], by rw [HS.out, HX.out, HM3.out, HS2.out]; omega, Lib.hid (by rw [HS.out, HX.out, HM3.out, HS2.out]; exact HG3.out), below_trans hbl hb1 hbl.size⟩
            case measure => simp [intOf]; omega
        · obtain rfl : k = t.length := by omega
          obtain ⟨S, hS⟩ : ∃ S, sumP (t.take t.length) = S := ⟨_, rfl⟩
          have HG2 := Lib.hid (HG.out.trans (plaG_end t _ q))
          rw [hS] at hle HG2 ⊢
          rw [HW0.out] at hbl
          clear HG hS h
          by_cases hq : q = S
          · have e := HG2.out
            rw [if_pos hq] at e
            have HE2 := Lib.hid e
            clear e HG2
            subst hq
            go_wp2
            go_ret
            exact ⟨by rw [HE2.out]; rfl, hbl⟩
          · have e := HG2.out
            rw [if_neg hq] at e
            have HE2 := Lib.hid e
            clear e HG2
            go_wp2
            go_ret
            exact ⟨by rw [HE2.out]; rfl, hbl⟩
  · have hv' : allP t = false := by simpa using hv
    rw [hv'] at cr
    have e : plaP t q = -1 := by unfold plaP; rw [if_pos (Or.inl hv')]
    rw [e]
    clear e hv hv'
    go_enter Tryd.func27, Tryd.ntmps27
    go_wp2_with (go_at_call 15; refine (cr _ (by assumption)).mono ?_; rintro e w' ⟨rfl, rfl⟩)
    go_ret
    exact ⟨rfl, Below.refl _ _⟩
end Go.Proofs.YtcegaelpbeefaaaDoor
