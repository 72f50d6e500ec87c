/-
  Contracts of Next, Prev and Window (the program's), and of the document's Window. Condition: at most 1000 code points.
-/
import Derived.Test.YtcplhbafbjpnlaaStep
set_option linter.unusedVariables false
namespace Go.Proofs.Ytcplhbafbjpnlaa
open Go.ChangeShapes Go.WideShapes Go.ChangeAt Go.RowKit

set_option maxHeartbeats 1000000 in
theorem next_ok (A : Option Addr) (c : Nat) (i : Int) (zs : List Int) (w : World) (hn : zs.length ≤ 1000) (hc : zs.length ≤ c) (h : Has w w.heap.size A (zs.map (Value.int .i32))) :
    Calls Try.prog 30 #[.slice A zs.length c, .int .i64 i] w fun e w' => (∃ r : Nat, e = .returned (.int .i64 r) ∧ NextV (cls zs) i r) ∧ Up w w' := by
  have hL := cls_len zs
  by_cases h1 : i < 0
  · go_enter Try.func30, Try.ntmps30
    go_wp2
    go_ret
    exact ⟨⟨0, rfl, fun _ => rfl, fun _ => by omega, fun m hm _ => by omega⟩, Up.refl _⟩
  by_cases h2 : (zs.length : Int) ≤ i
  · go_enter Try.func30, Try.ntmps30
    go_wp2
    go_ret
    exact ⟨⟨zs.length, rfl, fun _ => by omega, fun _ => hL.symm, fun m hm _ => by omega⟩, Up.refl _⟩
  obtain ⟨m, rfl⟩ : ∃ m : Nat, i = m := ⟨i.toNat, by omega⟩
  have hm : m < zs.length := by omega
  clear h1 h2
  have hd1 : decide ((m : Int) < 0) = false := decide_eq_false (by omega)
  have hd2 : decide ((zs.length : Int) ≤ (m : Int)) = false := decide_eq_false (by omega)
  have hd3 : decide (zs.length ≤ m) = false := decide_eq_false (by omega)
  have HL := Lib.hid hL
  clear hL
  go_enter Try.func30, Try.ntmps30
  go_wp2
  go_loopw [5] (fun v wr => ∃ k : Nat, m < k ∧ k ≤ zs.length ∧ v = .int .i64 k ∧ Hid (∀ j, m < j → j < k → bP (cls zs) j = false) ∧ Up w wr) (fun v _ => zs.length - (intOf v).toNat)
  case atStart => exact ⟨m + 1, by omega, by omega, by go_num, Lib.hid (fun j h1 h2 => absurd h1 (by omega)), Up.refl _⟩
  case round =>
    obtain ⟨k, hk1, hk, rfl, HT, hU⟩ := hrel
    by_cases hlt : k < zs.length
    · have HC := Lib.hid (fun w h => joined_ok A c k zs w (by omega) hlt hn hc h)
      have hh := h.up hU
      generalize hq : hang (cls zs) k = q at HC
      have HQ : Hid (bP (cls zs) k = !q) := Lib.hid (by rw [bP_mid _ _ (by omega) (by rw [HL.out]; exact hlt), hq])
      clear hq
      cases q with
      | true =>
        go_wp2_with (go_at_call 38; refine (HC.out _ hh).mono ?_; rintro e u ⟨rfl, hu⟩; have hU := hU.trans hu)
        go_roundw
        case rel => exact ⟨k + 1, by omega, by omega, by go_num, Lib.hid (fun j h1 h2 => by
            rcases Nat.lt_or_ge j k with h3 | h3
            · exact HT.out j h1 h3
            · obtain rfl : j = k := by omega
              exact HQ.out), hU⟩
        case measure => simp [intOf] <;> omega
      | false =>
        go_wp2_with (go_at_call 38; refine (HC.out _ hh).mono ?_; rintro e u ⟨rfl, hu⟩; have hU := hU.trans hu)
        go_ret
        have hL := HL.out
        exact ⟨⟨k, rfl, fun _ => by omega, fun _ => by omega, fun m' hm' _ => by
          obtain rfl : m = m' := by omega
          exact ⟨hk1, by omega, HQ.out, HT.out⟩⟩, hU⟩
    · obtain rfl : k = zs.length := by omega
      go_wp2
      go_ret
      have hL := HL.out
      exact ⟨⟨zs.length, rfl, fun _ => by omega, fun _ => by omega, fun m' hm' _ => by
          obtain rfl : m = m' := by omega
          exact ⟨hk1, by omega, by rw [← hL]; exact bP_end _ (by omega), HT.out⟩⟩, hU⟩

set_option maxHeartbeats 1000000 in
theorem prev_ok (A : Option Addr) (c : Nat) (i : Int) (zs : List Int) (w : World) (hn : zs.length ≤ 1000) (hc : zs.length ≤ c) (h : Has w w.heap.size A (zs.map (Value.int .i32))) :
    Calls Try.prog 29 #[.slice A zs.length c, .int .i64 i] w fun e w' => (∃ r : Nat, e = .returned (.int .i64 r) ∧ PrevV (cls zs) i r) ∧ Up w w' := by
  have hL := cls_len zs
  by_cases h1 : (zs.length : Int) < i
  · go_enter Try.func29, Try.ntmps29
    go_wp2
    go_ret
    exact ⟨⟨zs.length, rfl, fun _ => hL.symm, fun _ => by omega, fun m hm _ _ => by omega⟩, Up.refl _⟩
  by_cases h2 : i ≤ 0
  · go_enter Try.func29, Try.ntmps29
    go_wp2
    go_ret
    exact ⟨⟨0, rfl, fun _ => by omega, fun _ => rfl, fun m hm _ _ => by omega⟩, Up.refl _⟩
  obtain ⟨m, rfl⟩ : ∃ m : Nat, i = m := ⟨i.toNat, by omega⟩
  have hm : m ≤ zs.length := by omega
  have hm0 : 0 < m := by omega
  clear h1 h2
  have hd1 : decide ((zs.length : Int) < (m : Int)) = false := decide_eq_false (by omega)
  have hd2 : decide ((m : Int) ≤ 0) = false := decide_eq_false (by omega)
  have hd3 : decide (zs.length < m) = false := decide_eq_false (by omega)
  have hd4 : decide (m = 0) = false := decide_eq_false (by omega)
  have HL := Lib.hid hL
  clear hL
  go_enter Try.func29, Try.ntmps29
  go_wp2
  go_loopw [5] (fun v wr => ∃ k : Nat, k < m ∧ v = .int .i64 k ∧ Hid (∀ j, k < j → j < m → bP (cls zs) j = false) ∧ Up w wr) (fun v _ => (intOf v).toNat)
  case atStart => exact ⟨m - 1, by omega, by first | go_num | (congr 1; omega), Lib.hid (fun j h1 h2 => absurd h1 (by omega)), Up.refl _⟩
  case round =>
    obtain ⟨k, hk1, rfl, HT, hU⟩ := hrel
    by_cases hlt : 0 < k
    · have HC := Lib.hid (fun w h => joined_ok A c k zs w hlt (by omega) hn hc h)
      have hh := h.up hU
      generalize hq : hang (cls zs) k = q at HC
      have HQ : Hid (bP (cls zs) k = !q) := Lib.hid (by rw [bP_mid _ _ hlt (by rw [HL.out]; omega), hq])
      clear hq
      cases q with
      | true =>
        go_wp2_with (go_at_call 38; refine (HC.out _ hh).mono ?_; rintro e u ⟨rfl, hu⟩; have hU := hU.trans hu)
        go_roundw
        case rel => exact ⟨k - 1, by omega, by first | go_num | (congr 1; omega), Lib.hid (fun j h1 h2 => by
            rcases Nat.lt_or_ge k j with h3 | h3
            · exact HT.out j h3 h2
            · obtain rfl : j = k := by omega
              exact HQ.out), hU⟩
        case measure => simp [intOf] <;> omega
      | false =>
        go_wp2_with (go_at_call 38; refine (HC.out _ hh).mono ?_; rintro e u ⟨rfl, hu⟩; have hU := hU.trans hu)
        go_ret
        have hL := HL.out
        exact ⟨⟨k, rfl, fun _ => by omega, fun _ => by omega, fun m' hm' _ _ => by
          obtain rfl : m = m' := by omega
          exact ⟨hk1, HQ.out, HT.out⟩⟩, hU⟩
    · obtain rfl : k = 0 := by omega
      go_wp2
      go_ret
      have hL := HL.out
      exact ⟨⟨0, rfl, fun _ => by omega, fun _ => rfl, fun m' hm' _ _ => by
          obtain rfl : m = m' := by omega
          exact ⟨hk1, bP_zero _ (by omega), HT.out⟩⟩, hU⟩
end Go.Proofs.Ytcplhbafbjpnlaa
