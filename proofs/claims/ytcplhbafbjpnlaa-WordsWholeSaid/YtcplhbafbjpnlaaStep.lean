/-
  Contracts of Is (the program's and the document's), of first and run. Condition: at most 1000 code points.
-/
import Derived.Test.YtcplhbafbjpnlaaJoin
import Derived.Test.YtcplhbafbjpnlaaBnd
set_option linter.unusedVariables false
namespace Go.Proofs.Ytcplhbafbjpnlaa
open Go.ChangeShapes Go.WideShapes Go.ChangeAt Go.RowKit


set_option maxHeartbeats 1000000 in
theorem is_ok (A : Option Addr) (c : Nat) (i : Int) (zs : List Int) (w : World) (hn : zs.length ≤ 1000) (hc : zs.length ≤ c) (h : Has w w.heap.size A (zs.map (Value.int .i32))) :
    Calls Try.prog 20 #[.slice A zs.length c, .int .i64 i] w fun e w' => e = .returned (.bool (isV (cls zs) i)) ∧ Up w w' := by
  obtain ⟨V, hV⟩ : ∃ V, isV (cls zs) i = V := ⟨_, rfl⟩
  rw [hV]
  unfold isV bP at hV
  rw [cls_len] at hV
  rcases Nat.eq_zero_or_pos zs.length with hz | hz
  · have HR : Hid (V = false) := Lib.hid (by rw [← hV, hz]; simp)
    clear hV
    rw [hz]
    go_enter Try.func20, Try.ntmps20
    go_wp2
    go_ret
    exact ⟨by rw [HR.out]; rfl, Up.refl _⟩
  have hz1 : ¬ zs.length = 0 := by omega
  have hzb : ((zs.length : Int) == 0) = false := beq_eq_false_iff_ne.2 (by omega)
  have hzl : decide ((zs.length : Int) < 0) = false := decide_eq_false (by omega)
  by_cases h1 : i < 0
  · have HR : Hid (V = false) := Lib.hid (by rw [← hV, decide_eq_false (by omega)]; rfl)
    clear hV
    go_enter Try.func20, Try.ntmps20
    go_wp2
    go_ret
    exact ⟨by rw [HR.out]; rfl, Up.refl _⟩
  by_cases h2 : (zs.length : Int) < i
  · have HR : Hid (V = false) := Lib.hid (by rw [← hV, decide_eq_false (by omega)]; rfl)
    clear hV
    go_enter Try.func20, Try.ntmps20
    go_wp2
    go_ret
    exact ⟨by rw [HR.out]; rfl, Up.refl _⟩
  obtain ⟨k, rfl⟩ : ∃ k : Nat, i = k := ⟨i.toNat, by omega⟩
  rw [decide_eq_true (by omega), Int.toNat_natCast] at hV
  have hk : k ≤ zs.length := by omega
  clear h1 h2
  by_cases h0 : k = 0
  · subst h0
    have HR : Hid (V = true) := Lib.hid (by rw [← hV]; simp [hz1])
    clear hV
    have hzn : ¬ (zs.length : Int) = 0 := by omega
    have hzn2 : ¬ (zs.length : Int) < 0 := by omega
    go_enter Try.func20, Try.ntmps20
    go_wp2
    go_ret
    exact ⟨by rw [HR.out]; rfl, Up.refl _⟩
  by_cases hl : k = zs.length
  · subst hl
    have HR : Hid (V = true) := Lib.hid (by rw [← hV]; simp [hz1])
    clear hV
    go_enter Try.func20, Try.ntmps20
    go_wp2
    go_ret
    exact ⟨by rw [HR.out]; rfl, Up.refl _⟩
  have en : (zs.length != 0) = true := bne_iff_ne.2 hz1
  have e0 : (k == 0) = false := beq_eq_false_iff_ne.2 h0
  have el : (k == zs.length) = false := beq_eq_false_iff_ne.2 hl
  have HR : Hid ((!hang (cls zs) k) = V) := Lib.hid (by rw [← hV, en, e0, el]; rfl)
  have ek0 : ((k : Int) == 0) = false := beq_eq_false_iff_ne.2 (by omega)
  have ekl : ((k : Int) == (zs.length : Int)) = false := beq_eq_false_iff_ne.2 (by omega)
  have HC := Lib.hid (fun w h => joined_ok A c k zs w (by omega) (by omega) hn hc h)
  clear hV
  generalize hang (cls zs) k = q at HR HC
  have hne : ¬ (k : Int) = zs.length := by omega
  go_enter Try.func20, Try.ntmps20
  go_wp2_with (go_at_call 38; refine (HC.out _ (by assumption)).mono ?_; rintro e u ⟨rfl, hu⟩)
  go_ret
  exact ⟨by rw [← HR.out]; rfl, hu⟩

set_option maxHeartbeats 1000000 in
theorem ris_ok (A : Option Addr) (c : Nat) (i : Int) (zs : List Int) (w : World) (hn : zs.length ≤ 1000) (hc : zs.length ≤ c) (h : Has w w.heap.size A (zs.map (Value.int .i32))) :
    Calls Try.prog 42 #[.slice A zs.length c, .int .i64 i] w fun e w' => e = .returned (.bool (isV (cls zs) i)) ∧ Up w w' := by
  obtain ⟨V, hV⟩ : ∃ V, isV (cls zs) i = V := ⟨_, rfl⟩
  rw [hV]
  unfold isV bP at hV
  rw [cls_len] at hV
  rcases Nat.eq_zero_or_pos zs.length with hz | hz
  · have HR : Hid (V = false) := Lib.hid (by rw [← hV, hz]; simp)
    clear hV
    rw [hz]
    go_enter Try.func42, Try.ntmps42
    go_wp2
    go_ret
    exact ⟨by rw [HR.out]; rfl, Up.refl _⟩
  have hz1 : ¬ zs.length = 0 := by omega
  have hzb : ((zs.length : Int) == 0) = false := beq_eq_false_iff_ne.2 (by omega)
  have hzl : decide ((zs.length : Int) < 0) = false := decide_eq_false (by omega)
  by_cases h1 : i < 0
  · have HR : Hid (V = false) := Lib.hid (by rw [← hV, decide_eq_false (by omega)]; rfl)
    clear hV
    go_enter Try.func42, Try.ntmps42
    go_wp2
    go_ret
    exact ⟨by rw [HR.out]; rfl, Up.refl _⟩
  by_cases h2 : (zs.length : Int) < i
  · have HR : Hid (V = false) := Lib.hid (by rw [← hV, decide_eq_false (by omega)]; rfl)
    clear hV
    go_enter Try.func42, Try.ntmps42
    go_wp2
    go_ret
    exact ⟨by rw [HR.out]; rfl, Up.refl _⟩
  obtain ⟨k, rfl⟩ : ∃ k : Nat, i = k := ⟨i.toNat, by omega⟩
  rw [decide_eq_true (by omega), Int.toNat_natCast] at hV
  have hk : k ≤ zs.length := by omega
  clear h1 h2
  by_cases h0 : k = 0
  · subst h0
    have HR : Hid (V = true) := Lib.hid (by rw [← hV]; simp [hz1])
    clear hV
    have hzn : ¬ (zs.length : Int) = 0 := by omega
    have hzn2 : ¬ (zs.length : Int) < 0 := by omega
    go_enter Try.func42, Try.ntmps42
    go_wp2
    go_ret
    exact ⟨by rw [HR.out]; rfl, Up.refl _⟩
  by_cases hl : k = zs.length
  · subst hl
    have HR : Hid (V = true) := Lib.hid (by rw [← hV]; simp [hz1])
    clear hV
    go_enter Try.func42, Try.ntmps42
    go_wp2
    go_ret
    exact ⟨by rw [HR.out]; rfl, Up.refl _⟩
  have en : (zs.length != 0) = true := bne_iff_ne.2 hz1
  have e0 : (k == 0) = false := beq_eq_false_iff_ne.2 h0
  have el : (k == zs.length) = false := beq_eq_false_iff_ne.2 hl
  have HR : Hid ((!hang (cls zs) k) = V) := Lib.hid (by rw [← hV, en, e0, el]; rfl)
  have ek0 : ((k : Int) == 0) = false := beq_eq_false_iff_ne.2 (by omega)
  have ekl : ((k : Int) == (zs.length : Int)) = false := beq_eq_false_iff_ne.2 (by omega)
  have HC := Lib.hid (fun w h => hangs_ok A c k zs w (by omega) (by omega) hn hc h)
  clear hV
  generalize hang (cls zs) k = q at HR HC
  have hne : ¬ (k : Int) = zs.length := by omega
  go_enter Try.func42, Try.ntmps42
  go_wp2_with (go_at_call 53; refine (HC.out _ (by assumption)).mono ?_; rintro e u ⟨rfl, hu⟩)
  go_ret
  exact ⟨by rw [← HR.out]; rfl, hu⟩

set_option maxHeartbeats 1000000 in
theorem first_ok (A : Option Addr) (c : Nat) (zs : List Int) (w : World) (h0 : 0 < zs.length) (hn : zs.length ≤ 1000) (hc : zs.length ≤ c) (h : Has w w.heap.size A (zs.map (Value.int .i32))) :
    Calls Try.prog 39 #[.slice A zs.length c] w fun e w' => (∃ r : Nat, e = .returned (.int .i64 r) ∧ Firsts (cls zs) r) ∧ Up w w' := by
  go_enter Try.func39, Try.ntmps39
  go_wp2
  go_loopw [3] (fun v wr => ∃ k : Nat, 1 ≤ k ∧ k ≤ zs.length ∧ v = .int .i64 k ∧ Hid (∀ j, 0 < j → j < k → hang (cls zs) j = true) ∧ Up w wr) (fun v _ => zs.length - (intOf v).toNat)
  case atStart => exact ⟨1, by omega, by omega, rfl, Lib.hid (fun j h1 h2 => absurd h1 (by omega)), Up.refl _⟩
  case round =>
    obtain ⟨k, hk1, hk, rfl, HT, hU⟩ := hrel
    by_cases hlt : k < zs.length
    · have HC := Lib.hid (fun w h => joined_ok A c k zs w hk1 hlt hn hc h)
      have hh := h.up hU
      generalize hq : hang (cls zs) k = q at HC
      have HQ := Lib.hid hq
      clear hq
      cases q with
      | true =>
        go_wp2_with (go_at_call 38; refine (HC.out _ hh).mono ?_; rintro e u ⟨rfl, hu⟩; have hU := hU.trans hu)
        go_roundw
        case rel => exact ⟨k + 1, by omega, by omega, by go_num, Lib.hid (fun j h1 h2 => by
            rcases Nat.lt_or_ge j k with h3 | h3
            · exact HT.out j h1 h3
            · obtain rfl : j = k := by omega
              exact HQ.out), hU⟩
        case measure => simp [intOf] <;> omega
      | false =>
        go_wp2_with (go_at_call 38; refine (HC.out _ hh).mono ?_; rintro e u ⟨rfl, hu⟩; have hU := hU.trans hu)
        go_ret
        exact ⟨⟨k, rfl, hk1, by rw [cls_len]; exact hk, HT.out, .inr HQ.out⟩, hU⟩
    · obtain rfl : k = zs.length := by omega
      go_wp2
      go_ret
      exact ⟨⟨zs.length, rfl, hk1, by rw [cls_len]; exact hk, HT.out, .inl (cls_len _).symm⟩, hU⟩


end Go.Proofs.Ytcplhbafbjpnlaa
