/-
  Contracts of what looks back: endsInPicture and picture, oddRegionals and regionals. Condition: at most 1000 code points.
-/
import Derived.Test.YtcplhbafbjpnlaaSmall
import Derived.Test.YtcplhbafbjpnlaaGives
set_option linter.unusedVariables false
namespace Go.Proofs.Ytcplhbafbjpnlaa
open Go.ChangeShapes Go.WideShapes Go.ChangeAt Go.RowKit

theorem Has.up {w w' : World} {A : Option Addr} {xs : List Value} (h : Has w w.heap.size A xs) (hu : Up w w') : Has w' w'.heap.size A xs := h.carry hu.1

set_option maxHeartbeats 1000000 in
theorem ends_ok (A : Option Addr) (c m : Nat) (zs : List Int) (w : World) (hm : m ≤ zs.length) (hn : zs.length ≤ 1000) (h : Has w w.heap.size A (zs.map (Value.int .i32))) :
    Calls Try.prog 50 #[.slice A m c] w fun e w' => e = .returned (.bool (pic (cls zs) m)) ∧ Up w w' := by
  obtain ⟨V, hV⟩ : ∃ V, pic (cls zs) m = V := ⟨_, rfl⟩
  rw [hV]
  have HV := Lib.hid hV
  clear hV
  go_enter Try.func50, Try.ntmps50
  go_wp2
  go_loopw [3] (fun i wr => ∃ k : Nat, k ≤ m ∧ i = .int .i64 ((k : Int) - 1) ∧ Hid (pic (cls zs) k = V) ∧ Up w wr) (fun i _ => (intOf i + 1).toNat)
  case atStart => exact ⟨m, Nat.le_refl _, rfl, HV, Up.refl _⟩
  case round =>
    obtain ⟨k, hk, rfl, HT, hU⟩ := hrel
    clear HV
    rcases Nat.eq_zero_or_pos k with rfl | hk0
    · have hF : V = false := HT.out.symm
      clear HT
      rw [show ((0 : Nat) : Int) - 1 = -1 by omega]
      go_wp2
      go_ret
      exact ⟨by rw [hF]; rfl, hU⟩
    · obtain ⟨j, rfl⟩ : ∃ j, k = j + 1 := ⟨k - 1, by omega⟩
      rw [show ((j + 1 : Nat) : Int) - 1 = j by omega]
      obtain ⟨b, off, rfl, hb, hcc⟩ := (h.up hU).at_int (k := j) (by omega)
      have hg := g_cls zs j (by omega)
      obtain ⟨X, hX⟩ : ∃ X, zs[j] = X := ⟨_, rfl⟩
      rw [hX] at hcc hg
      by_cases h4 : cl X = 4
      · have HN : Hid (pic (cls zs) j = V) := Lib.hid (by rw [← HT.out, pic, if_pos (by rw [hg]; exact h4)])
        clear HT hg hX
        go_wp2_with (go_at_call 47; refine (class_ok _ _).mono ?_; rintro e u ⟨rfl, hu⟩; have hU := hU.trans hu; rw [h4])
        go_roundw
        case rel => exact ⟨j, by omega, by go_num, HN, hU⟩
        case measure => simp [intOf] <;> omega
      · have HN : Hid (V = (cl X == 14)) := Lib.hid (by rw [← HT.out, pic, if_neg (by rw [hg]; exact h4), hg])
        clear HT hg hX
        obtain ⟨Y, hY⟩ : ∃ Y, cl X = Y := ⟨_, rfl⟩
        rw [hY] at HN h4
        have HC := Lib.hid (fun w => class_ok X w)
        rw [hY] at HC
        have e4 : (Y == 4) = false := beq_eq_false_iff_ne.2 h4
        go_wp2_with (go_at_call 47; refine (HC.out _).mono ?_; rintro e u ⟨rfl, hu⟩; have hU := hU.trans hu; have hcc := hu.cell hcc)
        go_ret
        exact ⟨by rw [HN.out]; rfl, hU⟩
set_option maxHeartbeats 1000000 in
theorem picture_ok (A : Option Addr) (c m : Nat) (zs : List Int) (w : World) (hm : m ≤ zs.length) (hn : zs.length ≤ 1000) (h : Has w w.heap.size A (zs.map (Value.int .i32))) :
    Calls Try.prog 63 #[.slice A zs.length c, .int .i64 m] w fun e w' => e = .returned (.bool (pic (cls zs) m)) ∧ Up w w' := by
  obtain ⟨V, hV⟩ : ∃ V, pic (cls zs) m = V := ⟨_, rfl⟩
  rw [hV]
  have HV := Lib.hid hV
  clear hV
  go_enter Try.func63, Try.ntmps63
  go_wp2
  go_loopw [1] (fun i wr => ∃ k : Nat, k ≤ m ∧ i = .int .i64 ((k : Int) - 1) ∧ Hid (pic (cls zs) k = V) ∧ Up w wr) (fun i _ => (intOf i + 1).toNat)
  case atStart => exact ⟨m, Nat.le_refl _, rfl, HV, Up.refl _⟩
  case round =>
    obtain ⟨k, hk, rfl, HT, hU⟩ := hrel
    clear HV
    rcases Nat.eq_zero_or_pos k with rfl | hk0
    · have hF : V = false := HT.out.symm
      clear HT
      rw [show ((0 : Nat) : Int) - 1 = -1 by omega]
      go_wp2
      go_ret
      exact ⟨by rw [hF]; rfl, hU⟩
    · obtain ⟨j, rfl⟩ : ∃ j, k = j + 1 := ⟨k - 1, by omega⟩
      rw [show ((j + 1 : Nat) : Int) - 1 = j by omega]
      obtain ⟨b, off, rfl, hb, hcc⟩ := (h.up hU).at_int (k := j) (by omega)
      have hg := g_cls zs j (by omega)
      obtain ⟨X, hX⟩ : ∃ X, zs[j] = X := ⟨_, rfl⟩
      rw [hX] at hcc hg
      by_cases h4 : cl X = 4
      · have HN : Hid (pic (cls zs) j = V) := Lib.hid (by rw [← HT.out, pic, if_pos (by rw [hg]; exact h4)])
        clear HT hg hX
        go_wp2_with (go_at_call 60; refine (rclass_ok _ _).mono ?_; rintro e u ⟨rfl, hu⟩; have hU := hU.trans hu; rw [h4])
        go_roundw
        case rel => exact ⟨j, by omega, by go_num, HN, hU⟩
        case measure => simp [intOf] <;> omega
      · have HN : Hid (V = (cl X == 14)) := Lib.hid (by rw [← HT.out, pic, if_neg (by rw [hg]; exact h4), hg])
        clear HT hg hX
        obtain ⟨Y, hY⟩ : ∃ Y, cl X = Y := ⟨_, rfl⟩
        rw [hY] at HN h4
        have HC := Lib.hid (fun w => rclass_ok X w)
        rw [hY] at HC
        have e4 : (Y == 4) = false := beq_eq_false_iff_ne.2 h4
        go_wp2_with (go_at_call 60; refine (HC.out _).mono ?_; rintro e u ⟨rfl, hu⟩; have hU := hU.trans hu; have hcc := hu.cell hcc)
        go_ret
        exact ⟨by rw [HN.out]; rfl, hU⟩

theorem regs_step (L : List Int) (k : Nat) : regs L (k + 1) = if g L k = 6 then regs L k + 1 else 0 := rfl
theorem odd_succ (n : Nat) : ((n + 1) % 2 == 1) = !(n % 2 == 1) := by
  rcases Nat.mod_two_eq_zero_or_one n with h | h
  · rw [h, Nat.add_mod, h]; rfl
  · rw [h, Nat.add_mod, h]; rfl
set_option maxHeartbeats 1000000 in
theorem odd_ok (A : Option Addr) (c m : Nat) (zs : List Int) (w : World) (hm : m ≤ zs.length) (hn : zs.length ≤ 1000) (h : Has w w.heap.size A (zs.map (Value.int .i32))) :
    Calls Try.prog 51 #[.slice A m c] w fun e w' => e = .returned (.bool (regs (cls zs) m % 2 == 1)) ∧ Up w w' := by
  obtain ⟨V, hV⟩ : ∃ V, (regs (cls zs) m % 2 == 1) = V := ⟨_, rfl⟩
  rw [hV]
  have HV := Lib.hid hV
  clear hV
  go_enter Try.func51, Try.ntmps51
  go_wp2
  go_loopw [3, 4] (fun v i wr => ∃ (o : Bool) (k : Nat), k ≤ m ∧ v = .bool o ∧ i = .int .i64 ((k : Int) - 1) ∧ Hid ((o ^^ (regs (cls zs) k % 2 == 1)) = V) ∧ Up w wr) (fun _ i _ => (intOf i + 1).toNat)
  case atStart => exact ⟨false, m, Nat.le_refl _, rfl, rfl, Lib.hid (by rw [HV.out]; simp), Up.refl _⟩
  case round =>
    obtain ⟨o, k, hk, rfl, rfl, HT, hU⟩ := hrel
    clear HV
    rcases Nat.eq_zero_or_pos k with rfl | hk0
    · have hF : o = V := by have := HT.out; simpa [regs] using this
      clear HT
      rw [show ((0 : Nat) : Int) - 1 = -1 by omega]
      go_wp2
      go_ret
      exact ⟨by rw [← hF]; rfl, hU⟩
    · obtain ⟨j, rfl⟩ : ∃ j, k = j + 1 := ⟨k - 1, by omega⟩
      rw [show ((j + 1 : Nat) : Int) - 1 = j by omega]
      obtain ⟨b, off, rfl, hb, hcc⟩ := (h.up hU).at_int (k := j) (by omega)
      have hg := g_cls zs j (by omega)
      obtain ⟨X, hX⟩ : ∃ X, zs[j] = X := ⟨_, rfl⟩
      rw [hX] at hcc hg
      have hs := regs_step (cls zs) j
      by_cases h6 : cl X = 6
      · have HN : Hid (((!o) ^^ (regs (cls zs) j % 2 == 1)) = V) := Lib.hid (by rw [← HT.out, hs, if_pos (by rw [hg]; exact h6), odd_succ]; cases o <;> simp)
        clear HT hg hX hs
        go_wp2_with (first | (go_at_call 47; refine (class_ok _ _).mono ?_; rintro e u ⟨rfl, hu⟩; have hU := hU.trans hu; rw [h6]) | (go_at_call 59; refine (isReg_ok _ _).mono ?_; rintro e u ⟨rfl, rfl⟩))
        go_roundw
        case rel => exact ⟨!o, j, by omega, rfl, by go_num, HN, hU⟩
        case measure => simp [intOf] <;> omega
      · have HN : Hid (o = V) := Lib.hid (by rw [← HT.out, hs, if_neg (by rw [hg]; exact h6)]; simp)
        clear HT hg hX hs
        obtain ⟨Y, hY⟩ : ∃ Y, cl X = Y := ⟨_, rfl⟩
        rw [hY] at h6
        have HC := Lib.hid (fun w => class_ok X w)
        rw [hY] at HC
        have e6 : (Y == 6) = false := beq_eq_false_iff_ne.2 h6
        have HR := Lib.hid (fun w => isReg_ok Y w)
        rw [e6] at HR
        go_wp2_with (first | (go_at_call 47; refine (HC.out _).mono ?_; rintro e u ⟨rfl, hu⟩; have hU := hU.trans hu; have hcc := hu.cell hcc) | (go_at_call 59; refine (HR.out _).mono ?_; rintro e u ⟨rfl, rfl⟩))
        go_ret
        exact ⟨by rw [HN.out]; rfl, hU⟩

set_option maxHeartbeats 1000000 in
theorem regs_ok (A : Option Addr) (c m : Nat) (zs : List Int) (w : World) (hm : m ≤ zs.length) (hn : zs.length ≤ 1000) (h : Has w w.heap.size A (zs.map (Value.int .i32))) :
    Calls Try.prog 64 #[.slice A zs.length c, .int .i64 m] w fun e w' => e = .returned (.int .i64 (regs (cls zs) m : Nat)) ∧ Up w w' := by
  obtain ⟨V, hV⟩ : ∃ V, regs (cls zs) m = V := ⟨_, rfl⟩
  rw [hV]
  have HV := Lib.hid hV
  clear hV
  go_enter Try.func64, Try.ntmps64
  go_wp2
  go_loopw [5] (fun i wr => ∃ n : Nat, n ≤ m ∧ i = .int .i64 (n : Int) ∧ Hid (n + regs (cls zs) (m - n) = V) ∧ Up w wr) (fun i _ => m - (intOf i).toNat)
  case atStart => exact ⟨0, Nat.zero_le _, rfl, Lib.hid (by rw [Nat.zero_add]; exact HV.out), Up.refl _⟩
  case round =>
    obtain ⟨n, hk, rfl, HT, hU⟩ := hrel
    clear HV
    by_cases hlt : n < m
    · have hL : m - n - 1 < zs.length := by omega
      obtain ⟨b, off, rfl, hb, hcc⟩ := (h.up hU).at_int (k := m - n - 1) hL
      have hg := g_cls zs (m - n - 1) hL
      obtain ⟨X, hX⟩ : ∃ X, zs[m - n - 1] = X := ⟨_, rfl⟩
      rw [hX] at hcc hg
      have hs := regs_step (cls zs) (m - n - 1)
      rw [show m - n - 1 + 1 = m - n by omega] at hs
      by_cases h6 : cl X = 6
      · have HN : Hid (n + 1 + regs (cls zs) (m - (n + 1)) = V) := Lib.hid (by rw [← HT.out, hs, if_pos (by rw [hg]; exact h6), show m - (n + 1) = m - n - 1 by omega]; omega)
        clear HT hg hX hs
        go_wp2_with (first | (go_at_call 60; refine (rclass_ok _ _).mono ?_; rintro e u ⟨rfl, hu⟩; have hU := hU.trans hu; rw [h6]))
        go_roundw
        case rel => exact ⟨n + 1, by omega, by go_num, HN, hU⟩
        case measure => simp [intOf] <;> omega
      · have HN : Hid (n = V) := Lib.hid (by rw [← HT.out, hs, if_neg (by rw [hg]; exact h6)]; omega)
        clear HT hg hX hs
        obtain ⟨Y, hY⟩ : ∃ Y, cl X = Y := ⟨_, rfl⟩
        rw [hY] at h6
        have HC := Lib.hid (fun w => rclass_ok X w)
        rw [hY] at HC
        have e6 : (Y == 6) = false := beq_eq_false_iff_ne.2 h6
        go_wp2_with (first | (go_at_call 60; refine (HC.out _).mono ?_; rintro e u ⟨rfl, hu⟩; have hU := hU.trans hu; have hcc := hu.cell hcc))
        go_ret
        exact ⟨by rw [HN.out]; rfl, hU⟩
    · obtain rfl : n = m := by omega
      have HN : Hid (n = V) := Lib.hid (by have := HT.out; rw [Nat.sub_self] at this; simpa [regs] using this)
      clear HT
      have e0 : (n : Int) - n = 0 := by omega
      go_wp2
      go_ret
      exact ⟨by rw [HN.out]; rfl, hU⟩
end Go.Proofs.Ytcplhbafbjpnlaa
