/-
  Contracts of what looks back: endsInPicture and picture, oddRegionals and regionals. Condition: at most 1000 code points.
-/
import Derived.Test.YtnpcakeagpbgiaaGreatZSmall
import Derived.Test.YtnpcakeagpbgiaaGreatAza
import Derived.Shelf.SlSortCmp.QuietGrown
import Derived.Test.YtnpcakeagpbgiaaGreatGza
set_option linter.unusedVariables false
namespace Go.Proofs.YtnpcakeagpbgiaaGreat
open Go.ChangeShapes Go.WideShapes Go.ChangeAt Go.RowKit

theorem Has.up {w w' : World} {A : Option Addr} {xs : List Value} (h : Has w w.heap.size A xs) (hu : Up w w') : Has w' w'.heap.size A xs := h.carry hu.1

set_option maxHeartbeats 1000000 in
theorem ends_ok (A : Option Addr) (c m : Nat) (zs : List Int) (w : World) (hm : m ≤ zs.length) (hn : zs.length ≤ 1000) (h : Has w w.heap.size A (zs.map (Value.int .i32))) :
    Calls Tryz.prog 44 #[.slice A m c] w fun e w' => e = .returned (.bool (pic (cls zs) m)) ∧ Up w w' := by
  obtain ⟨V, hV⟩ : ∃ V, pic (cls zs) m = V := ⟨_, rfl⟩
  rw [hV]
  have HV := Lib.hid hV
  clear hV
  go_enter Tryz.func44, Tryz.ntmps44
  go_wp2
  go_loopw [3] (fun i wr => ∃ k : Nat, k ≤ m ∧ i = .int .i64 ((k : Int) - 1) ∧ Hid (pic (cls zs) k = V) ∧ Up w wr) (fun i _ => (intOf i + 1).toNat)
  case atStart => exact ⟨m, Nat.le_refl _, rfl, HV, Up.refl _⟩
  case round =>
    obtain ⟨k, hk, rfl, HT, hU⟩ := hrel
    clear HV
    rcases Nat.eq_zero_or_pos k with rfl | hk0
    · have hF : V = false := HT.out.symm
      clear HT
      rw [show ((0 : Nat) : Int) - 1 = -1 by omega]
      go_wp2
      go_ret
      exact ⟨by rw [hF]; rfl, hU⟩
    · obtain ⟨j, rfl⟩ : ∃ j, k = j + 1 := ⟨k - 1, by omega⟩
      rw [show ((j + 1 : Nat) : Int) - 1 = j by omega]
      obtain ⟨b, off, rfl, hb, hcc⟩ := (h.up hU).at_int (k := j) (by omega)
      have hg := g_cls zs j (by omega)
      obtain ⟨X, hX⟩ : ∃ X, zs[j] = X := ⟨_, rfl⟩
      rw [hX] at hcc hg
      by_cases h4 : cl X = 4
      · have HN : Hid (pic (cls zs) j = V) := Lib.hid (by rw [← HT.out, pic, if_pos (by rw [hg]; exact h4)])
        clear HT hg hX
        go_wp2_with (go_at_call 41; refine (class_ok _ _).mono ?_; rintro e u ⟨rfl, hu⟩; have hU := hU.trans hu; rw [h4])
        go_roundw
        case rel => exact ⟨j, by omega, by go_num, HN, hU⟩
        case measure => simp [intOf] <;> omega
      · have HN : Hid (V = (cl X == 14)) := Lib.hid (by rw [← HT.out, pic, if_neg (by rw [hg]; exact h4), hg])
        clear HT hg hX
        obtain ⟨Y, hY⟩ : ∃ Y, cl X = Y := ⟨_, rfl⟩
        rw [hY] at HN h4
        have HC := Lib.hid (fun w => class_ok X w)
        rw [hY] at HC
        have e4 : (Y == 4) = false := beq_eq_false_iff_ne.2 h4
        go_wp2_with (go_at_call 41; refine (HC.out _).mono ?_; rintro e u ⟨rfl, hu⟩; have hU := hU.trans hu; have hcc := hu.cell hcc)
        go_ret
        exact ⟨by rw [HN.out]; rfl, hU⟩
set_option maxHeartbeats 1000000 in
theorem picture_ok (A : Option Addr) (c m : Nat) (zs : List Int) (w : World) (hm : m ≤ zs.length) (hn : zs.length ≤ 1000) (h : Has w w.heap.size A (zs.map (Value.int .i32))) :
    Calls Tryz.prog 84 #[.slice A zs.length c, .int .i64 m] w fun e w' => e = .returned (.bool (pic (cls zs) m)) ∧ Up w w' := by
  obtain ⟨V, hV⟩ : ∃ V, pic (cls zs) m = V := ⟨_, rfl⟩
  rw [hV]
  have HV := Lib.hid hV
  clear hV
  go_enter Tryz.func84, Tryz.ntmps84
  go_wp2
  go_loopw [1] (fun i wr => ∃ k : Nat, k ≤ m ∧ i = .int .i64 ((k : Int) - 1) ∧ Hid (pic (cls zs) k = V) ∧ Up w wr) (fun i _ => (intOf i + 1).toNat)
  case atStart => exact ⟨m, Nat.le_refl _, rfl, HV, Up.refl _⟩
  case round =>
    obtain ⟨k, hk, rfl, HT, hU⟩ := hrel
    clear HV
    rcases Nat.eq_zero_or_pos k with rfl | hk0
    · have hF : V = false := HT.out.symm
      clear HT
      rw [show ((0 : Nat) : Int) - 1 = -1 by omega]
      go_wp2
      go_ret
      exact ⟨by rw [hF]; rfl, hU⟩
    · obtain ⟨j, rfl⟩ : ∃ j, k = j + 1 := ⟨k - 1, by omega⟩
      rw [show ((j + 1 : Nat) : Int) - 1 = j by omega]
      obtain ⟨b, off, rfl, hb, hcc⟩ := (h.up hU).at_int (k := j) (by omega)
      have hg := g_cls zs j (by omega)
      obtain ⟨X, hX⟩ : ∃ X, zs[j] = X := ⟨_, rfl⟩
      rw [hX] at hcc hg
      by_cases h4 : cl X = 4
      · have HN : Hid (pic (cls zs) j = V) := Lib.hid (by rw [← HT.out, pic, if_pos (by rw [hg]; exact h4)])
        clear HT hg hX
        go_wp2_with (go_at_call 81; refine (rclass_ok _ _).mono ?_; rintro e u ⟨rfl, hu⟩; have hU := hU.trans hu; rw [h4])
        go_roundw
        case rel => exact ⟨j, by omega, by go_num, HN, hU⟩
        case measure => simp [intOf] <;> omega
      · have HN : Hid (V = (cl X == 14)) := Lib.hid (by rw [← HT.out, pic, if_neg (by rw [hg]; exact h4), hg])
        clear HT hg hX
        obtain ⟨Y, hY⟩ : ∃ Y, cl X = Y := ⟨_, rfl⟩
        rw [hY] at HN h4
        have HC := Lib.hid (fun w => rclass_ok X w)
        rw [hY] at HC
        have e4 : (Y == 4) = false := beq_eq_false_iff_ne.2 h4
        go_wp2_with (go_at_call 81; refine (HC.out _).mono ?_; rintro e u ⟨rfl, hu⟩; have hU := hU.trans hu; have hcc := hu.cell hcc)
        go_ret
        exact ⟨by rw [HN.out]; rfl, hU⟩

theorem regs_step (L : List Int) (k : Nat) : regs L (k + 1) = if g L k = 6 then regs L k + 1 else 0 := rfl
theorem odd_succ (n : Nat) : ((n + 1) % 2 == 1) = !(n % 2 == 1) := by
  rcases Nat.mod_two_eq_zero_or_one n with h | h
  · rw [h, Nat.add_mod, h]; rfl
  · rw [h, Nat.add_mod, h]; rfl
set_option maxHeartbeats 1000000 in
theorem odd_ok (A : Option Addr) (c m : Nat) (zs : List Int) (w : World) (hm : m ≤ zs.length) (hn : zs.length ≤ 1000) (h : Has w w.heap.size A (zs.map (Value.int .i32))) :
    Calls Tryz.prog 45 #[.slice A m c] w fun e w' => e = .returned (.bool (regs (cls zs) m % 2 == 1)) ∧ Up w w' := by
  obtain ⟨V, hV⟩ : ∃ V, (regs (cls zs) m % 2 == 1) = V := ⟨_, rfl⟩
  rw [hV]
  have HV := Lib.hid hV
  clear hV
  go_enter Tryz.func45, Tryz.ntmps45
  go_wp2
  go_loopw [3, 4] (fun v i wr => ∃ (o : Bool) (k : Nat), k ≤ m ∧ v = .bool o ∧ i = .int .i64 ((k : Int) - 1) ∧ Hid ((o ^^ (regs (cls zs) k % 2 == 1)) = V) ∧ Up w wr) (fun _ i _ => (intOf i + 1).toNat)
  case atStart => exact ⟨false, m, Nat.le_refl _, rfl, rfl, Lib.hid (by rw [HV.out]; simp), Up.refl _⟩
  case round =>
    obtain ⟨o, k, hk, rfl, rfl, HT, hU⟩ := hrel
    clear HV
    rcases Nat.eq_zero_or_pos k with rfl | hk0
    · have hF : o = V := by have := HT.out; simpa [regs] using this
      clear HT
      rw [show ((0 : Nat) : Int) - 1 = -1 by omega]
      go_wp2
      go_ret
      exact ⟨by rw [← hF]; rfl, hU⟩
    · obtain ⟨j, rfl⟩ : ∃ j, k = j + 1 := ⟨k - 1, by omega⟩
      rw [show ((j + 1 : Nat) : Int) - 1 = j by omega]
      obtain ⟨b, off, rfl, hb, hcc⟩ := (h.up hU).at_int (k := j) (by omega)
      have hg := g_cls zs j (by omega)
      obtain ⟨X, hX⟩ : ∃ X, zs[j] = X := ⟨_, rfl⟩
      rw [hX] at hcc hg
      have hs := regs_step (cls zs) j
      by_cases h6 : cl X = 6
      · have HN : Hid (((!o) ^^ (regs (cls zs) j % 2 == 1)) = V) := Lib.hid (by rw [← HT.out, hs, if_pos (by rw [hg]; exact h6), odd_succ]; cases o <;> simp)
        clear HT hg hX hs
        go_wp2_with (first | (go_at_call 41; refine (class_ok _ _).mono ?_; rintro e u ⟨rfl, hu⟩; have hU := hU.trans hu; rw [h6]) | (go_at_call 65; refine (isReg_ok _ _).mono ?_; rintro e u ⟨rfl, rfl⟩))
        go_roundw
        case rel => exact ⟨!o, j, by omega, rfl, by go_num, HN, hU⟩
        case measure => simp [intOf] <;> omega
      · have HN : Hid (o = V) := Lib.hid (by rw [← HT.out, hs, if_neg (by rw [hg]; exact h6)]; simp)
        clear HT hg hX hs
        obtain ⟨Y, hY⟩ : ∃ Y, cl X = Y := ⟨_, rfl⟩
        rw [hY] at h6
        have HC := Lib.hid (fun w => class_ok X w)
        rw [hY] at HC
        have e6 : (Y == 6) = false := beq_eq_false_iff_ne.2 h6
        have HR := Lib.hid (fun w => isReg_ok Y w)
        rw [e6] at HR
        go_wp2_with (first | (go_at_call 41; refine (HC.out _).mono ?_; rintro e u ⟨rfl, hu⟩; have hU := hU.trans hu; have hcc := hu.cell hcc) | (go_at_call 65; refine (HR.out _).mono ?_; rintro e u ⟨rfl, rfl⟩))
        go_ret
        exact ⟨by rw [HN.out]; rfl, hU⟩

set_option maxHeartbeats 1000000 in
theorem regs_ok (A : Option Addr) (c m : Nat) (zs : List Int) (w : World) (hm : m ≤ zs.length) (hn : zs.length ≤ 1000) (h : Has w w.heap.size A (zs.map (Value.int .i32))) :
    Calls Tryz.prog 85 #[.slice A zs.length c, .int .i64 m] w fun e w' => e = .returned (.int .i64 (regs (cls zs) m : Nat)) ∧ Up w w' := by
  obtain ⟨V, hV⟩ : ∃ V, regs (cls zs) m = V := ⟨_, rfl⟩
  rw [hV]
  have HV := Lib.hid hV
  clear hV
  go_enter Tryz.func85, Tryz.ntmps85
  go_wp2
  go_loopw [5] (fun i wr => ∃ n : Nat, n ≤ m ∧ i = .int .i64 (n : Int) ∧ Hid (n + regs (cls zs) (m - n) = V) ∧ Up w wr) (fun i _ => m - (intOf i).toNat)
  case atStart => exact ⟨0, Nat.zero_le _, rfl, Lib.hid (by rw [Nat.zero_add]; exact HV.out), Up.refl _⟩
  case round =>
    obtain ⟨n, hk, rfl, HT, hU⟩ := hrel
    clear HV
    by_cases hlt : n < m
    · have hL : m - n - 1 < zs.length := by omega
      obtain ⟨b, off, rfl, hb, hcc⟩ := (h.up hU).at_int (k := m - n - 1) hL
      have hg := g_cls zs (m - n - 1) hL
      obtain ⟨X, hX⟩ : ∃ X, zs[m - n - 1] = X := ⟨_, rfl⟩
      rw [hX] at hcc hg
      have hs := regs_step (cls zs) (m - n - 1)
      rw [show m - n - 1 + 1 = m - n by omega] at hs
      by_cases h6 : cl X = 6
      · have HN : Hid (n + 1 + regs (cls zs) (m - (n + 1)) = V) := Lib.hid (by rw [← HT.out, hs, if_pos (by rw [hg]; exact h6), show m - (n + 1) = m - n - 1 by omega]; omega)
        clear HT hg hX hs
        go_wp2_with (first | (go_at_call 81; refine (rclass_ok _ _).mono ?_; rintro e u ⟨rfl, hu⟩; have hU := hU.trans hu; rw [h6]))
        go_roundw
        case rel => exact ⟨n + 1, by omega, by go_num, HN, hU⟩
        case measure => simp [intOf] <;> omega
      · have HN : Hid (n = V) := Lib.hid (by rw [← HT.out, hs, if_neg (by rw [hg]; exact h6)]; omega)
        clear HT hg hX hs
        obtain ⟨Y, hY⟩ : ∃ Y, cl X = Y := ⟨_, rfl⟩
        rw [hY] at h6
        have HC := Lib.hid (fun w => rclass_ok X w)
        rw [hY] at HC
        have e6 : (Y == 6) = false := beq_eq_false_iff_ne.2 h6
        go_wp2_with (first | (go_at_call 81; refine (HC.out _).mono ?_; rintro e u ⟨rfl, hu⟩; have hU := hU.trans hu; have hcc := hu.cell hcc))
        go_ret
        exact ⟨by rw [HN.out]; rfl, hU⟩
    · obtain rfl : n = m := by omega
      have HN : Hid (n = V) := Lib.hid (by have := HT.out; rw [Nat.sub_self] at this; simpa [regs] using this)
      clear HT
      have e0 : (n : Int) - n = 0 := by omega
      go_wp2
      go_ret
      exact ⟨by rw [HN.out]; rfl, hU⟩
end Go.Proofs.YtnpcakeagpbgiaaGreat

/-
  Contracts of the program's joined and of the document's hangs at a place inside a text. Condition: at most 1000 code points.
-/
set_option linter.unusedVariables false
namespace Go.Proofs.YtnpcakeagpbgiaaGreat
open Go.ChangeShapes Go.WideShapes Go.ChangeAt Go.RowKit Go.Sort

theorem Has.cells {w : World} {A : Option Addr} {zs : List Int} (h : Has w w.heap.size A (zs.map (Value.int .i32))) {i j : Nat} (hi : i < zs.length) (hj : j < zs.length) :
    ∃ b off, A = some ⟨b, off, none⟩ ∧ b < w.heap.size ∧ w.cell? ⟨b, off + i, none⟩ = some (.int .i32 zs[i]) ∧ w.cell? ⟨b, off + j, none⟩ = some (.int .i32 zs[j]) := by
  obtain ⟨b, off, rfl, hb, h1⟩ := h.at_int hi
  obtain ⟨b2, off2, e, _, h2⟩ := h.at_int hj
  injection e with e
  injection e with e1 e2
  subst e1; subst e2
  exact ⟨b, off, rfl, hb, h1, h2⟩

set_option maxHeartbeats 1000000 in
theorem joined_ok (A : Option Addr) (c i : Nat) (zs : List Int) (w : World) (h0 : 0 < i) (hi : i < zs.length) (hn : zs.length ≤ 1000) (hc : zs.length ≤ c) (h : Has w w.heap.size A (zs.map (Value.int .i32))) :
    Calls Tryz.prog 24 #[.slice A zs.length c, .int .i64 i] w fun e w' => e = .returned (.bool (hang (cls zs) i)) ∧ Up w w' := by
  have mixed : Tryz.prog.follows .mixedOrders = true := by kernel_rfl
  have hv : hang (cls zs) i = joinF (cl zs[i - 1]) (cl zs[i]) (pic (cls zs) (i - 1)) (regs (cls zs) i % 2 == 1) := by
    unfold hang
    rw [g_cls zs (i - 1) (by omega), g_cls zs i hi, join_hang]
  obtain ⟨b, off, rfl, hb, hc1, hc2⟩ := h.cells (i := i - 1) (j := i) (by omega) hi
  rw [hv]
  clear hv
  have HE := Lib.hid (fun A c w h => ends_ok A c (i - 1) zs w (by omega) hn h)
  have HO := Lib.hid (fun A c w h => odd_ok A c i zs w (by omega) hn h)
  have HX1 := Lib.hid (fun w => class_ok zs[i - 1] w)
  have HX2 := Lib.hid (fun w => class_ok zs[i] w)
  generalize hP : pic (cls zs) (i - 1) = p at HE ⊢
  generalize hQ : (regs (cls zs) i % 2 == 1) = q at HO ⊢
  generalize hX : zs[i - 1] = X at HX1 hc1 ⊢
  generalize hY : zs[i] = Y at HX2 hc2 ⊢
  generalize ha : cl X = x at HX1 ⊢
  generalize hbb : cl Y = y at HX2 ⊢
  clear hP hQ hX hY ha hbb
  have hl1 : ∀ n os, (grow (w.drewN n) os).cell? ⟨b, off + (i - 1), none⟩ = some (.int .i32 X) := fun n os => cell_grown hb hc1 n os
  have hl2 : ∀ n os, (grow (w.drewN n) os).cell? ⟨b, off + i, none⟩ = some (.int .i32 Y) := fun n os => cell_grown hb hc2 n os
  have HG1 : Hid (∀ n os, Calls Tryz.prog 41 #[.int .i32 X] (grow (w.drewN n) os) fun e w' => e = .returned (.int .i64 x) ∧ ∃ q os', w' = grow ((grow (w.drewN n) os).drewN q) os') := Lib.hid (fun n os => (HX1.out _).mono fun _ _ ⟨he, hu⟩ => ⟨he, hu.grow⟩)
  have HG2 : Hid (∀ n os, Calls Tryz.prog 41 #[.int .i32 Y] (grow (w.drewN n) os) fun e w' => e = .returned (.int .i64 y) ∧ ∃ q os', w' = grow ((grow (w.drewN n) os).drewN q) os') := Lib.hid (fun n os => (HX2.out _).mono fun _ _ ⟨he, hu⟩ => ⟨he, hu.grow⟩)
  obtain ⟨V, hV⟩ : ∃ V, joinF x y p q = V := ⟨_, rfl⟩
  rw [hV]
  have HV := Lib.hid hV
  clear hV HX1 HX2
  have HH := Lib.hid h
  clear h
  have kw : IntKind.i64.wrap ((i : Int) - 1) = ((i - 1 : Nat) : Int) := by rw [IntWalk.i64_in _ (by omega)]; omega
  have hL1 : i - 1 < zs.length := by omega
  go_enter Tryz.func24, Tryz.ntmps24
  go_wp2
  go_quiet_grown ((go_at_call 41; first | with_reducible exact Calls.grown_of (HG1.out _ _) | with_reducible exact Calls.grown_of (HG2.out _ _)))
  have hU : ∀ n os, Up w (grow (w.drewN n) os) := fun n os => Up.of_grow w n os
  have hn1 : i ≤ c := by omega
  have hn2 : ¬ c = 0 := by omega
  unfold joinF at HV
  cases hs : stopB x with
  | true =>
    rw [hs] at HV
    by_cases h1 : x = 1
    · subst h1
      have HR : Hid ((y == 2) = V) := Lib.hid (by rw [← HV.out]; simp)
      clear HV
      go_wp2_with (go_at_call 42; refine (isBreak_ok _ _).mono ?_; rintro e u ⟨rfl, rfl⟩; rw [hs])
      go_ret
      exact ⟨by rw [← HR.out]; rfl, hU _ _⟩
    · have e1 : (x == 1) = false := beq_eq_false_iff_ne.2 h1
      have HR : Hid (V = false) := Lib.hid (by rw [← HV.out, e1]; simp)
      clear HV
      go_wp2_with (go_at_call 42; refine (isBreak_ok _ _).mono ?_; rintro e u ⟨rfl, rfl⟩; rw [hs])
      go_ret
      exact ⟨by rw [HR.out]; rfl, hU _ _⟩
  | false =>
    rw [hs] at HV
    cases ha : attB y with
    | true =>
      have HR : Hid (V = true) := Lib.hid (by rw [← HV.out, ha]; simp)
      clear HV
      go_wp2_with (first | (go_at_call 42; refine (isBreak_ok _ _).mono ?_; rintro e u ⟨rfl, rfl⟩; rw [hs]) | (go_at_call 43; refine (isAtt_ok _ _).mono ?_; rintro e u ⟨rfl, rfl⟩; rw [ha]))
      go_ret
      exact ⟨by rw [HR.out]; rfl, hU _ _⟩
    | false =>
      by_cases h8 : y = 8
      · subst h8
        have HR : Hid (V = true) := Lib.hid (by rw [← HV.out]; simp)
        clear HV
        go_wp2_with (first | (go_at_call 42; refine (isBreak_ok _ _).mono ?_; rintro e u ⟨rfl, rfl⟩; rw [hs]) | (go_at_call 43; refine (isAtt_ok _ _).mono ?_; rintro e u ⟨rfl, rfl⟩; rw [ha]))
        go_ret
        exact ⟨by rw [HR.out]; rfl, hU _ _⟩
      have e8 : (y == 8) = false := beq_eq_false_iff_ne.2 h8
      rw [ha, e8] at HV
      by_cases h7 : x = 7
      · subst h7
        have HR : Hid ((!stopB y) = V) := Lib.hid (by rw [← HV.out]; simp)
        clear HV
        generalize hsy : stopB y = sy at HR
        go_wp2_with (first | (go_at_call 42; refine (isBreak_ok _ _).mono ?_; rintro e u ⟨rfl, rfl⟩; first | rw [hs] | rw [hsy]) | (go_at_call 43; refine (isAtt_ok _ _).mono ?_; rintro e u ⟨rfl, rfl⟩; rw [ha]))
        go_ret
        exact ⟨by rw [← HR.out]; rfl, hU _ _⟩
      have e7 : (x == 7) = false := beq_eq_false_iff_ne.2 h7
      rw [if_neg h7] at HV
      by_cases h5 : x = 5
      · subst h5
        by_cases h14 : y = 14
        · subst h14
          have HR : Hid (p = V) := Lib.hid (by rw [← HV.out]; simp)
          clear HV
          go_wp2_with (first | (go_at_call 42; refine (isBreak_ok _ _).mono ?_; rintro e u ⟨rfl, rfl⟩; rw [hs]) | (go_at_call 43; refine (isAtt_ok _ _).mono ?_; rintro e u ⟨rfl, rfl⟩; rw [ha]) | (go_at_call 44; refine (HE.out _ _ _ (by simpa using HH.out.up (hU _ _))).mono ?_; rintro e u ⟨rfl, hu⟩))
          go_ret
          exact ⟨by rw [HR.out]; rfl, (hU _ _).trans hu⟩
        · have e14 : (y == 14) = false := beq_eq_false_iff_ne.2 h14
          have HR : Hid (V = false) := Lib.hid (by rw [← HV.out, e14]; simp)
          clear HV
          go_wp2_with (first | (go_at_call 42; refine (isBreak_ok _ _).mono ?_; rintro e u ⟨rfl, rfl⟩; rw [hs]) | (go_at_call 43; refine (isAtt_ok _ _).mono ?_; rintro e u ⟨rfl, rfl⟩; rw [ha]))
          go_ret
          exact ⟨by rw [HR.out]; rfl, hU _ _⟩
      have e5 : (x == 5) = false := beq_eq_false_iff_ne.2 h5
      rw [if_neg h5] at HV
      by_cases h6 : x = 6
      · subst h6
        by_cases h14 : y = 6
        · subst h14
          have HR : Hid (q = V) := Lib.hid (by rw [← HV.out]; simp)
          clear HV
          go_wp2_with (first | (go_at_call 42; refine (isBreak_ok _ _).mono ?_; rintro e u ⟨rfl, rfl⟩; rw [hs]) | (go_at_call 43; refine (isAtt_ok _ _).mono ?_; rintro e u ⟨rfl, rfl⟩; rw [ha]) | (go_at_call 45; refine (HO.out _ _ _ (by simpa using HH.out.up (hU _ _))).mono ?_; rintro e u ⟨rfl, hu⟩))
          go_ret
          exact ⟨by rw [HR.out]; rfl, (hU _ _).trans hu⟩
        · have e14 : (y == 6) = false := beq_eq_false_iff_ne.2 h14
          have HR : Hid (V = false) := Lib.hid (by rw [← HV.out, e14]; simp)
          clear HV
          go_wp2_with (first | (go_at_call 42; refine (isBreak_ok _ _).mono ?_; rintro e u ⟨rfl, rfl⟩; rw [hs]) | (go_at_call 43; refine (isAtt_ok _ _).mono ?_; rintro e u ⟨rfl, rfl⟩; rw [ha]))
          go_ret
          exact ⟨by rw [HR.out]; rfl, hU _ _⟩
      have e6 : (x == 6) = false := beq_eq_false_iff_ne.2 h6
      rw [if_neg h6] at HV
      have HR : Hid (syll x y = V) := Lib.hid (by rw [← HV.out]; simp)
      clear HV
      go_wp2_with (first | (go_at_call 42; refine (isBreak_ok _ _).mono ?_; rintro e u ⟨rfl, rfl⟩; rw [hs]) | (go_at_call 43; refine (isAtt_ok _ _).mono ?_; rintro e u ⟨rfl, rfl⟩; rw [ha]) | (go_at_call 46; refine (same_ok _ _ _).mono ?_; rintro e u ⟨rfl, rfl⟩; rw [HR.out]))
      go_ret
      exact ⟨rfl, hU _ _⟩
set_option maxHeartbeats 1000000 in
theorem hangs_ok (A : Option Addr) (c i : Nat) (zs : List Int) (w : World) (h0 : 0 < i) (hi : i < zs.length) (hn : zs.length ≤ 1000) (hc : zs.length ≤ c) (h : Has w w.heap.size A (zs.map (Value.int .i32))) :
    Calls Tryz.prog 61 #[.slice A zs.length c, .int .i64 i] w fun e w' => e = .returned (.bool (hang (cls zs) i)) ∧ Up w w' := by
  have mixed : Tryz.prog.follows .mixedOrders = true := by kernel_rfl
  have hv : hang (cls zs) i = hangF (cl zs[i - 1]) (cl zs[i]) (pic (cls zs) (i - 1)) (regs (cls zs) i % 2 == 1) := by
    unfold hang
    rw [g_cls zs (i - 1) (by omega), g_cls zs i hi]
  obtain ⟨b, off, rfl, hb, hc1, hc2⟩ := h.cells (i := i - 1) (j := i) (by omega) hi
  rw [hv]
  clear hv
  have HE := Lib.hid (fun A c w h => picture_ok A c (i - 1) zs w (by omega) hn h)
  have HO := Lib.hid (fun A c w h => regs_ok A c i zs w (by omega) hn h)
  have HX1 := Lib.hid (fun w => rclass_ok zs[i - 1] w)
  have HX2 := Lib.hid (fun w => rclass_ok zs[i] w)
  generalize hP : pic (cls zs) (i - 1) = p at HE ⊢
  generalize hQ : regs (cls zs) i = r at HO ⊢
  have hri : r ≤ i := by rw [← hQ]; exact regs_le _ _
  generalize hX : zs[i - 1] = X at HX1 hc1 ⊢
  generalize hY : zs[i] = Y at HX2 hc2 ⊢
  generalize ha : cl X = x at HX1 ⊢
  generalize hbb : cl Y = y at HX2 ⊢
  clear hP hQ hX hY ha hbb
  have hl1 : ∀ n os, (grow (w.drewN n) os).cell? ⟨b, off + (i - 1), none⟩ = some (.int .i32 X) := fun n os => cell_grown hb hc1 n os
  have hl2 : ∀ n os, (grow (w.drewN n) os).cell? ⟨b, off + i, none⟩ = some (.int .i32 Y) := fun n os => cell_grown hb hc2 n os
  have HG1 : Hid (∀ n os, Calls Tryz.prog 81 #[.int .i32 X] (grow (w.drewN n) os) fun e w' => e = .returned (.int .i64 x) ∧ ∃ q os', w' = grow ((grow (w.drewN n) os).drewN q) os') := Lib.hid (fun n os => (HX1.out _).mono fun _ _ ⟨he, hu⟩ => ⟨he, hu.grow⟩)
  have HG2 : Hid (∀ n os, Calls Tryz.prog 81 #[.int .i32 Y] (grow (w.drewN n) os) fun e w' => e = .returned (.int .i64 y) ∧ ∃ q os', w' = grow ((grow (w.drewN n) os).drewN q) os') := Lib.hid (fun n os => (HX2.out _).mono fun _ _ ⟨he, hu⟩ => ⟨he, hu.grow⟩)
  obtain ⟨V, hV⟩ : ∃ V, hangF x y p (r % 2 == 1) = V := ⟨_, rfl⟩
  rw [hV]
  have HV := Lib.hid hV
  clear hV HX1 HX2
  have HH := Lib.hid h
  clear h
  have kw : IntKind.i64.wrap ((i : Int) - 1) = ((i - 1 : Nat) : Int) := by rw [IntWalk.i64_in _ (by omega)]; omega
  have hL1 : i - 1 < zs.length := by omega
  go_enter Tryz.func61, Tryz.ntmps61
  go_wp2
  go_quiet_grown ((go_at_call 81; first | with_reducible exact Calls.grown_of (HG1.out _ _) | with_reducible exact Calls.grown_of (HG2.out _ _)))
  have hU : ∀ n os, Up w (grow (w.drewN n) os) := fun n os => Up.of_grow w n os
  have hn1 : i ≤ c := by omega
  have hn2 : ¬ c = 0 := by omega
  unfold hangF at HV
  by_cases h1 : x = 1
  · subst h1
    have hsl : syll 1 y = false := by simp [syll]
    have hsx : stopB 1 = true := rfl
    have hsy := hsx
    by_cases h2 : y = 2
    · subst h2
      have HR : Hid (V = true) := Lib.hid (by rw [← HV.out]; simp [])
      clear HV
      go_wp2_with (first | (go_at_call 82; refine (hangul_ok _ _ _).mono ?_; rintro e u ⟨rfl, rfl⟩; rw [hsl]) | (go_at_call 83; refine (rstops_ok _ _).mono ?_; rintro e u ⟨rfl, rfl⟩; first | rw [hsx] | rw [hsy]))
      go_ret
      exact ⟨by rw [HR.out]; rfl, hU _ _⟩
    · have e2 : (y == 2) = false := beq_eq_false_iff_ne.2 h2
      have HR : Hid (V = false) := Lib.hid (by rw [← HV.out]; simp [hsl, hsx, e2])
      clear HV
      go_wp2_with (first | (go_at_call 82; refine (hangul_ok _ _ _).mono ?_; rintro e u ⟨rfl, rfl⟩; rw [hsl]) | (go_at_call 83; refine (rstops_ok _ _).mono ?_; rintro e u ⟨rfl, rfl⟩; first | rw [hsx] | rw [hsy]))
      go_ret
      exact ⟨by rw [HR.out]; rfl, hU _ _⟩
  have e1 : (x == 1) = false := beq_eq_false_iff_ne.2 h1
  by_cases h7 : x = 7
  · subst h7
    have hsl : syll 7 y = false := by simp [syll]
    have hsx : stopB 7 = false := rfl
    by_cases b4 : y = 4
    · subst b4
      try (have hsy : stopB 4 = false := rfl)
      have HR : Hid (V = true) := Lib.hid (by rw [← HV.out]; simp [hsx])
      clear HV
      go_wp2_with (first | (go_at_call 82; refine (hangul_ok _ _ _).mono ?_; rintro e u ⟨rfl, rfl⟩; rw [hsl]) | (go_at_call 83; refine (rstops_ok _ _).mono ?_; rintro e u ⟨rfl, rfl⟩; first | rw [hsx] | rw [hsy]))
      go_ret
      exact ⟨by rw [HR.out]; rfl, hU _ _⟩
    have e44 : (y == 4) = false := beq_eq_false_iff_ne.2 b4
    by_cases b5 : y = 5
    · subst b5
      try (have hsy : stopB 5 = false := rfl)
      have HR : Hid (V = true) := Lib.hid (by rw [← HV.out]; simp [hsx])
      clear HV
      go_wp2_with (first | (go_at_call 82; refine (hangul_ok _ _ _).mono ?_; rintro e u ⟨rfl, rfl⟩; rw [hsl]) | (go_at_call 83; refine (rstops_ok _ _).mono ?_; rintro e u ⟨rfl, rfl⟩; first | rw [hsx] | rw [hsy]))
      go_ret
      exact ⟨by rw [HR.out]; rfl, hU _ _⟩
    have e45 : (y == 5) = false := beq_eq_false_iff_ne.2 b5
    by_cases b8 : y = 8
    · subst b8
      try (have hsy : stopB 8 = false := rfl)
      have HR : Hid (V = true) := Lib.hid (by rw [← HV.out]; simp [hsx])
      clear HV
      go_wp2_with (first | (go_at_call 82; refine (hangul_ok _ _ _).mono ?_; rintro e u ⟨rfl, rfl⟩; rw [hsl]) | (go_at_call 83; refine (rstops_ok _ _).mono ?_; rintro e u ⟨rfl, rfl⟩; first | rw [hsx] | rw [hsy]))
      go_ret
      exact ⟨by rw [HR.out]; rfl, hU _ _⟩
    have e48 : (y == 8) = false := beq_eq_false_iff_ne.2 b8
    cases hsy : stopB y with
    | true =>
      have HR : Hid (V = false) := Lib.hid (by rw [← HV.out]; simp [hsl, hsx, hsy, e44, e45, e48])
      clear HV
      go_wp2_with (first | (go_at_call 82; refine (hangul_ok _ _ _).mono ?_; rintro e u ⟨rfl, rfl⟩; rw [hsl]) | (go_at_call 83; refine (rstops_ok _ _).mono ?_; rintro e u ⟨rfl, rfl⟩; first | rw [hsx] | rw [hsy]))
      go_ret
      exact ⟨by rw [HR.out]; rfl, hU _ _⟩
    | false =>
      have HR : Hid (V = true) := Lib.hid (by rw [← HV.out]; simp [hsl, hsx, hsy, e44, e45, e48])
      clear HV
      go_wp2_with (first | (go_at_call 82; refine (hangul_ok _ _ _).mono ?_; rintro e u ⟨rfl, rfl⟩; rw [hsl]) | (go_at_call 83; refine (rstops_ok _ _).mono ?_; rintro e u ⟨rfl, rfl⟩; first | rw [hsx] | rw [hsy]))
      go_ret
      exact ⟨by rw [HR.out]; rfl, hU _ _⟩
  have e7 : (x == 7) = false := beq_eq_false_iff_ne.2 h7
  by_cases h5 : x = 5
  · subst h5
    have hsl : syll 5 y = false := by simp [syll]
    have hsx : stopB 5 = false := rfl
    have hsy := hsx
    by_cases b4 : y = 4
    · subst b4
      try (have hsy : stopB 4 = false := rfl)
      have HR : Hid (V = true) := Lib.hid (by rw [← HV.out]; simp [hsx])
      clear HV
      go_wp2_with (first | (go_at_call 82; refine (hangul_ok _ _ _).mono ?_; rintro e u ⟨rfl, rfl⟩; rw [hsl]) | (go_at_call 83; refine (rstops_ok _ _).mono ?_; rintro e u ⟨rfl, rfl⟩; first | rw [hsx] | rw [hsy]))
      go_ret
      exact ⟨by rw [HR.out]; rfl, hU _ _⟩
    have e44 : (y == 4) = false := beq_eq_false_iff_ne.2 b4
    by_cases b5 : y = 5
    · subst b5
      try (have hsy : stopB 5 = false := rfl)
      have HR : Hid (V = true) := Lib.hid (by rw [← HV.out]; simp [hsx])
      clear HV
      go_wp2_with (first | (go_at_call 82; refine (hangul_ok _ _ _).mono ?_; rintro e u ⟨rfl, rfl⟩; rw [hsl]) | (go_at_call 83; refine (rstops_ok _ _).mono ?_; rintro e u ⟨rfl, rfl⟩; first | rw [hsx] | rw [hsy]))
      go_ret
      exact ⟨by rw [HR.out]; rfl, hU _ _⟩
    have e45 : (y == 5) = false := beq_eq_false_iff_ne.2 b5
    by_cases b8 : y = 8
    · subst b8
      try (have hsy : stopB 8 = false := rfl)
      have HR : Hid (V = true) := Lib.hid (by rw [← HV.out]; simp [hsx])
      clear HV
      go_wp2_with (first | (go_at_call 82; refine (hangul_ok _ _ _).mono ?_; rintro e u ⟨rfl, rfl⟩; rw [hsl]) | (go_at_call 83; refine (rstops_ok _ _).mono ?_; rintro e u ⟨rfl, rfl⟩; first | rw [hsx] | rw [hsy]))
      go_ret
      exact ⟨by rw [HR.out]; rfl, hU _ _⟩
    have e48 : (y == 8) = false := beq_eq_false_iff_ne.2 b8
    by_cases b14 : y = 14
    · subst b14
      cases p with
      | true =>
        have HR : Hid (V = true) := Lib.hid (by rw [← HV.out]; simp [hsl, hsx])
        clear HV
        go_wp2_with (first | (go_at_call 82; refine (hangul_ok _ _ _).mono ?_; rintro e u ⟨rfl, rfl⟩; rw [hsl]) | (go_at_call 83; refine (rstops_ok _ _).mono ?_; rintro e u ⟨rfl, rfl⟩; first | rw [hsx] | rw [hsy]) | (go_at_call 84; refine (HE.out _ _ _ (HH.out.up (hU _ _))).mono ?_; rintro e u ⟨rfl, hu⟩))
        go_ret
        exact ⟨by rw [HR.out]; rfl, (hU _ _).trans hu⟩
      | false =>
        have HR : Hid (V = false) := Lib.hid (by rw [← HV.out]; simp [hsl, hsx])
        clear HV
        go_wp2_with (first | (go_at_call 82; refine (hangul_ok _ _ _).mono ?_; rintro e u ⟨rfl, rfl⟩; rw [hsl]) | (go_at_call 83; refine (rstops_ok _ _).mono ?_; rintro e u ⟨rfl, rfl⟩; first | rw [hsx] | rw [hsy]) | (go_at_call 84; refine (HE.out _ _ _ (HH.out.up (hU _ _))).mono ?_; rintro e u ⟨rfl, hu⟩))
        go_ret
        exact ⟨by rw [HR.out]; rfl, (hU _ _).trans hu⟩
    · have e14 : (y == 14) = false := beq_eq_false_iff_ne.2 b14
      have HR : Hid (V = false) := Lib.hid (by rw [← HV.out]; simp [hsl, hsx, e44, e45, e48, e14])
      clear HV
      go_wp2_with (first | (go_at_call 82; refine (hangul_ok _ _ _).mono ?_; rintro e u ⟨rfl, rfl⟩; rw [hsl]) | (go_at_call 83; refine (rstops_ok _ _).mono ?_; rintro e u ⟨rfl, rfl⟩; first | rw [hsx] | rw [hsy]))
      go_ret
      exact ⟨by rw [HR.out]; rfl, hU _ _⟩
  have e5 : (x == 5) = false := beq_eq_false_iff_ne.2 h5
  by_cases h6 : x = 6
  · subst h6
    have hsl : syll 6 y = false := by simp [syll]
    have hsx : stopB 6 = false := rfl
    have hsy := hsx
    by_cases b4 : y = 4
    · subst b4
      try (have hsy : stopB 4 = false := rfl)
      have HR : Hid (V = true) := Lib.hid (by rw [← HV.out]; simp [hsx])
      clear HV
      go_wp2_with (first | (go_at_call 82; refine (hangul_ok _ _ _).mono ?_; rintro e u ⟨rfl, rfl⟩; rw [hsl]) | (go_at_call 83; refine (rstops_ok _ _).mono ?_; rintro e u ⟨rfl, rfl⟩; first | rw [hsx] | rw [hsy]))
      go_ret
      exact ⟨by rw [HR.out]; rfl, hU _ _⟩
    have e44 : (y == 4) = false := beq_eq_false_iff_ne.2 b4
    by_cases b5 : y = 5
    · subst b5
      try (have hsy : stopB 5 = false := rfl)
      have HR : Hid (V = true) := Lib.hid (by rw [← HV.out]; simp [hsx])
      clear HV
      go_wp2_with (first | (go_at_call 82; refine (hangul_ok _ _ _).mono ?_; rintro e u ⟨rfl, rfl⟩; rw [hsl]) | (go_at_call 83; refine (rstops_ok _ _).mono ?_; rintro e u ⟨rfl, rfl⟩; first | rw [hsx] | rw [hsy]))
      go_ret
      exact ⟨by rw [HR.out]; rfl, hU _ _⟩
    have e45 : (y == 5) = false := beq_eq_false_iff_ne.2 b5
    by_cases b8 : y = 8
    · subst b8
      try (have hsy : stopB 8 = false := rfl)
      have HR : Hid (V = true) := Lib.hid (by rw [← HV.out]; simp [hsx])
      clear HV
      go_wp2_with (first | (go_at_call 82; refine (hangul_ok _ _ _).mono ?_; rintro e u ⟨rfl, rfl⟩; rw [hsl]) | (go_at_call 83; refine (rstops_ok _ _).mono ?_; rintro e u ⟨rfl, rfl⟩; first | rw [hsx] | rw [hsy]))
      go_ret
      exact ⟨by rw [HR.out]; rfl, hU _ _⟩
    have e48 : (y == 8) = false := beq_eq_false_iff_ne.2 b8
    by_cases b14 : y = 6
    · subst b14
      rcases Nat.mod_two_eq_zero_or_one r with hm | hm
      · have hm2 : (r : Int).tmod 2 = 0 := by rw [Int.tmod_eq_emod_of_nonneg (by omega)]; omega
        have HR : Hid (V = false) := Lib.hid (by rw [← HV.out]; simp [hsl, hsx, hm])
        clear HV
        go_wp2_with (first | (go_at_call 82; refine (hangul_ok _ _ _).mono ?_; rintro e u ⟨rfl, rfl⟩; rw [hsl]) | (go_at_call 83; refine (rstops_ok _ _).mono ?_; rintro e u ⟨rfl, rfl⟩; first | rw [hsx] | rw [hsy]) | (go_at_call 85; refine (HO.out _ _ _ (HH.out.up (hU _ _))).mono ?_; rintro e u ⟨rfl, hu⟩))
        go_ret
        exact ⟨by rw [HR.out]; rfl, (hU _ _).trans hu⟩
      · have hm2 : (r : Int).tmod 2 = 1 := by rw [Int.tmod_eq_emod_of_nonneg (by omega)]; omega
        have HR : Hid (V = true) := Lib.hid (by rw [← HV.out]; simp [hsl, hsx, hm])
        clear HV
        go_wp2_with (first | (go_at_call 82; refine (hangul_ok _ _ _).mono ?_; rintro e u ⟨rfl, rfl⟩; rw [hsl]) | (go_at_call 83; refine (rstops_ok _ _).mono ?_; rintro e u ⟨rfl, rfl⟩; first | rw [hsx] | rw [hsy]) | (go_at_call 85; refine (HO.out _ _ _ (HH.out.up (hU _ _))).mono ?_; rintro e u ⟨rfl, hu⟩))
        go_ret
        exact ⟨by rw [HR.out]; rfl, (hU _ _).trans hu⟩
    · have e14 : (y == 6) = false := beq_eq_false_iff_ne.2 b14
      have HR : Hid (V = false) := Lib.hid (by rw [← HV.out]; simp [hsl, hsx, e44, e45, e48, e14])
      clear HV
      go_wp2_with (first | (go_at_call 82; refine (hangul_ok _ _ _).mono ?_; rintro e u ⟨rfl, rfl⟩; rw [hsl]) | (go_at_call 83; refine (rstops_ok _ _).mono ?_; rintro e u ⟨rfl, rfl⟩; first | rw [hsx] | rw [hsy]))
      go_ret
      exact ⟨by rw [HR.out]; rfl, hU _ _⟩
  have e6 : (x == 6) = false := beq_eq_false_iff_ne.2 h6
  cases hsl : syll x y with
  | true =>
    have hsx : true = true := rfl
    have hsy := hsx
    have HR : Hid (V = true) := Lib.hid (by rw [← HV.out]; simp [hsl, e1])
    clear HV
    go_wp2_with (first | (go_at_call 82; refine (hangul_ok _ _ _).mono ?_; rintro e u ⟨rfl, rfl⟩; rw [hsl]))
    go_ret
    exact ⟨by rw [HR.out]; rfl, hU _ _⟩
  | false =>
    cases hsx : stopB x with
    | true =>
      have hsy := hsx
      have HR : Hid (V = false) := Lib.hid (by rw [← HV.out]; simp [hsl, hsx, e1, e7, e5, e6])
      clear HV
      go_wp2_with (first | (go_at_call 82; refine (hangul_ok _ _ _).mono ?_; rintro e u ⟨rfl, rfl⟩; rw [hsl]) | (go_at_call 83; refine (rstops_ok _ _).mono ?_; rintro e u ⟨rfl, rfl⟩; first | rw [hsx] | rw [hsy]))
      go_ret
      exact ⟨by rw [HR.out]; rfl, hU _ _⟩
    | false =>
      by_cases b4 : y = 4
      · subst b4
        try (have hsy : stopB 4 = false := rfl)
        have HR : Hid (V = true) := Lib.hid (by rw [← HV.out]; simp [hsx])
        clear HV
        go_wp2_with (first | (go_at_call 82; refine (hangul_ok _ _ _).mono ?_; rintro e u ⟨rfl, rfl⟩; rw [hsl]) | (go_at_call 83; refine (rstops_ok _ _).mono ?_; rintro e u ⟨rfl, rfl⟩; rw [hsx]))
        go_ret
        exact ⟨by rw [HR.out]; rfl, hU _ _⟩
      have e44 : (y == 4) = false := beq_eq_false_iff_ne.2 b4
      by_cases b5 : y = 5
      · subst b5
        try (have hsy : stopB 5 = false := rfl)
        have HR : Hid (V = true) := Lib.hid (by rw [← HV.out]; simp [hsx])
        clear HV
        go_wp2_with (first | (go_at_call 82; refine (hangul_ok _ _ _).mono ?_; rintro e u ⟨rfl, rfl⟩; rw [hsl]) | (go_at_call 83; refine (rstops_ok _ _).mono ?_; rintro e u ⟨rfl, rfl⟩; rw [hsx]))
        go_ret
        exact ⟨by rw [HR.out]; rfl, hU _ _⟩
      have e45 : (y == 5) = false := beq_eq_false_iff_ne.2 b5
      by_cases b8 : y = 8
      · subst b8
        try (have hsy : stopB 8 = false := rfl)
        have HR : Hid (V = true) := Lib.hid (by rw [← HV.out]; simp [hsx])
        clear HV
        go_wp2_with (first | (go_at_call 82; refine (hangul_ok _ _ _).mono ?_; rintro e u ⟨rfl, rfl⟩; rw [hsl]) | (go_at_call 83; refine (rstops_ok _ _).mono ?_; rintro e u ⟨rfl, rfl⟩; rw [hsx]))
        go_ret
        exact ⟨by rw [HR.out]; rfl, hU _ _⟩
      have e48 : (y == 8) = false := beq_eq_false_iff_ne.2 b8
      have HR : Hid (V = false) := Lib.hid (by rw [← HV.out]; simp [hsl, hsx, e1, e7, e5, e6, e44, e45, e48])
      clear HV
      go_wp2_with (first | (go_at_call 82; refine (hangul_ok _ _ _).mono ?_; rintro e u ⟨rfl, rfl⟩; rw [hsl]) | (go_at_call 83; refine (rstops_ok _ _).mono ?_; rintro e u ⟨rfl, rfl⟩; rw [hsx]))
      go_ret
      exact ⟨by rw [HR.out]; rfl, hU _ _⟩
end Go.Proofs.YtnpcakeagpbgiaaGreat

/-
  Contracts of Is (the program's and the document's), of first and run. Condition: at most 1000 code points.
-/
set_option linter.unusedVariables false
namespace Go.Proofs.YtnpcakeagpbgiaaGreat
open Go.ChangeShapes Go.WideShapes Go.ChangeAt Go.RowKit


set_option maxHeartbeats 1000000 in
theorem is_ok (A : Option Addr) (c : Nat) (i : Int) (zs : List Int) (w : World) (hn : zs.length ≤ 1000) (hc : zs.length ≤ c) (h : Has w w.heap.size A (zs.map (Value.int .i32))) :
    Calls Tryz.prog 11 #[.slice A zs.length c, .int .i64 i] w fun e w' => e = .returned (.bool (isV (cls zs) i)) ∧ Up w w' := by
  obtain ⟨V, hV⟩ : ∃ V, isV (cls zs) i = V := ⟨_, rfl⟩
  rw [hV]
  unfold isV bP at hV
  rw [cls_len] at hV
  rcases Nat.eq_zero_or_pos zs.length with hz | hz
  · have HR : Hid (V = false) := Lib.hid (by rw [← hV, hz]; simp)
    clear hV
    rw [hz]
    go_enter Tryz.func11, Tryz.ntmps11
    go_wp2
    go_ret
    exact ⟨by rw [HR.out]; rfl, Up.refl _⟩
  have hz1 : ¬ zs.length = 0 := by omega
  have hzb : ((zs.length : Int) == 0) = false := beq_eq_false_iff_ne.2 (by omega)
  have hzl : decide ((zs.length : Int) < 0) = false := decide_eq_false (by omega)
  by_cases h1 : i < 0
  · have HR : Hid (V = false) := Lib.hid (by rw [← hV, decide_eq_false (by omega)]; rfl)
    clear hV
    go_enter Tryz.func11, Tryz.ntmps11
    go_wp2
    go_ret
    exact ⟨by rw [HR.out]; rfl, Up.refl _⟩
  by_cases h2 : (zs.length : Int) < i
  · have HR : Hid (V = false) := Lib.hid (by rw [← hV, decide_eq_false (by omega)]; rfl)
    clear hV
    go_enter Tryz.func11, Tryz.ntmps11
    go_wp2
    go_ret
    exact ⟨by rw [HR.out]; rfl, Up.refl _⟩
  obtain ⟨k, rfl⟩ : ∃ k : Nat, i = k := ⟨i.toNat, by omega⟩
  rw [decide_eq_true (by omega), Int.toNat_natCast] at hV
  have hk : k ≤ zs.length := by omega
  clear h1 h2
  by_cases h0 : k = 0
  · subst h0
    have HR : Hid (V = true) := Lib.hid (by rw [← hV]; simp [hz1])
    clear hV
    have hzn : ¬ (zs.length : Int) = 0 := by omega
    have hzn2 : ¬ (zs.length : Int) < 0 := by omega
    go_enter Tryz.func11, Tryz.ntmps11
    go_wp2
    go_ret
    exact ⟨by rw [HR.out]; rfl, Up.refl _⟩
  by_cases hl : k = zs.length
  · subst hl
    have HR : Hid (V = true) := Lib.hid (by rw [← hV]; simp [hz1])
    clear hV
    go_enter Tryz.func11, Tryz.ntmps11
    go_wp2
    go_ret
    exact ⟨by rw [HR.out]; rfl, Up.refl _⟩
  have en : (zs.length != 0) = true := bne_iff_ne.2 hz1
  have e0 : (k == 0) = false := beq_eq_false_iff_ne.2 h0
  have el : (k == zs.length) = false := beq_eq_false_iff_ne.2 hl
  have HR : Hid ((!hang (cls zs) k) = V) := Lib.hid (by rw [← hV, en, e0, el]; rfl)
  have ek0 : ((k : Int) == 0) = false := beq_eq_false_iff_ne.2 (by omega)
  have ekl : ((k : Int) == (zs.length : Int)) = false := beq_eq_false_iff_ne.2 (by omega)
  have HC := Lib.hid (fun w h => joined_ok A c k zs w (by omega) (by omega) hn hc h)
  clear hV
  generalize hang (cls zs) k = q at HR HC
  have hne : ¬ (k : Int) = zs.length := by omega
  go_enter Tryz.func11, Tryz.ntmps11
  go_wp2_with (go_at_call 24; refine (HC.out _ (by assumption)).mono ?_; rintro e u ⟨rfl, hu⟩)
  go_ret
  exact ⟨by rw [← HR.out]; rfl, hu⟩

set_option maxHeartbeats 1000000 in
theorem ris_ok (A : Option Addr) (c : Nat) (i : Int) (zs : List Int) (w : World) (hn : zs.length ≤ 1000) (hc : zs.length ≤ c) (h : Has w w.heap.size A (zs.map (Value.int .i32))) :
    Calls Tryz.prog 37 #[.slice A zs.length c, .int .i64 i] w fun e w' => e = .returned (.bool (isV (cls zs) i)) ∧ Up w w' := by
  obtain ⟨V, hV⟩ : ∃ V, isV (cls zs) i = V := ⟨_, rfl⟩
  rw [hV]
  unfold isV bP at hV
  rw [cls_len] at hV
  rcases Nat.eq_zero_or_pos zs.length with hz | hz
  · have HR : Hid (V = false) := Lib.hid (by rw [← hV, hz]; simp)
    clear hV
    rw [hz]
    go_enter Tryz.func37, Tryz.ntmps37
    go_wp2
    go_ret
    exact ⟨by rw [HR.out]; rfl, Up.refl _⟩
  have hz1 : ¬ zs.length = 0 := by omega
  have hzb : ((zs.length : Int) == 0) = false := beq_eq_false_iff_ne.2 (by omega)
  have hzl : decide ((zs.length : Int) < 0) = false := decide_eq_false (by omega)
  by_cases h1 : i < 0
  · have HR : Hid (V = false) := Lib.hid (by rw [← hV, decide_eq_false (by omega)]; rfl)
    clear hV
    go_enter Tryz.func37, Tryz.ntmps37
    go_wp2
    go_ret
    exact ⟨by rw [HR.out]; rfl, Up.refl _⟩
  by_cases h2 : (zs.length : Int) < i
  · have HR : Hid (V = false) := Lib.hid (by rw [← hV, decide_eq_false (by omega)]; rfl)
    clear hV
    go_enter Tryz.func37, Tryz.ntmps37
    go_wp2
    go_ret
    exact ⟨by rw [HR.out]; rfl, Up.refl _⟩
  obtain ⟨k, rfl⟩ : ∃ k : Nat, i = k := ⟨i.toNat, by omega⟩
  rw [decide_eq_true (by omega), Int.toNat_natCast] at hV
  have hk : k ≤ zs.length := by omega
  clear h1 h2
  by_cases h0 : k = 0
  · subst h0
    have HR : Hid (V = true) := Lib.hid (by rw [← hV]; simp [hz1])
    clear hV
    have hzn : ¬ (zs.length : Int) = 0 := by omega
    have hzn2 : ¬ (zs.length : Int) < 0 := by omega
    go_enter Tryz.func37, Tryz.ntmps37
    go_wp2
    go_ret
    exact ⟨by rw [HR.out]; rfl, Up.refl _⟩
  by_cases hl : k = zs.length
  · subst hl
    have HR : Hid (V = true) := Lib.hid (by rw [← hV]; simp [hz1])
    clear hV
    go_enter Tryz.func37, Tryz.ntmps37
    go_wp2
    go_ret
    exact ⟨by rw [HR.out]; rfl, Up.refl _⟩
  have en : (zs.length != 0) = true := bne_iff_ne.2 hz1
  have e0 : (k == 0) = false := beq_eq_false_iff_ne.2 h0
  have el : (k == zs.length) = false := beq_eq_false_iff_ne.2 hl
  have HR : Hid ((!hang (cls zs) k) = V) := Lib.hid (by rw [← hV, en, e0, el]; rfl)
  have ek0 : ((k : Int) == 0) = false := beq_eq_false_iff_ne.2 (by omega)
  have ekl : ((k : Int) == (zs.length : Int)) = false := beq_eq_false_iff_ne.2 (by omega)
  have HC := Lib.hid (fun w h => hangs_ok A c k zs w (by omega) (by omega) hn hc h)
  clear hV
  generalize hang (cls zs) k = q at HR HC
  have hne : ¬ (k : Int) = zs.length := by omega
  go_enter Tryz.func37, Tryz.ntmps37
  go_wp2_with (go_at_call 61; refine (HC.out _ (by assumption)).mono ?_; rintro e u ⟨rfl, hu⟩)
  go_ret
  exact ⟨by rw [← HR.out]; rfl, hu⟩

set_option maxHeartbeats 1000000 in
theorem first_ok (A : Option Addr) (c : Nat) (zs : List Int) (w : World) (h0 : 0 < zs.length) (hn : zs.length ≤ 1000) (hc : zs.length ≤ c) (h : Has w w.heap.size A (zs.map (Value.int .i32))) :
    Calls Tryz.prog 31 #[.slice A zs.length c] w fun e w' => (∃ r : Nat, e = .returned (.int .i64 r) ∧ Firsts (cls zs) r) ∧ Up w w' := by
  go_enter Tryz.func31, Tryz.ntmps31
  go_wp2
  go_loopw [3] (fun v wr => ∃ k : Nat, 1 ≤ k ∧ k ≤ zs.length ∧ v = .int .i64 k ∧ Hid (∀ j, 0 < j → j < k → hang (cls zs) j = true) ∧ Up w wr) (fun v _ => zs.length - (intOf v).toNat)
  case atStart => exact ⟨1, by omega, by omega, rfl, Lib.hid (fun j h1 h2 => absurd h1 (by omega)), Up.refl _⟩
  case round =>
    obtain ⟨k, hk1, hk, rfl, HT, hU⟩ := hrel
    by_cases hlt : k < zs.length
    · have HC := Lib.hid (fun w h => joined_ok A c k zs w hk1 hlt hn hc h)
      have hh := h.up hU
      generalize hq : hang (cls zs) k = q at HC
      have HQ := Lib.hid hq
      clear hq
      cases q with
      | true =>
        go_wp2_with (go_at_call 24; refine (HC.out _ hh).mono ?_; rintro e u ⟨rfl, hu⟩; have hU := hU.trans hu)
        go_roundw
        case rel => exact ⟨k + 1, by omega, by omega, by go_num, Lib.hid (fun j h1 h2 => by
            rcases Nat.lt_or_ge j k with h3 | h3
            · exact HT.out j h1 h3
            · obtain rfl : j = k := by omega
              exact HQ.out), hU⟩
        case measure => simp [intOf] <;> omega
      | false =>
        go_wp2_with (go_at_call 24; refine (HC.out _ hh).mono ?_; rintro e u ⟨rfl, hu⟩; have hU := hU.trans hu)
        go_ret
        exact ⟨⟨k, rfl, hk1, by rw [cls_len]; exact hk, HT.out, .inr HQ.out⟩, hU⟩
    · obtain rfl : k = zs.length := by omega
      go_wp2
      go_ret
      exact ⟨⟨zs.length, rfl, hk1, by rw [cls_len]; exact hk, HT.out, .inl (cls_len _).symm⟩, hU⟩


end Go.Proofs.YtnpcakeagpbgiaaGreat

/-
  Contracts of Next, Prev and Window (the program's), and of the document's Window. Condition: at most 1000 code points.
-/
set_option linter.unusedVariables false
namespace Go.Proofs.YtnpcakeagpbgiaaGreat
open Go.ChangeShapes Go.WideShapes Go.ChangeAt Go.RowKit

end Go.Proofs.YtnpcakeagpbgiaaGreat
