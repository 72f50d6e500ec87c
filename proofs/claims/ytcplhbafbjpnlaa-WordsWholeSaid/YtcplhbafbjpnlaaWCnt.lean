/-
  Contracts of the program's Count and the document's, of the statements' Same, long and letter. Condition: at most 1000 code points.
-/
import Derived.Test.YtcplhbafbjpnlaaWKin
import Derived.Test.YtcplhbafbjpnlaaWBnd
import Derived.Test.YtcplhbafbjpnlaaWRef
set_option linter.unusedVariables false
set_option linter.unusedSimpArgs false
namespace Go.Proofs.Ytcplhbafbjpnlaa
open Go.ChangeShapes Go.WideShapes Go.ChangeAt Go.RowKit Go.Sort

set_option maxHeartbeats 4000000 in
theorem wcount_ok (A : Option Addr) (c : Nat) (zs : List Int) (w : World) (hn : zs.length ≤ 1000) (hc : zs.length ≤ c) (h : Has w w.heap.size A (zs.map (Value.int .i32))) :
    Calls Try.prog 18 #[.slice A zs.length c] w fun e w' => e = .returned (.int .i64 (cntV zs)) ∧ Below w.heap.size w w' := by
  have mixed : Try.prog.follows .mixedOrders = true := by kernel_rfl
  have HC := Lib.hid (fun w h => wbounds_ok A c zs w hn hc h)
  have HK := Lib.hid (fun a b w h => wKind_ok A c a b zs w hn hc h)
  have hbn := wbs_le zs
  have HS := Lib.hid (cntK_step zs)
  have HL := Lib.hid (cntK_le zs)
  have HA := Lib.hid (cntK_all zs)
  have HZ := Lib.hid (cntK_zero zs)
  have hpl := pairs_len (wbs zs)
  have HH := Lib.hid h
  clear h
  generalize pairs (wbs zs) = cs at *
  generalize wbs zs = bl at *
  generalize cntV zs = V at *
  generalize cntK zs = cK at *
  have hzl := zb_len bl
  have HPL := Lib.hid hpl
  clear hpl
  go_enter Try.func18, Try.ntmps18
  go_wp2_with (go_at_call 10; refine (HC.out _ HH.out).mono ?_; rintro e u ⟨v1, rfl, A1, c1, rfl, hf1, hh1, hb1⟩; rw [hzl])
  go_loopw [3, 5] (fun v i wr => ∃ k : Nat, k ≤ bl.length ∧ i = .int .i64 ((k : Int) + 1) ∧ v = .int .i64 (cK k) ∧ Below u.heap.size u wr) (fun _ i _ => bl.length + 1 - (intOf i).toNat)
  case atStart => exact ⟨0, by omega, rfl, by rw [HZ.out]; rfl, Below.refl _ _⟩
  case round =>
    obtain ⟨k, hk, rfl, rfl, hbl⟩ := hrel
    have hck := HL.out k
    by_cases hlt : k + 1 < bl.length
    · obtain ⟨b, off, rfl, hbu, hw0⟩ := hh1.at_int (k := k) (by rw [hzl]; omega)
      obtain ⟨b2, off2, hAe, _, hw1⟩ := hh1.at_int (k := k + 1) (by rw [hzl]; omega)
      cases hAe
      rw [zb_get _ _ (by omega)] at hw0
      rw [zb_get _ _ hlt] at hw1
      have hcc1 := (hbl.cell (p := ⟨b, off + k, none⟩) hbu).trans hw0
      have hcc2 := (hbl.cell (p := ⟨b, off + (k + 1), none⟩) hbu).trans hw1
      obtain ⟨X, hX⟩ : ∃ X, bl[k] = X := ⟨_, rfl⟩
      obtain ⟨Y, hY⟩ : ∃ Y, bl[k + 1] = Y := ⟨_, rfl⟩
      rw [hX] at hcc1
      rw [hY] at hcc2
      have hst := HS.out k X Y (get_some (by omega) hX) (get_some hlt hY)
      have hbW : b < wr.heap.size := by have := hbl.size; omega
      have hl1 : ∀ n os, (grow (wr.drewN n) os).cell? ⟨b, off + k, none⟩ = some (.int .i64 X) := fun n os => cell_grown hbW hcc1 n os
      have hl2 : ∀ n os, (grow (wr.drewN n) os).cell? ⟨b, off + (k + 1), none⟩ = some (.int .i64 Y) := fun n os => cell_grown hbW hcc2 n os
      have hhr := (HH.out.carry hb1).carry hbl
      obtain ⟨y, hy⟩ : ∃ y, kindV zs (X : Int) (Y : Int) = y := ⟨_, rfl⟩
      have HKG : Hid (∀ n os, Calls Try.prog 16 #[.slice A zs.length c, .agg #[.int .i64 X, .int .i64 Y]] (grow (wr.drewN n) os) fun e w' => e = .returned (.int .i64 y) ∧ ∃ q os', w' = grow ((grow (wr.drewN n) os).drewN q) os') :=
        Lib.hid (fun n os => by rw [← hy]; exact (HK.out X Y _ (hhr.up (Up.of_grow _ _ _))).mono fun _ _ ⟨he, hu⟩ => ⟨he, hu.grow⟩)
      rw [hy] at hst
      have HAG : Hid (∀ n os, Calls Try.prog 36 #[.int .i64 y] (grow (wr.drewN n) os) fun e w' => e = .returned (.bool (alB y)) ∧ ∃ q os', w' = grow ((grow (wr.drewN n) os).drewN q) os') :=
        Lib.hid (fun n os => (alnum_ok y _).mono fun _ _ ⟨he, hu⟩ => ⟨he, by subst hu; exact (Up.refl _).grow⟩)
      generalize alB y = z at hst HAG
      have hbg : ∀ n os, Below u.heap.size u (grow (wr.drewN n) os) := fun n os => hbl.trans ((Up.of_grow wr n os).1.mono hbl.size)
      have kw : IntKind.i64.wrap ((k : Int) + 1 - 1) = (k : Int) := by rw [IntWalk.i64_in _ (by omega)]; omega
      have kn : (0 : Int) ≤ (k : Int) + 1 := by omega
      have kt : ((k : Int) + 1).toNat = k + 1 := by omega
      have kl : (k : Int) + 1 < (bl.length : Int) := by omega
      have kl' : (k : Int) < (bl.length : Int) := by omega
      have kz : (0 : Int) ≤ (k : Int) := by omega
      have HZL := Lib.hid hzl
      have hkb : k ≤ 1001 := by omega
      clear hX hY hw0 hw1 hcc1 hcc2 hzl hy hhr
      cases z with
      | true =>
        have HST : Hid (cK (k + 1) = cK k + 1) := Lib.hid hst
        clear hst
        go_wp2
        refine wp_region_quiet_grown mixed (by kernel_rfl) ?_
        repeat (go_big_quiet_step (first | (go_at_call 16; with_reducible exact Calls.grown_of (HKG.out _ _)) | (go_at_call 36; with_reducible exact Calls.grown_of (HAG.out _ _))))
        refine wpQuiet_nil ?_
        intro _ hw'
        obtain ⟨⟨nq, osq⟩, hw''⟩ := hw'
        subst hw''
        go_wp2
        go_roundw
        case rel => exact ⟨k + 1, by omega, by go_num, by rw [HST.out]; go_num, hbg _ _⟩
        case measure => simp [intOf] <;> omega
      | false =>
        have HST : Hid (cK (k + 1) = cK k) := Lib.hid hst
        clear hst
        go_wp2
        refine wp_region_quiet_grown mixed (by kernel_rfl) ?_
        repeat (go_big_quiet_step (first | (go_at_call 16; with_reducible exact Calls.grown_of (HKG.out _ _)) | (go_at_call 36; with_reducible exact Calls.grown_of (HAG.out _ _))))
        refine wpQuiet_nil ?_
        intro _ hw'
        obtain ⟨⟨nq, osq⟩, hw''⟩ := hw'
        subst hw''
        go_wp2
        go_roundw
        case rel => exact ⟨k + 1, by omega, by go_num, by rw [HST.out], hbg _ _⟩
        case measure => simp [intOf] <;> omega
    · have hV := HA.out k (by have := HPL.out; omega)
      have HV := Lib.hid hV
      clear hV
      have hlt2 : ¬ (k : Int) + 1 < bl.length := by omega
      go_wp2
      go_ret
      exact ⟨by rw [← HV.out]; rfl, below_trans hb1 hbl hb1.size⟩

theorem pairs_get' (l : List Nat) (i x y : Nat) (hx : l[i]? = some x) (hy : l[i + 1]? = some y) : (pairs l)[i]? = some (x, y) := by
  obtain ⟨h1, h2⟩ := List.getElem?_eq_some_iff.1 hx
  obtain ⟨h3, h4⟩ := List.getElem?_eq_some_iff.1 hy
  exact get_some (by rw [pairs_len]; omega) ((pairs_get l i h3).trans (by rw [h2, h4]))

set_option maxHeartbeats 4000000 in
theorem rcount_ok (A : Option Addr) (c : Nat) (zs : List Int) (w : World) (hn : zs.length ≤ 1000) (hc : zs.length ≤ c) (h : Has w w.heap.size A (zs.map (Value.int .i32))) :
    Calls Try.prog 19 #[.slice A zs.length c] w fun e w' => e = .returned (.int .i64 (cntV zs)) ∧ Below w.heap.size w w' := by
  have HC := Lib.hid (fun w h => rwords_ok A c zs w hn hc h)
  have HK := Lib.hid (fun a b w h => rKind_ok A c a b zs w hn h)
  have hbn := wbs_le zs
  have HS := Lib.hid (cntK_step zs)
  have HL := Lib.hid (cntK_le zs)
  have HA := Lib.hid (cntK_all zs)
  have HZ := Lib.hid (cntK_zero zs)
  have hpl := pairs_len (wbs zs)
  have HPG := Lib.hid (pairs_get' (wbs zs))
  have HH := Lib.hid h
  clear h
  generalize pairs (wbs zs) = cs at *
  generalize wbs zs = bl at *
  generalize cntV zs = V at *
  generalize cntK zs = cK at *
  have hcn : cs.length ≤ 1001 := by omega
  have HPL := Lib.hid hpl
  clear hpl
  go_enter Try.func19, Try.ntmps19
  go_wp2_with (first | (go_at_call 31; (with_reducible refine (HC.out _ HH.out).mono ?_); rintro e u ⟨v1, rfl, A1, c1, rfl, hf1, hh1, hb1⟩))
  go_loopw [4, 5] (fun v i wr => ∃ k : Nat, k ≤ cs.length ∧ i = .int .i64 k ∧ v = .int .i64 (cK k) ∧ Below u.heap.size u wr) (fun _ i _ => cs.length - (intOf i).toNat)
  case atStart => exact ⟨0, by omega, rfl, by rw [HZ.out]; rfl, Below.refl _ _⟩
  case round =>
    obtain ⟨k, hk, rfl, rfl, hbl⟩ := hrel
    have hck := HL.out k
    by_cases hlt : k < cs.length
    · obtain ⟨b, off, rfl, hb, hcc1, hcc2⟩ := (HasC.below hh1 hbl).at_ hlt
      have hlb : k + 1 < bl.length := by have := HPL.out; omega
      obtain ⟨X, hX⟩ : ∃ X, bl[k] = X := ⟨_, rfl⟩
      obtain ⟨Y, hY⟩ : ∃ Y, bl[k + 1] = Y := ⟨_, rfl⟩
      have hp := HPG.out k X Y (get_some (by omega) hX) (get_some hlb hY)
      rw [List.getElem?_eq_getElem hlt] at hp
      injection hp with hp
      rw [hp] at hcc1 hcc2
      simp only at hcc1 hcc2
      have hst := HS.out k X Y (get_some (by omega) hX) (get_some hlb hY)
      have hhr := Lib.hid ((HH.out.carry hb1).carry hbl)
      obtain ⟨y, hy⟩ : ∃ y, kindV zs (X : Int) (Y : Int) = y := ⟨_, rfl⟩
      have HKx := Lib.hid (fun w h => HK.out X Y w h)
      rw [hy] at hst HKx
      have HAx := Lib.hid (fun w => solid_ok y w)
      generalize alB y = z at hst HAx
      clear hp hX hY hy
      cases z with
      | true =>
        have HST : Hid (cK (k + 1) = cK k + 1) := Lib.hid hst
        clear hst
        go_wp2_with (first
          | (go_at_call 17; (with_reducible refine (HKx.out _ hhr.out).mono ?_); rintro e u2 ⟨rfl, hu⟩; have hb2 := below_trans hbl hu.1 hbl.size)
          | (go_at_call 37; (with_reducible refine (HAx.out _).mono ?_); rintro e u3 ⟨rfl, rfl⟩))
        go_roundw
        case rel => exact ⟨k + 1, by omega, by go_num, by rw [HST.out]; go_num, hb2⟩
        case measure => simp [intOf] <;> omega
      | false =>
        have HST : Hid (cK (k + 1) = cK k) := Lib.hid hst
        clear hst
        go_wp2_with (first
          | (go_at_call 17; (with_reducible refine (HKx.out _ hhr.out).mono ?_); rintro e u2 ⟨rfl, hu⟩; have hb2 := below_trans hbl hu.1 hbl.size)
          | (go_at_call 37; (with_reducible refine (HAx.out _).mono ?_); rintro e u3 ⟨rfl, rfl⟩))
        go_roundw
        case rel => exact ⟨k + 1, by omega, by go_num, by rw [HST.out], hb2⟩
        case measure => simp [intOf] <;> omega
    · have hV := HA.out k (by omega)
      have HV := Lib.hid hV
      clear hV
      obtain rfl : k = cs.length := by omega
      go_wp2
      go_ret
      exact ⟨by rw [← HV.out]; rfl, below_trans hb1 hbl hb1.size⟩

set_option maxHeartbeats 1000000 in
theorem eqs_ok (A B : Option Addr) (c d n : Nat) (xs : List Int) (w : World) (hnx : n = xs.length) (hn : n ≤ 1000000) (h1 : Has w w.heap.size A (xs.map (Value.int .i64))) (h2 : Has w w.heap.size B (xs.map (Value.int .i64))) :
    Calls Try.prog 9 #[.slice A n c, .slice B n d] w fun e w' => e = .returned (.bool true) ∧ Below w.heap.size w w' := by
  have HN := Lib.hid hnx
  clear hnx
  go_enter Try.func9, Try.ntmps9
  go_wp2
  go_loopw [5] (fun i wr => ∃ k : Nat, k ≤ n ∧ i = .int .i64 k ∧ ∃ q, wr = w.drewN q) (fun i _ => n - (intOf i).toNat)
  case atStart => exact ⟨0, by omega, rfl, 0, rfl⟩
  case round =>
    obtain ⟨k, hk, rfl, q, rfl⟩ := hrel
    by_cases hlt : k < n
    · have hlt2 : k < xs.length := by rw [← HN.out]; exact hlt
      obtain ⟨b, off, rfl, hb, hc⟩ := h1.at_int hlt2
      obtain ⟨b2, off2, rfl, hb2, hc2⟩ := h2.at_int hlt2
      generalize xs[k] = X at hc hc2
      clear h1 h2
      go_wp2
      go_quiet (fail)
      go_wp2
      go_roundw
      case rel => exact ⟨k + 1, by omega, by go_num, _, rfl⟩
      case measure => simp [intOf] <;> omega
    · obtain rfl : k = n := by omega
      go_wp2
      go_ret
      exact ⟨rfl, below_drewN (Below.refl _ _) _⟩
end Go.Proofs.Ytcplhbafbjpnlaa
