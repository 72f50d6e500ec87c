/-
  For every []rune t the statement GraphemeCovers returns true: the clusters are the text, the boundaries are just the places that Is tells, Next and Prev lead from one to the other. No condition.
-/
import Derived.Test.YtnpdampaimllpaaHas
import Derived.Test.YtnpdampaimllpaaAlive
import Derived.Test.YtnpdampaimllpaaCov
set_option linter.unusedVariables false
namespace Go.Proofs.Ytnpdampaimllpaa.graphemeCovers
open Go.ChangeShapes Go.WideShapes Go.ChangeAt Go.RowKit Go.Proofs.Ytnpdampaimllpaa
theorem own : ownKnob Try.prog.godebug = none := by kernel_rfl
theorem laidOut : laidOutB Try.prog = true := by kernel_rfl

set_option maxRecDepth 20000 in
set_option maxHeartbeats 4000000 in
theorem walk (A0 : Option Addr) (c0 : Nat) (z0 : List Int) (w : World) (n0 : z0.length ≤ 9223372036854775807) (m0 : z0.length ≤ c0) (w0 : ∀ z ∈ z0, (Lit.int .i32 z).wf = true) (h0 : Has w w.heap.size A0 (z0.map (Value.int .i32))) :
    Calls Try.prog 5 #[.slice A0 z0.length c0] w fun e w' => e = .returned (.bool true) ∧ Below w.heap.size w w' := by
  by_cases hl : 200 < z0.length
  · clear w0 m0 h0
    go_enter Try.func5, Try.ntmps5
    go_wp2_with (go_at_call 8; refine (alive_ok _).mono ?_; rintro e u ⟨rfl, hu⟩)
    go_ret
    exact ⟨rfl, hu⟩
  have mixed : Try.prog.follows .mixedOrders = true := by kernel_rfl
  have hn : z0.length ≤ 200 := by omega
  have HL := Lib.hid (cls_len z0)
  have HM := Lib.hid m0
  have H14 := Lib.hid (fun w h => bounds_ok A0 c0 z0 w (by omega) m0 h)
  have H9 := Lib.hid (fun w h => cuts_ok A0 c0 z0 w (by omega) m0 h)
  have hbn : (bnds (cls z0)).length ≤ 1001 := by have := Bs_len (cls z0) ((cls z0).length + 1); have := cls_len z0; unfold bnds; omega
  have hcn := count_len (cls z0)
  have HG := Lib.hid (at_get (cls z0))
  have HNo := Lib.hid (at_not (cls z0))
  have HN := Lib.hid (next_at (cls z0))
  have HP := Lib.hid (prev_at (cls z0))
  have HB0 := Lib.hid (bnds_zero (cls z0))
  have HBL := Lib.hid (bnds_last (cls z0))
  have HCG := Lib.hid (cuts_get' (cls z0))
  have HBE := Lib.hid (show (bnds (cls z0)).length = (Bs (cls z0) (z0.length + 1)).length by unfold bnds; rw [HL.out])
  have HZ0 := Lib.hid (fun h => bnds_nil (cls z0) h)
  have HBM := Lib.hid (show ∀ y ∈ bnds (cls z0), y ≤ 1001 from fun y hy => by have := (mem_bnds.1 hy).1; have := cls_len z0; omega)
  obtain ⟨bl, hble⟩ : ∃ bl, bnds (cls z0) = bl := ⟨_, rfl⟩
  simp only [hble] at H14 hbn hcn HG HN HP HNo HB0 HBL HCG HBE HZ0 HBM HCG
  obtain ⟨cs, hcse⟩ : ∃ cs, cutsL (cls z0) = cs := ⟨_, rfl⟩
  rw [hcse] at H9 hcn HCG
  have HCS := Lib.hid hcse
  have hzl := zb_len bl
  have hcl : cs.length ≤ 1001 := by omega
  have HCN := Lib.hid hcn
  clear hcn hble hcse
  have hlb : decide (200 < (z0.length : Int)) = false := decide_eq_false (by omega)
  clear w0 m0 n0 hl
  go_enter Try.func5, Try.ntmps5
  go_wp2_with (go_at_call 14; (with_reducible refine (H14.out _ h0).mono ?_); rintro e u1 ⟨v1, rfl, A1, c1, rfl, _, hh1, hb1⟩; rw [hzl])
  have HZL := Lib.hid hzl
  have hh0 := h0.carry hb1
  clear hzl
  go_loopw [4, 5] (fun v i wr => ∃ k : Nat, k ≤ z0.length + 1 ∧ i = .int .i64 k ∧ v = .int .i64 ((Bs (cls z0) k).length : Nat) ∧ Up u1 wr) (fun _ i _ => z0.length + 1 - (intOf i).toNat)
  case atStart => exact ⟨0, by omega, rfl, rfl, Up.refl _⟩
  case round =>
    obtain ⟨k, hk, rfl, rfl, hU⟩ := hrel
    by_cases hlt : k ≤ z0.length
    · have hh := hh0.up hU
      have hx := hh1.up hU
      have H18 := Lib.hid (fun w h => is_ok A0 c0 k z0 w (by omega) HM.out h)
      rw [isV_nat _ _ (by rw [HL.out]; exact hlt)] at H18
      have hal : (Bs (cls z0) k).length ≤ 201 := by have := Bs_len (cls z0) k; omega
      cases hq : bP (cls z0) k with
      | true =>
        rw [hq] at H18
        have hget := HG.out k (by rw [HL.out]; exact hlt) hq
        have HE := Lib.hid (Bs_len_yes (cls z0) k hq)
        have HN' := Lib.hid (fun r h => HN.out k r hq h)
        have HP' := Lib.hid (fun r h => HP.out k r (by rw [HL.out]; exact hlt) h)
        have hz0 : k = 0 → (Bs (cls z0) k).length = 0 := fun h => by rw [h]; rfl
        have hpos : 0 < z0.length := by
          rcases Nat.eq_zero_or_pos z0.length with h | h
          · rw [bP_nil _ (by rw [HL.out]; exact h)] at hq; cases hq
          · exact h
        generalize (Bs (cls z0) k).length = a at *
        obtain ⟨ha, hae⟩ := List.getElem?_eq_some_iff.1 hget
        obtain ⟨b, off, rfl, hb, hca⟩ := hx.at_int (k := a) (by rw [HZL.out]; exact ha)
        rw [zb_get _ _ ha, hae] at hca
        clear hq hget hae hh1 h0 H14
        have hUg : ∀ n os, Up u1 (Go.Sort.grow (wr.drewN n) os) := fun n os => hU.trans (Up.of_grow wr n os)
        have HH := Lib.hid (fun n os => hh.up (Up.of_grow wr n os))
        have hsz := hU.1.size
        have hbw : b < wr.heap.size := hb
        have hl1 : ∀ n os, (Go.Sort.grow (wr.drewN n) os).cell? ⟨b, off + a, none⟩ = some (.int .i64 k) := fun n os => cell_grown hbw hca n os
        have HG18 : Hid (∀ n os, Calls Try.prog 18 #[.slice A0 z0.length c0, .int .i64 k] (Go.Sort.grow (wr.drewN n) os) fun e w' => e = .returned (.bool true) ∧ ∃ q os', w' = Go.Sort.grow ((Go.Sort.grow (wr.drewN n) os).drewN q) os') := Lib.hid (fun n os => (H18.out _ (HH.out n os)).mono fun _ _ ⟨he, hu⟩ => ⟨he, hu.grow⟩)
        have kwN : IntKind.i64.wrap ((bl.length : Int) - 1) = (bl.length : Int) - 1 := IntWalk.i64_in _ (by omega)
        have kt : ((a : Int) + 1).toNat = a + 1 := by omega
        have k0 : (0 : Int) ≤ (a : Int) + 1 := by omega
        by_cases hkn : k < z0.length
        · obtain ⟨R, hR⟩ := ex_next (cls z0) (z0.length - 1 - k) k (by rw [HL.out]; omega)
          have hg1 := HN'.out R hR
          obtain ⟨h1a, h1e⟩ := List.getElem?_eq_some_iff.1 hg1
          obtain ⟨b1, off1, hA1, hb1', hcb⟩ := hx.at_int (k := a + 1) (by rw [HZL.out]; exact h1a)
          cases hA1
          rw [zb_get _ _ h1a, h1e] at hcb
          have HG20 : Hid (∀ n os, Calls Try.prog 20 #[.slice A0 z0.length c0, .int .i64 k] (Go.Sort.grow (wr.drewN n) os) fun e w' => e = .returned (.int .i64 R) ∧ ∃ q os', w' = Go.Sort.grow ((Go.Sort.grow (wr.drewN n) os).drewN q) os') := Lib.hid (fun n os => (next_ok A0 c0 k z0 _ (by omega) HM.out (HH.out n os)).mono fun _ _ ⟨⟨r, he, hr⟩, hu⟩ => by
            obtain rfl := hr.unique (hR.val (by rw [HL.out]; exact hkn))
            exact ⟨he, hu.grow⟩)
          have hl2 : ∀ n os, (Go.Sort.grow (wr.drewN n) os).cell? ⟨b, off + (a + 1), none⟩ = some (.int .i64 R) := fun n os => cell_grown hbw hcb n os
          have kmin : min ((a : Int) + 1) ((bl.length : Int) - 1) = (a : Int) + 1 := by omega
          have kle : (a : Int) + 1 ≤ (bl.length : Int) - 1 := by omega
          have klt : (a : Int) + 1 < (bl.length : Int) := by omega
          have kd : decide ((k : Int) < (z0.length : Int)) = true := decide_eq_true (by omega)
          clear hR hg1 h1e hcb
          by_cases hk0 : k = 0
          · have ha0 := hz0 hk0
            have kd2 : decide ((1 : Int) < (a : Int) + 1) = false := decide_eq_false (by omega)
            have HK0 := Lib.hid hk0
            clear ha0 hk0 hz0
            go_wp2
            refine wp_region_quiet_grown mixed (by kernel_rfl) ?_
            repeat (go_big_quiet_step ((first | (go_at_call 18; with_reducible exact Calls.grown_of (HG18.out _ _)) | (go_at_call 20; with_reducible exact Calls.grown_of (HG20.out _ _)))))
            refine wpQuiet_nil ?_
            intro _ hw'
            obtain ⟨⟨nq, osq⟩, hw''⟩ := hw'
            subst hw''
            have hU9 := hUg nq osq
            clear hl1 hca hUg HH
            go_wp2
            go_roundw
            case rel => exact ⟨k + 1, by omega, by go_num, by rw [HE.out]; rfl, hU9⟩
            case measure => simp [intOf] <;> omega
          · obtain ⟨R2, hR2⟩ := ex_prev (cls z0) (by rw [HL.out]; exact hpos) k (by omega)
            obtain ⟨ha1, hg2⟩ := HP'.out R2 hR2
            obtain ⟨h2a, h2e⟩ := List.getElem?_eq_some_iff.1 hg2
            obtain ⟨b2, off2, hA2, hb2', hcc⟩ := hx.at_int (k := a - 1) (by rw [HZL.out]; exact h2a)
            cases hA2
            rw [zb_get _ _ h2a, h2e] at hcc
            have HG22 : Hid (∀ n os, Calls Try.prog 22 #[.slice A0 z0.length c0, .int .i64 k] (Go.Sort.grow (wr.drewN n) os) fun e w' => e = .returned (.int .i64 R2) ∧ ∃ q os', w' = Go.Sort.grow ((Go.Sort.grow (wr.drewN n) os).drewN q) os') := Lib.hid (fun n os => (prev_ok A0 c0 k z0 _ (by omega) HM.out (HH.out n os)).mono fun _ _ ⟨⟨r, he, hr⟩, hu⟩ => by
              obtain rfl := hr.unique (hR2.val (by omega) (by rw [HL.out]; exact hlt))
              exact ⟨he, hu.grow⟩)
            have hl3 : ∀ n os, (Go.Sort.grow (wr.drewN n) os).cell? ⟨b, off + (a - 1), none⟩ = some (.int .i64 R2) := fun n os => cell_grown hbw hcc n os
            have kd2 : decide ((1 : Int) < (a : Int) + 1) = true := decide_eq_true (by omega)
            have kw2 : IntKind.i64.wrap ((a : Int) + 1 - 2) = ((a - 1 : Nat) : Int) := by rw [IntWalk.i64_in _ (by omega)]; omega
            have kw3 : IntKind.i64.wrap ((a : Int) - 1) = ((a - 1 : Nat) : Int) := by rw [IntWalk.i64_in _ (by omega)]; omega
            have kl3 : a - 1 < bl.length := by omega
            have kl4 : ((a - 1 : Nat) : Int) < (bl.length : Int) := by omega
            clear hR2 hg2 h2e hcc hz0
            have HK0 := Lib.hid hk0
            clear hk0
            go_wp2
            refine wp_region_quiet_grown mixed (by kernel_rfl) ?_
            repeat (go_big_quiet_step ((first | (go_at_call 18; with_reducible exact Calls.grown_of (HG18.out _ _)) | (go_at_call 20; with_reducible exact Calls.grown_of (HG20.out _ _)) | (go_at_call 22; with_reducible exact Calls.grown_of (HG22.out _ _)))))
            refine wpQuiet_nil ?_
            intro _ hw'
            obtain ⟨⟨nq, osq⟩, hw''⟩ := hw'
            subst hw''
            have hU9 := hUg nq osq
            clear hl1 hca hUg HH
            go_wp2
            go_roundw
            case rel => exact ⟨k + 1, by omega, by go_num, by rw [HE.out]; rfl, hU9⟩
            case measure => simp [intOf] <;> omega
        · have hk0 : 0 < k := by omega
          have kd : decide ((k : Int) < (z0.length : Int)) = false := decide_eq_false (by omega)
          have kd5 : decide (k < z0.length) = false := decide_eq_false (by omega)
          obtain ⟨R2, hR2⟩ := ex_prev (cls z0) (by rw [HL.out]; exact hpos) k (by omega)
          obtain ⟨ha1, hg2⟩ := HP'.out R2 hR2
          obtain ⟨h2a, h2e⟩ := List.getElem?_eq_some_iff.1 hg2
          obtain ⟨b2, off2, hA2, hb2', hcc⟩ := hx.at_int (k := a - 1) (by rw [HZL.out]; exact h2a)
          cases hA2
          rw [zb_get _ _ h2a, h2e] at hcc
          have HG22 : Hid (∀ n os, Calls Try.prog 22 #[.slice A0 z0.length c0, .int .i64 k] (Go.Sort.grow (wr.drewN n) os) fun e w' => e = .returned (.int .i64 R2) ∧ ∃ q os', w' = Go.Sort.grow ((Go.Sort.grow (wr.drewN n) os).drewN q) os') := Lib.hid (fun n os => (prev_ok A0 c0 k z0 _ (by omega) HM.out (HH.out n os)).mono fun _ _ ⟨⟨r, he, hr⟩, hu⟩ => by
            obtain rfl := hr.unique (hR2.val (by omega) (by rw [HL.out]; exact hlt))
            exact ⟨he, hu.grow⟩)
          have hl3 : ∀ n os, (Go.Sort.grow (wr.drewN n) os).cell? ⟨b, off + (a - 1), none⟩ = some (.int .i64 R2) := fun n os => cell_grown hbw hcc n os
          have kd2 : decide ((1 : Int) < (a : Int) + 1) = true := decide_eq_true (by omega)
          have kw2 : IntKind.i64.wrap ((a : Int) + 1 - 2) = ((a - 1 : Nat) : Int) := by rw [IntWalk.i64_in _ (by omega)]; omega
          have kw3 : IntKind.i64.wrap ((a : Int) - 1) = ((a - 1 : Nat) : Int) := by rw [IntWalk.i64_in _ (by omega)]; omega
          have kl3 : a - 1 < bl.length := by omega
          have kl4 : ((a - 1 : Nat) : Int) < (bl.length : Int) := by omega
          clear hR2 hg2 h2e hcc hz0
          have HK0 := Lib.hid hk0
          have HKN := Lib.hid hkn
          clear hk0 hkn
          go_wp2
          refine wp_region_quiet_grown mixed (by kernel_rfl) ?_
          repeat (go_big_quiet_step ((first | (go_at_call 18; with_reducible exact Calls.grown_of (HG18.out _ _)) | (go_at_call 22; with_reducible exact Calls.grown_of (HG22.out _ _)))))
          refine wpQuiet_nil ?_
          intro _ hw'
          obtain ⟨⟨nq, osq⟩, hw''⟩ := hw'
          subst hw''
          have hU9 := hUg nq osq
          clear hl1 hca hUg HH
          go_wp2
          go_roundw
          case rel => exact ⟨k + 1, by omega, by go_num, by rw [HE.out]; rfl, hU9⟩
          case measure => simp [intOf] <;> omega
      | false =>
        rw [hq] at H18
        have hno := HNo.out k hq
        have HE := Lib.hid (Bs_len_no (cls z0) k hq)
        generalize (Bs (cls z0) k).length = a at *
        by_cases ha : a < bl.length
        · obtain ⟨b, off, rfl, hb, hca⟩ := hx.at_int (k := a) (by rw [HZL.out]; exact ha)
          rw [zb_get _ _ ha] at hca
          have hne := hno a _ (List.getElem?_eq_getElem ha)
          generalize bl[a] = y at hca hne
          have hne2 : ¬ (y : Int) = k := by omega
          have hne3 : ((y : Int) == (k : Int)) = false := beq_eq_false_iff_ne.2 hne2
          clear hq hno hh1 h0 H14
          go_wp2_with (go_at_call 18; (with_reducible refine (H18.out _ hh).mono ?_); rintro e u ⟨rfl, hu⟩; have hU := hU.trans hu)
          go_roundw
          case rel => exact ⟨k + 1, by omega, by go_num, by rw [HE.out], hU⟩
          case measure => simp [intOf] <;> omega
        · clear hq hno hh1 h0 H14
          go_wp2_with (go_at_call 18; (with_reducible refine (H18.out _ hh).mono ?_); rintro e u ⟨rfl, hu⟩; have hU := hU.trans hu)
          go_roundw
          case rel => exact ⟨k + 1, by omega, by go_num, by rw [HE.out], hU⟩
          case measure => simp [intOf] <;> omega
    · obtain rfl : k = z0.length + 1 := by omega
      rw [← HBE.out]
      have hh := hh0.up hU
      clear hh1 hh0 h0 H14
      go_wp2_with (go_at_call 9; (with_reducible refine (H9.out _ hh).mono ?_); rintro e u2 ⟨v2, rfl, A2, c2, rfl, _, hh2, hb2⟩; have B2 := below_trans hU.1 hb2 hU.1.size)
      have HB2 := Lib.hid B2
      clear B2
      go_loopw [6, 80] (fun v i wr => ∃ j : Nat, j ≤ cs.length ∧ i = .int .i64 j ∧ (∃ x : Nat, v = .int .i64 x ∧ Hid (x = (bl[j]?).getD 0) ∧ x ≤ 1001) ∧ Below u2.heap.size u2 wr) (fun _ i _ => cs.length - (intOf i).toNat)
      case atStart => exact ⟨0, by omega, rfl, ⟨0, rfl, Lib.hid (by
          rcases Nat.eq_zero_or_pos z0.length with h | h
          · rw [HZ0.out (by rw [HL.out]; exact h)]; rfl
          · rw [HB0.out (by rw [HL.out]; exact h)]; rfl), by omega⟩, Below.refl _ _⟩
      case round =>
        obtain ⟨j, hj, rfl, ⟨x, rfl, HX, hxl⟩, hbl2⟩ := hrel
        by_cases hltj : j < cs.length
        · obtain ⟨b, off, rfl, hb, hca, hcb⟩ := (hh2.carry hbl2).at_ hltj
          obtain ⟨hg1, hg2, hlt3⟩ := HCG.out j _ (List.getElem?_eq_getElem hltj)
          generalize cs[j] = p at hca hcb hg1 hg2 hlt3
          obtain ⟨X, Y⟩ := p
          simp only at hca hcb hg1 hg2 hlt3
          have hxe : x = X := by rw [HX.out, hg1]; rfl
          subst hxe
          have HY := Lib.hid (show Y = (bl[j + 1]?).getD 0 by rw [hg2]; rfl)
          have hyl : Y ≤ 1001 := by
            have h5 := (HBM.out _ (List.mem_of_getElem? hg2))
            omega
          have hd1 : decide ((Y : Int) ≤ (x : Int)) = false := decide_eq_false (by omega)
          have hd2 : ¬ Y ≤ x := by omega
          clear hg1 hg2 hh2
          have hsz := hbl2.size
          go_wp2
          go_roundw
          case rel => exact ⟨j + 1, by omega, by go_num, ⟨Y, rfl, HY, hyl⟩, hbl2.alloc hsz _⟩
          case measure => simp [intOf] <;> omega
        · obtain rfl : j = cs.length := by omega
          have hxe : x = z0.length := by
            rw [HX.out, HCN.out]
            rcases Nat.eq_zero_or_pos z0.length with h | h
            · rw [HZ0.out (by rw [HL.out]; exact h), h]; rfl
            · rw [HBL.out (by rw [HL.out]; exact h)]; exact HL.out
          subst hxe
          go_wp2_with (go_at_call 8; refine (alive_ok _).mono ?_; rintro e u3 ⟨rfl, hb3⟩)
          go_ret
          have B3 := below_trans HB2.out hbl2 HB2.out.size
          have B4 := below_trans hb1 B3 hb1.size
          exact ⟨rfl, below_trans B4 hb3 B4.size⟩

set_option maxRecDepth 100000 in
theorem lifted (os : Os) (started : os.Started) (H : Type) (enc : TypeId × Value → H) :
    ReturnsInHanded {} Try.checked os 5 .any (Rows.graphemeCoversSpec.pre6 enc Try.prog Try.f5 Rows.graphemeCoversRow.domain false) (Rows.graphemeCoversSpec.post enc Try.prog Try.f5 false true false false) := by
  refine returnsInHanded_of_change (C := Try.checked) own started (by kernel_rfl) Try.func5
    (ChangeSpec.witness6 (enc := enc) (C := Try.checked) false ⟨#[], #[.slice none 0 0], []⟩ 8 (by kernel_rfl) (by kernel_rfl) (by kernel_rfl) (by kernel_rfl)) ?_
  intro W base args ds gs before hval0 hW hcnd _
  have hval : ∀ (j : Nat) t v, Try.f5.params[j]? = some t → args[j]? = some v → Value.okWide Try.prog W .any base t v := hval0
  have hW' := hW
  obtain ⟨p, q, hA0, hV, rfl, hfz, hnd⟩ := hW
  have hA : DataW.TrodAll enc Try.prog W 0 (fun _ => true) true Try.f5.params.toList args.toList ds p := hA0
  rw [Try.params5] at hA hval
  obtain ⟨v0, vs0, d0, ds0, p0, q0, hargs, rfl, rfl, h0, r0⟩ := trodAll_cons hA
  obtain ⟨rfl, rfl, rfl⟩ := trodAll_nil r0
  obtain rfl : args = #[v0] := by cases args; simp_all
  obtain ⟨rfl, rfl⟩ := trodVars_none hV
  clear hA0 hval0
  have hlt : ∀ x ∈ p0 ++ [], x.block < W.heap.size := fun x hx => by simpa using hW'.lt x (List.mem_append_left _ hx)
  have k0 := h0
  obtain ⟨A0, l0, c0, rfl⟩ := okWide_slice Try.underlying22 (hval 0 22 v0 rfl rfl)
  obtain ⟨z0, rfl, n0, m0, w0, hh0⟩ := has_ints Try.underlying22 Try.underlying21 (by kernel_rfl) h0 (fun x hx => hlt x (List.mem_append_left _ hx))
  refine (walk A0 c0 z0 W n0 m0 w0 hh0).mono fun e W' ⟨he, hb⟩ => ?_
  subst he
  exact ⟨_, rfl, _, _, _, [], _, [], hW', (trodAll_cons_mk (shut_bool Try.underlying4 _) trodAll_mk0), (trodAll_cons_mk (Below.trod laidOut (by kernel_rfl) (of_decide_eq_true (by kernel_rfl)) k0 hb (fun x hx => hlt x (List.mem_append_left _ hx))) trodAll_mk0), rfl, hb.frame _, fun h => by cases h⟩

theorem over : Rows.graphemeCoversRow.holds Try.pinned (OpenSpec.ofChange Rows.graphemeCoversSpec) :=
  OpenClaim.holds_of_wide 5 Try.f5 rfl rfl rfl rfl rfl rfl rfl ⟨rfl, rfl, rfl, rfl, rfl⟩ rfl rfl rfl rfl rfl (by kernel_rfl) Try.func5 (by kernel_rfl)
    (of_decide_eq_true (by kernel_rfl)) (by unfold Func.isWrapper; first | (rw [if_pos (by decide +kernel)]; kernel_rfl) | (rw [if_neg (by decide +kernel)]; exact ⟨rfl, rfl⟩))
    (fun os started H enc _ => lifted os started H enc)

/-- the statement -/
theorem proved : Rows.GraphemeCoversSaid :=
  over
#print axioms proved
end Go.Proofs.Ytnpdampaimllpaa.graphemeCovers
