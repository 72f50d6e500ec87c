/-
  For every []rune t, []int classes and every level and sos the statement BracketsKeep returns true: Resolve changes just brackets of pairs, both alike, and characters of class NSM directly behind them. No condition.
-/
import Derived.Test.YtlopddiplmjpfaaHas
import Derived.Test.YtlopddiplmjpfaaBch
set_option linter.unusedVariables false
namespace Go.Proofs.Ytlopddiplmjpfaa.bracketsKeep
open Go.ChangeShapes Go.WideShapes Go.ChangeAt Go.RowKit Go.Proofs.Ytlopddiplmjpfaa
theorem own : ownKnob Try.prog.godebug = none := by kernel_rfl
theorem laidOut : laidOutB Try.prog = true := by kernel_rfl

theorem keep_changes (ts cs : List Int) (own sos : Int) (l : List (Nat × Nat)) (hP : PairsV ts cs l) (j : Nat) (h : (resL ts own sos l cs)[j]? ≠ cs[j]?) : ∃ (q : Nat) (p : Nat × Nat) (i0 : Nat), l[q]? = some p ∧ (i0 = p.1 ∨ i0 = p.2) ∧ i0 ≤ j ∧ nsmB ts i0 = false ∧ ∀ x, i0 < x → x ≤ j → nsmB ts x = true := by
  obtain ⟨p, hp, i0, h1, h2, h3⟩ := resL_run ts own sos l cs j h
  obtain ⟨q, hq, he⟩ := List.getElem_of_mem hp
  obtain ⟨_, _, _, ho, hc⟩ := hP.at p hp
  refine ⟨q, p, i0, by rw [List.getElem?_eq_getElem hq, he], h1, h2, ?_, h3⟩
  rcases h1 with rfl | rfl
  · exact (opn_nsm ts cs _ ho).1
  · exact (cls_nsm ts cs _ hc).1
set_option maxRecDepth 20000 in
set_option maxHeartbeats 8000000 in
theorem walk (A0 : Option Addr) (c0 : Nat) (z0 : List Int) (A1 : Option Addr) (c1 : Nat) (z1 : List Int) (a2 : Int) (b2 : Bool) (w : World) (n0 : z0.length ≤ 9223372036854775807) (m0 : z0.length ≤ c0) (w0 : ∀ z ∈ z0, (Lit.int .i32 z).wf = true) (h0 : Has w w.heap.size A0 (z0.map (Value.int .i32))) (e0 : A0 = none → c0 = 0) (n1 : z1.length ≤ 9223372036854775807) (m1 : z1.length ≤ c1) (w1 : ∀ z ∈ z1, (Lit.int .i64 z).wf = true) (h1 : Has w w.heap.size A1 (z1.map (Value.int .i64))) (e1 : A1 = none → c1 = 0) (w2 : (Lit.int .i64 a2).wf = true) :
    Calls Try.prog 6 #[.slice A0 z0.length c0, .slice A1 z1.length c1, .agg #[.int .i64 a2, .bool b2]] w fun e w' => e = .returned (.bool true) ∧ Below w.heap.size w w' := by
  have hat0 := at_new w #[.int .i64 a2, .bool b2] 29
  have hU0 : Up w (w.alloc (.cells #[.int .i64 a2, .bool b2] 29)) := (Up.refl w).alloc _
  have k0 := hat0.cell 0 _ rfl
  have k1 := hat0.cell 1 _ rfl
  by_cases hl : 150 < z0.length ∨ 150 < z1.length
  · have hld : decide (150 < z0.length ∨ 150 < z1.length) = true := decide_eq_true hl
    have HL := Lib.hid (fun w => long_ok A0 A1 z0.length z1.length c0 c1 w)
    rw [hld] at HL
    clear w0 m0 h0 w1 h1 m1 hl hld
    go_enter Try.func6, Try.ntmps6
    go_wp2_with (first | (go_at_call 8; (with_reducible refine (HL.out _).mono ?_); rintro e u ⟨rfl, rfl⟩))
    go_ret
    exact ⟨rfl, hU0.1⟩
  have hld : decide (150 < z0.length ∨ 150 < z1.length) = false := decide_eq_false hl
  have HL := Lib.hid (fun w => long_ok A0 A1 z0.length z1.length c0 c1 w)
  rw [hld] at HL
  have hz0 : z0.length ≤ 150 := by omega
  have hz1 : z1.length ≤ 150 := by omega
  have HS := Lib.hid (fun w => side_ok b2 w)
  have H10 := Lib.hid (fun w h h' => pairs_ok A0 A1 c0 c1 z0.length z1.length z0 z1 w rfl rfl (by omega) h h')
  have g0 := h0.carry hU0.1
  have g1 := h1.carry hU0.1
  have hb0 := hU0.1
  obtain ⟨W0, hW0⟩ : ∃ W0, w.alloc (.cells #[.int .i64 a2, .bool b2] 29) = W0 := ⟨_, rfl⟩
  by_cases hne : z0.length = z1.length
  rotate_left
  · have H13 : Hid (∀ w, Has w w.heap.size A0 (z0.map (Value.int .i32)) → Has w w.heap.size A1 (z1.map (Value.int .i64)) →
        Calls Try.prog 13 #[.slice A0 z0.length c0, .slice A1 z1.length c1, .int .i64 a2, .int .i64 (sideB b2)] w fun e w' => ∃ AX cX, e = .returned (.slice AX 0 cX) ∧ Below w.heap.size w w') := Lib.hid (fun w h h' =>
      (resolve_ok A0 A1 c0 c1 z0.length z1.length a2 (sideB b2) z0 z1 w rfl rfl (by omega) (sideB_or b2) h h').mono fun e w' ⟨l, _, hs⟩ => by
        rw [if_neg hne] at hs
        obtain ⟨v, hv, AX, cX, hvv, _, hhx, hbx⟩ := hs
        exact ⟨AX, cX, by rw [hv, hvv]; rfl, hbx⟩)
    have hnz : ((z0.length : Int) != (z1.length : Int)) = true := by simp; omega
    generalize sideB b2 = sd at *
    clear w0 m0 w1 m1 hl hld n0 n1 h0 h1 H10
    go_enter Try.func6, Try.ntmps6
    go_wp2_with (first
      | (go_at_call 8; (with_reducible refine (HL.out _).mono ?_); rintro e u0 ⟨rfl, rfl⟩))
    rw [hW0] at k0 k1 g0 g1 hb0 hat0
    try rw [hW0]
    have hlt := hat0.lt
    have hbd : Below W0.heap.size W0 W0.drew := (Below.refl _ _).drew
    clear hW0 hat0 hU0
    go_region_held3 (fun w' => w'.cell? ⟨w.heap.size, 0, none⟩ = some (.int .i64 a2) ∧ w'.cell? ⟨w.heap.size, 1, none⟩ = some (.bool b2))
      (first
        | go_keep
        | exact ⟨(hbX.cell (p := ⟨w.heap.size, 0, none⟩) hlt).trans k0, (hbX.cell (p := ⟨w.heap.size, 1, none⟩) hlt).trans k1⟩)
      (first
        | (go_at_call 14; refine (HS.out _).mono ?_; rintro e wS ⟨rfl, rfl⟩)
        | (go_at_call 13; refine (H13.out _ (g0.carry hbd) (g1.carry hbd)).mono ?_; rintro e wX ⟨AX, cX, rfl, hbX0⟩; have hbX := below_trans hbd hbX0 hbd.size))
    go_wp2
    go_ret
    exact ⟨rfl, below_trans hb0 hbX hb0.size⟩
  have H13 : Hid (∀ w, Has w w.heap.size A0 (z0.map (Value.int .i32)) → Has w w.heap.size A1 (z1.map (Value.int .i64)) →
      Calls Try.prog 13 #[.slice A0 z0.length c0, .slice A1 z0.length c1, .int .i64 a2, .int .i64 (sideB b2)] w fun e w' => ∃ l AX cX, PairsV z0 z1 l ∧ e = .returned (.slice AX z0.length cX) ∧ Has w' w'.heap.size AX ((resL z0 (ownB a2) (sideB b2) l z1).map (Value.int .i64)) ∧ Below w.heap.size w w') := Lib.hid (fun w h h' => by
    have hr := resolve_ok A0 A1 c0 c1 z0.length z1.length a2 (sideB b2) z0 z1 w rfl rfl (by omega) (sideB_or b2) h h'
    simp only [if_pos hne] at hr
    rw [← hne] at hr
    exact hr.mono fun e w' ⟨l, hP, hs⟩ => by
      obtain ⟨v, hv, AX, cX, hvv, _, hhx, hbx⟩ := hs
      exact ⟨l, AX, cX, hP, by rw [hv, hvv, resL_len, ← hne], hhx, hbx⟩)
  have HU : Hid (∀ l l2 (h : PairsV z0 z1 l) (k : PairsV z0 z1 l2), l = l2) := Lib.hid (fun l l2 h k => h.unique k)
  have HR : ∃ R : List (Nat × Nat) → List Int, ∀ l, resL z0 (ownB a2) (sideB b2) l z1 = R l := ⟨_, fun l => rfl⟩
  have HK : Hid (∀ l, PairsV z0 z1 l → ∀ j, (resL z0 (ownB a2) (sideB b2) l z1)[j]? ≠ z1[j]? → ∃ (q : Nat) (p : Nat × Nat) (i0 : Nat), l[q]? = some p ∧ (i0 = p.1 ∨ i0 = p.2) ∧ i0 ≤ j ∧ nsmB z0 i0 = false ∧ ∀ x, i0 < x → x ≤ j → nsmB z0 x = true) := Lib.hid (fun l h j hj => keep_changes z0 z1 _ _ l h j hj)
  have HE : Hid (∀ l, PairsV z0 z1 l → ∀ p, p ∈ l → (resL z0 (ownB a2) (sideB b2) l z1)[p.1]? = (resL z0 (ownB a2) (sideB b2) l z1)[p.2]?) := Lib.hid (fun l h p hp => h.same _ _ p hp)
  have HRL : Hid (∀ l, (resL z0 (ownB a2) (sideB b2) l z1).length = z0.length) := Lib.hid (fun l => by rw [resL_len]; exact hne.symm)
  obtain ⟨R, HR⟩ := HR
  simp only [HR] at H13 HK HE HRL
  rw [← hne] at HL H10 ⊢
  have HNE := Lib.hid hne
  generalize sideB b2 = sd at *
  clear w0 m0 w1 m1 hl hld n0 n1 h0 h1 HR hne hz1
  go_enter Try.func6, Try.ntmps6
  go_wp2_with (first
    | (go_at_call 8; (with_reducible refine (HL.out _).mono ?_); rintro e u0 ⟨rfl, rfl⟩))
  rw [hW0] at k0 k1 g0 g1 hb0 hat0
  try rw [hW0]
  have hlt := hat0.lt
  have hbd : Below W0.heap.size W0 W0.drew := (Below.refl _ _).drew
  clear hW0 hat0 hU0
  go_region_held3 (fun w' => w'.cell? ⟨w.heap.size, 0, none⟩ = some (.int .i64 a2) ∧ w'.cell? ⟨w.heap.size, 1, none⟩ = some (.bool b2))
    (first
      | go_keep
      | exact ⟨(hbX.cell (p := ⟨w.heap.size, 0, none⟩) hlt).trans k0, (hbX.cell (p := ⟨w.heap.size, 1, none⟩) hlt).trans k1⟩)
    (first
      | (go_at_call 14; refine (HS.out _).mono ?_; rintro e wS ⟨rfl, rfl⟩)
      | (go_at_call 13; refine (H13.out _ (g0.carry hbd) (g1.carry hbd)).mono ?_; rintro e wX ⟨l, AX, cX, hl, rfl, hsX, hbX0⟩; have hbX := below_trans hbd hbX0 hbd.size))
  have ga := g0.carry hbX
  have gb := g1.carry hbX
  have hbwX := below_trans hb0 hbX hb0.size
  clear g0 g1 k0 k1 hbX hbX0 hbd hb0 HS H13 HL hlt
  go_wp2_with (first
    | (go_at_call 10; (with_reducible refine (H10.out _ ga gb).mono ?_); rintro e u1 ⟨l2, ⟨v1, rfl, hv1, hb1⟩, hl2⟩; obtain rfl := HU.out _ _ hl hl2; obtain ⟨AP, cP, rfl, _, _, hhP⟩ := hv1.has))
  have HV := Lib.hid hl
  have hml := hl.len
  obtain ⟨m, hm⟩ : ∃ m, l.length = m := ⟨_, rfl⟩
  rw [hm] at hml ⊢
  have HM := Lib.hid hm
  have hsU := hsX.carry hb1
  have HH : Hid (∀ u, Up u1 u → Has u u.heap.size A0 (z0.map (Value.int .i32)) ∧ Has u u.heap.size A1 (z1.map (Value.int .i64)) ∧ Has u u.heap.size AX ((R l).map (Value.int .i64)) ∧ HasP u u.heap.size AP l) := Lib.hid (fun u hu => ⟨(ga.carry hb1).up hu, (gb.carry hb1).up hu, hsU.up hu, hhP.up hu⟩)
  have hbwU := below_trans hbwX hb1 hbwX.size
  have hRL := HRL.out l
  have HKL := Lib.hid (HK.out l hl)
  have HEL := Lib.hid (HE.out l hl)
  clear ga gb hsX hsU hb1 hhP hv1 hl hl2 hm hbwX HK HE HRL HU H10
  generalize R l = O at *
  have HOL := Lib.hid hRL
  clear hRL
  go_loopw [9] (fun v wr => ∃ i : Nat, i ≤ m ∧ v = .int .i64 i ∧ ∃ z, wr = u1.drewN z) (fun v _ => m - (intOf v).toNat)
  case atStart => exact ⟨0, Nat.zero_le _, rfl, 0, rfl⟩
  case round =>
    obtain ⟨i, him, rfl, z, rfl⟩ := hrel
    by_cases hlt : i < m
    · obtain ⟨gt, gc, go, gp⟩ := HH.out _ (Up.refl _)
      have hil : i < l.length := by have := HM.out; omega
      have hmem : l[i] ∈ l := List.getElem_mem hil
      obtain ⟨heq, hab, hbn, hop, hcl⟩ := HV.out.at _ hmem
      have hsame := HEL.out _ hmem
      obtain ⟨b2, o2, hA2, hb2, hcx, hcy⟩ := gp.at_ hil
      subst hA2
      generalize l[i] = ab at *
      obtain ⟨a, b⟩ := ab
      simp only at hab hbn hsame
      have d1 : u1.cell? ⟨b2, o2 + i * 2, none⟩ = some (.int .i64 (a : Int)) := hcx
      have d2 : u1.cell? ⟨b2, o2 + i * 2 + 1, none⟩ = some (.int .i64 (b : Int)) := hcy
      have hao : a < O.length := by have := HOL.out; omega
      have hbo : b < O.length := by have := HOL.out; omega
      obtain ⟨bc, oc, hAc, hbcl, hca⟩ := go.at_int hao
      subst hAc
      obtain ⟨bc', oc', hAc', _, hcb⟩ := go.at_int hbo
      injection hAc' with hAc'
      injection hAc' with x1 x2
      subst x1; subst x2
      rw [List.getElem?_eq_getElem hao, List.getElem?_eq_getElem hbo] at hsame
      injection hsame with hsame
      rw [← hsame] at hcb
      generalize O[a] = X at hca hcb
      have n0 : decide ((a : Int) < 0) = false := decide_eq_false (by omega)
      have n1 : decide ((b : Int) < 0) = false := decide_eq_false (by omega)
      have n2 : decide (z0.length ≤ a) = false := decide_eq_false (by omega)
      have n3 : decide (z0.length ≤ b) = false := decide_eq_false (by omega)
      have n4 : ¬ (z0.length : Int) ≤ a := by omega
      have n5 : ¬ (z0.length : Int) ≤ b := by omega
      have hoa : O.length = z0.length := HOL.out
      have han : a < z0.length := by omega
      clear hcx hcy hsame hmem hop hcl heq gt gc go gp hao hbo hoa hil
      go_wp2
      go_quiet (fail)
      go_wp2
      go_quiet (fail)
      go_wp2
      go_roundw
      case rel => exact ⟨i + 1, by omega, by go_num, _, rfl⟩
      case measure => simp [intOf] <;> omega
    · obtain rfl : i = m := by omega
      go_wp2
      obtain ⟨WA, hWA⟩ : ∃ WA, WA = u1.drewN z := ⟨_, rfl⟩
      have hUA : Up u1 WA := by rw [hWA]; exact (Up.refl u1).drewN z
      rw [← hWA]
      clear hWA
      go_loopw [12] (fun v wr => ∃ j : Nat, j ≤ z0.length ∧ v = .int .i64 j ∧ Up u1 wr) (fun v _ => z0.length - (intOf v).toNat)
      case atStart => exact ⟨0, Nat.zero_le _, rfl, hUA⟩
      case round =>
        clear hUA
        obtain ⟨j, hj, rfl, hU⟩ := hrel
        by_cases hjn : j < z0.length
        · obtain ⟨gt, gc, go, gp⟩ := HH.out _ hU
          have hjo : j < O.length := by have := HOL.out; omega
          have hjc : j < z1.length := by have := HNE.out; omega
          obtain ⟨bo, oo, hAo, hbo, hco⟩ := go.at_int hjo
          subst hAo
          obtain ⟨bc, oc, hAc, hbc, hcc⟩ := gc.at_int hjc
          subst hAc
          have hch := HKL.out j
          rw [List.getElem?_eq_getElem hjo, List.getElem?_eq_getElem hjc] at hch
          generalize O[j] = X at hco hch
          generalize z1[j] = Y at hcc hch
          by_cases hXY : X = Y
          · subst hXY
            clear hch gt gc go gp
            go_wp2
            go_quiet (fail)
            go_wp2
            go_roundw
            case rel => exact ⟨j + 1, by omega, by go_num, hU.drewN _⟩
            case measure => simp [intOf] <;> omega
          · obtain ⟨q, p, i0, q1, q2, q3, q4, q5⟩ := hch (by intro e; injection e with e; exact hXY e)
            have HCH := Lib.hid (fun u (hu : Below wr.heap.size wr u) => changes_ok A0 AP c0 cP z0.length i i0 j q z0 l p u rfl HM.out.symm (by omega) (by omega) hjn q3 q4 q5 q1 q2 (gt.carry hu) (gp.carry hu))
            have hxy : (X == Y) = false := by simpa using hXY
            have hxn : (X != Y) = true := by simpa using hXY
            have hbd : Below wr.heap.size wr wr.drew := (Below.refl _ _).drew
            clear hch gt gc go gp q1 q2 q3 q4 q5 hXY
            go_wp2
            go_region_held3 (fun w' => w'.cell? ⟨bo, oo + j, none⟩ = some (.int .i64 X) ∧ w'.cell? ⟨bc, oc + j, none⟩ = some (.int .i64 Y))
              (first
                | go_keep
                | exact ⟨(hbX.cell (p := ⟨bo, oo + j, none⟩) hbo).trans hco, (hbX.cell (p := ⟨bc, oc + j, none⟩) hbc).trans hcc⟩)
              (first
                | (go_at_call 18; refine (HCH.out _ hbd).mono ?_; rintro e wX2 ⟨rfl, hUX⟩; have hbX := below_trans hbd hUX.1 hbd.size))
            have hUU : Up u1 wX2 := (hU.drew).trans hUX
            go_wp2
            go_roundw
            case rel => exact ⟨j + 1, by omega, by go_num, hUU⟩
            case measure => simp [intOf] <;> omega
        · obtain rfl : j = z0.length := by omega
          go_wp2
          go_ret
          exact ⟨rfl, below_trans hbwU hU.1 hbwU.size⟩

set_option maxRecDepth 100000 in
theorem lifted (os : Os) (started : os.Started) (H : Type) (enc : TypeId × Value → H) :
    ReturnsInHanded {} Try.checked os 6 .any (Rows.bracketsKeepSpec.pre6 enc Try.prog Try.f6 Rows.bracketsKeepRow.domain false) (Rows.bracketsKeepSpec.post enc Try.prog Try.f6 false true false false) := by
  refine returnsInHanded_of_change (C := Try.checked) own started (by kernel_rfl) Try.func6
    (ChangeSpec.witness6 (enc := enc) (C := Try.checked) false ⟨#[], #[.slice none 0 0, .slice none 0 0, .agg #[.int .i64 0, .bool false]], []⟩ 8 (by kernel_rfl) (by kernel_rfl) (by kernel_rfl) (by kernel_rfl)) ?_
  intro W base args ds gs before hval0 hW hcnd _
  have hval : ∀ (j : Nat) t v, Try.f6.params[j]? = some t → args[j]? = some v → Value.okWide Try.prog W .any base t v := hval0
  have hW' := hW
  obtain ⟨p, q, hA0, hV, rfl, hfz, hnd⟩ := hW
  have hA : DataW.TrodAll enc Try.prog W 0 (fun _ => true) true Try.f6.params.toList args.toList ds p := hA0
  rw [Try.params6] at hA hval
  obtain ⟨v0, vs0, d0, ds0, p0, q0, hargs, rfl, rfl, h0, r0⟩ := trodAll_cons hA
  obtain ⟨v1, vs1, d1, ds1, p1, q1, rfl, rfl, rfl, h1, r1⟩ := trodAll_cons r0
  obtain ⟨v2, vs2, d2, ds2, p2, q2, rfl, rfl, rfl, h2, r2⟩ := trodAll_cons r1
  obtain ⟨rfl, rfl, rfl⟩ := trodAll_nil r2
  obtain rfl : args = #[v0, v1, v2] := by cases args; simp_all
  obtain ⟨rfl, rfl⟩ := trodVars_none hV
  clear hA0 hval0
  have hlt : ∀ x ∈ p0 ++ (p1 ++ (p2 ++ [])), x.block < W.heap.size := fun x hx => by simpa using hW'.lt x (List.mem_append_left _ hx)
  have k0 := h0
  have k1 := h1
  have k2 := h2
  obtain ⟨A0, l0, c0, rfl⟩ := okWide_slice Try.underlying22 (hval 0 22 v0 rfl rfl)
  obtain ⟨z0, rfl, n0, m0, w0, hh0⟩ := has_ints Try.underlying22 Try.underlying21 (by kernel_rfl) h0 (fun x hx => hlt x (List.mem_append_left _ hx))
  have e0 := none_cap Try.underlying22 Try.underlying21 (by kernel_rfl) k0
  obtain ⟨A1, l1, c1, rfl⟩ := okWide_slice Try.underlying23 (hval 1 23 v1 rfl rfl)
  obtain ⟨z1, rfl, n1, m1, w1, hh1⟩ := has_ints Try.underlying23 Try.underlying3 (by kernel_rfl) h1 (fun x hx => hlt x (List.mem_append_right _ (List.mem_append_left _ hx)))
  have e1 := none_cap Try.underlying23 Try.underlying3 (by kernel_rfl) k1
  obtain ⟨a2, b2, hv2, w2⟩ := seen_struct Try.underlying29 (by kernel_rfl) (by kernel_rfl) (by rfl) (by rfl) (by rfl) Try.underlying3 Try.underlying4 (hval 2 29 v2 rfl rfl) h2
  subst hv2
  refine (walk A0 c0 z0 A1 c1 z1 a2 b2 W n0 m0 w0 hh0 e0 n1 m1 w1 hh1 e1 w2).mono fun e W' ⟨he, hb⟩ => ?_
  subst he
  exact ⟨_, rfl, _, _, _, [], _, [], hW', (trodAll_cons_mk (shut_bool Try.underlying4 _) trodAll_mk0), (trodAll_cons_mk (Below.trod laidOut (by kernel_rfl) (of_decide_eq_true (by kernel_rfl)) k0 hb (fun x hx => hlt x (List.mem_append_left _ hx))) (trodAll_cons_mk (Below.trod laidOut (by kernel_rfl) (of_decide_eq_true (by kernel_rfl)) k1 hb (fun x hx => hlt x (List.mem_append_right _ (List.mem_append_left _ hx)))) (trodAll_cons_mk (Below.trod laidOut (by kernel_rfl) (of_decide_eq_true (by kernel_rfl)) k2 hb (fun x hx => hlt x (List.mem_append_right _ (List.mem_append_right _ (List.mem_append_left _ hx))))) trodAll_mk0))), rfl, hb.frame _, fun h => by cases h⟩

theorem over : Rows.bracketsKeepRow.holds Try.pinned (OpenSpec.ofChange Rows.bracketsKeepSpec) :=
  OpenClaim.holds_of_wide 6 Try.f6 rfl rfl rfl rfl rfl rfl rfl ⟨rfl, rfl, rfl, rfl, rfl⟩ rfl rfl rfl rfl rfl (by kernel_rfl) Try.func6 (by kernel_rfl)
    (of_decide_eq_true (by kernel_rfl)) (by unfold Func.isWrapper; first | (rw [if_pos (by decide +kernel)]; kernel_rfl) | (rw [if_neg (by decide +kernel)]; exact ⟨rfl, rfl⟩))
    (fun os started H enc _ => lifted os started H enc)

/-- the statement -/
theorem proved : Rows.BracketsKeepSaid :=
  over
#print axioms proved
end Go.Proofs.Ytlopddiplmjpfaa.bracketsKeep
