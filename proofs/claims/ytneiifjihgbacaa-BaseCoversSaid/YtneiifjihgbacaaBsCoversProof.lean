/-
  For every []rune t the statement BaseCovers returns true: the paragraphs cover the text, none is empty, B stands at their ends alone, but a CR ahead of an LF there. No condition.
-/
import Derived.Test.YtneiifjihgbacaaHas
import Derived.Test.YtneiifjihgbacaaAlb
set_option linter.unusedVariables false
namespace Go.Proofs.Ytneiifjihgbacaa.baseCovers
open Go.ChangeShapes Go.WideShapes Go.ChangeAt Go.RowKit Go.Proofs.Ytneiifjihgbacaa
theorem own : ownKnob Try.prog.godebug = none := by kernel_rfl
theorem laidOut : laidOutB Try.prog = true := by kernel_rfl

theorem infoCut : (Try.prog.info? 27).map (·.size) = some 2 := by kernel_rfl
theorem par_all (t : List Int) (k : Nat) (c : Nat × Nat) (h : (parL t)[k]? = some c) : c.1 = endAt (parL t) k ∧ c.1 < c.2 ∧ c.2 ≤ t.length ∧ (bdC t (c.2 - 1) = 11 ∨ c.2 = t.length) ∧ (∀ x, c.1 ≤ x → x < c.2 - 1 → bdC t x = 11 → x + 2 = c.2 ∧ t.getD x 0 = 13 ∧ t.getD (x + 1) 0 = 10) := by
  have hi := inv_par t t.length
  have hm : c ∈ parL t := List.mem_of_getElem? h
  obtain ⟨a, b, _, _⟩ := hi.cut c hm
  exact ⟨hi.fst k c h, a, b, par_last t c hm, fun x h1 h2 h3 => par_inner t c hm x h1 h2 h3⟩
set_option maxRecDepth 20000 in
set_option maxHeartbeats 8000000 in
theorem walk (A0 : Option Addr) (c0 : Nat) (z0 : List Int) (w : World) (n0 : z0.length ≤ 9223372036854775807) (m0 : z0.length ≤ c0) (w0 : ∀ z ∈ z0, (Lit.int .i32 z).wf = true) (h0 : Has w w.heap.size A0 (z0.map (Value.int .i32))) :
    Calls Try.prog 6 #[.slice A0 z0.length c0] w fun e w' => e = .returned (.bool true) ∧ Below w.heap.size w w' := by
  have HAL := Lib.hid (fun w => alive_ok w)
  by_cases hl : 300 < z0.length
  · clear w0 m0 h0
    go_enter Try.func6, Try.ntmps6
    go_wp2_with (go_at_call 9; (with_reducible refine (HAL.out _).mono ?_); rintro e u ⟨rfl, hu⟩)
    go_ret
    exact ⟨rfl, hu⟩
  have hn : z0.length ≤ 300 := by omega
  have H10 := Lib.hid (fun w h => paras_ok A0 z0.length c0 z0 w rfl (by omega) h)
  have HP := Lib.hid (par_all z0)
  have HE := Lib.hid (par_end z0)
  have hpl : (parL z0).length ≤ 300 := by have := par_len z0 z0.length; unfold parL; omega
  generalize parL z0 = l at *
  have hlb : decide (300 < (z0.length : Int)) = false := decide_eq_false (by omega)
  clear w0 m0 n0
  go_enter Try.func6, Try.ntmps6
  go_wp2_with (go_at_call 10; (with_reducible refine (H10.out _ h0).mono ?_); rintro e u1 ⟨v1, rfl, A1, c1, rfl, _, hc1, hb1⟩; have g1 := h0.carry hb1)
  have HH := Lib.hid (fun W (hu : Up u1 W) => (⟨g1.carry hu.1, hc1.carry hu.1⟩ : _ ∧ _))
  have HB1 := Lib.hid hb1
  clear g1 hc1 h0 hb1 H10
  go_loopw [3, 15] (fun v3 v15 wr => ∃ k E : Nat, k ≤ l.length ∧ v15 = .int .i64 k ∧ v3 = .int .i64 E ∧ Hid (endAt l k = E) ∧ Up u1 wr) (fun _ v15 _ => l.length - (intOf v15).toNat)
  case atStart => exact ⟨0, 0, by omega, rfl, rfl, Lib.hid rfl, Up.refl _⟩
  case round =>
    obtain ⟨k, E, hk, rfl, rfl, HEN, hU⟩ := hrel
    obtain ⟨WA, hWA⟩ : ∃ WA, WA = wr := ⟨_, rfl⟩
    subst hWA
    by_cases hlt : k < l.length
    · obtain ⟨gt, gl⟩ := HH.out _ hU
      have hx : l[k]? = some l[k] := List.getElem?_eq_getElem hlt
      obtain ⟨p1, p2, p3, p4, p5⟩ := HP.out k _ hx
      have HS := Lib.hid (endAt_succ l k _ hx)
      obtain ⟨b, off, rfl, hb, hca, hcb⟩ := gl.at_ hlt
      generalize l[k] = X at *
      obtain ⟨f, e⟩ := X
      obtain ⟨g, rfl⟩ : ∃ g, e = g + 1 := ⟨e - 1, by simp only at p2; omega⟩
      simp only [Nat.add_sub_cancel] at p1 p2 p3 p4 p5 hca hcb HS
      rw [HEN.out] at p1
      subst p1
      have hgl : g < z0.length := by omega
      obtain ⟨bt, ot, rfl, hbt, hct⟩ := gt.at_int hgl
      unfold bdC at p4 p5
      rw [getDI hgl] at p4
      generalize z0[g] = XG at hct p4
      obtain ⟨pr, hpr⟩ : ∃ pr, ofP XG = pr := ⟨_, rfl⟩
      rw [hpr] at p4
      have HO := Lib.hid (fun w => of_x XG pr hpr w)
      have hfb := fun w => field_bd pr w
      have HP5 := Lib.hid p5
      have HCT := Lib.hid (fun W (hu : Up WA W) => hu.cell hct)
      have d1 : decide (((g : Int) + 1) ≤ (f : Int)) = false := decide_eq_false (by omega)
      have d2 : decide ((z0.length : Int) < ((g : Int) + 1)) = false := decide_eq_false (by omega)
      have h4 : ((pr.bidi == 11) = true) ∨ ((pr.bidi == 11) = false ∧ (((g : Int) + 1 != (z0.length : Int)) = false)) := by
        rcases p4 with h | h
        · exact .inl (by simp [h])
        · rcases hq : (pr.bidi == 11) with _ | _
          · exact .inr ⟨rfl, by simp; omega⟩
          · exact .inl rfl
      clear p4 p5 hpr hct hx gt gl hb
      rcases h4 with h4 | ⟨h4, h5⟩
      all_goals
        go_wp2_with (first
          | (go_at_call 18; (with_reducible refine (HO.out _).mono ?_); rintro e u2 ⟨rfl, hu2⟩; have hU2 := hU1.trans hu2; have r0 := (Up.cell hu2 q0); have r1 := (Up.cell hu2 q1))
          | (refine wpList_store_at rfl 27 _ _ rfl WA.heap.size _ rfl rfl 27 _ (at_new _ _ _) (by exact infoCut) (by rfl) (by simp [Value.oneCell']) WA ((Up.refl WA).alloc _) (Nat.le_refl _) ?_; intro w1 hat hoth hsz hU1; have q0 : w1.cell? ⟨WA.heap.size, 0, none⟩ = some (.int .i64 (f : Int)) := hat.cell 0 _ rfl; have q1 : w1.cell? ⟨WA.heap.size, 1, none⟩ = some (.int .i64 ((g : Int) + 1)) := hat.cell 1 _ rfl; have q2 := HCT.out _ hU1; clear hoth hsz))
        have hU3 := hU.trans hU2
        have HT2 := Lib.hid (fun W (hu : Up u2 W) => (⟨(HH.out W (hU3.trans hu)).1, hu.cell r0, hu.cell r1⟩ : _ ∧ _ ∧ _))
        have HU3 := Lib.hid hU3
        clear hU hU1 hU2 hu2 hU3 r0 r1 q0 q1 q2 hat HCT HO hfb hca hcb
        go_loopw [7] (fun v7 wr => ∃ i : Nat, f ≤ i ∧ i ≤ g ∧ v7 = .int .i64 i ∧ Up u2 wr) (fun v7 _ => g - (intOf v7).toNat)
        case atStart => exact ⟨f, by omega, by omega, rfl, Up.refl _⟩
        case round =>
          obtain ⟨i, hfi, hig, rfl, hV⟩ := hrel
          obtain ⟨gt2, s0, s1⟩ := HT2.out _ hV
          by_cases hlt2 : i < g
          · have hil : i < z0.length := by omega
            have hil2 : i + 1 < z0.length := by omega
            obtain ⟨b', o', hA, _, hci⟩ := gt2.at_int hil
            injection hA with hA
            injection hA with x1 x2
            subst x1; subst x2
            obtain ⟨b', o', hA, _, hcj⟩ := gt2.at_int hil2
            injection hA with hA
            injection hA with x1 x2
            subst x1; subst x2
            have h55 := HP5.out i hfi hlt2
            rw [getDI hil, getDI hil2] at h55
            generalize z0[i] = XI at hci h55
            generalize z0[i + 1] = XJ at hcj h55
            obtain ⟨qr, hqr⟩ : ∃ qr, ofP XI = qr := ⟨_, rfl⟩
            rw [hqr] at h55
            have HO2 := Lib.hid (fun w => of_x XI qr hqr w)
            have hfb2 := fun w => field_bd qr w
            have HCJ := Lib.hid (fun W (hu : Up wr W) => (⟨hu.cell hcj, hu.cell s1, hu.cell hci⟩ : _ ∧ _ ∧ _))
            clear hqr gt2 hcj
            by_cases hq : qr.bidi = 11
            · obtain ⟨e1, rfl, rfl⟩ := h55 hq
              have hg1 : Hid (g = i + 1) := Lib.hid (by omega)
              have hq1 : (qr.bidi == 11) = true := by simp [hq]
              have c1 : ((i : Int) + 1).toNat = i + 1 := by omega
              have c2 : ((i : Int) == (g : Int) + 1 - 2) = true := by simp; omega
              have c3 : ((i : Int) == (g : Int) - 1) = true := by simp; omega
              clear hq e1 h55
              go_wp2_with (go_at_call 18; (with_reducible refine (HO2.out _).mono ?_); rintro e u4 ⟨rfl, hu4⟩; obtain ⟨j0, j1, j2⟩ := HCJ.out _ hu4)
              go_roundw
              case rel => exact ⟨i + 1, by omega, by omega, by go_num, hV.trans hu4⟩
              case measure => simp [intOf] <;> omega
            · have hq1 : (qr.bidi == 11) = false := by simpa using hq
              clear hq h55
              go_wp2_with (go_at_call 18; (with_reducible refine (HO2.out _).mono ?_); rintro e u4 ⟨rfl, hu4⟩; obtain ⟨j0, j1, j2⟩ := HCJ.out _ hu4)
              go_roundw
              case rel => exact ⟨i + 1, by omega, by omega, by go_num, hV.trans hu4⟩
              case measure => simp [intOf] <;> omega
          · obtain rfl : i = g := by omega
            have hU5 := HU3.out.trans hV
            go_wp2
            go_roundw
            case rel => exact ⟨k + 1, i + 1, by omega, by go_num, by go_num, HS, hU5⟩
            case measure => simp [intOf] <;> omega
    · obtain rfl : k = l.length := by omega
      have hE : E = z0.length := by rw [← HEN.out, HE.out]
      subst hE
      have hW := below_trans HB1.out hU.1 HB1.out.size
      go_wp2_with (go_at_call 9; (with_reducible refine (HAL.out _).mono ?_); rintro e u5 ⟨rfl, hb5⟩)
      go_ret
      exact ⟨rfl, below_trans hW hb5 hW.size⟩

set_option maxRecDepth 100000 in
theorem lifted (os : Os) (started : os.Started) (H : Type) (enc : TypeId × Value → H) :
    ReturnsInHanded {} Try.checked os 6 .any (Rows.baseCoversSpec.pre6 enc Try.prog Try.f6 Rows.baseCoversRow.domain false) (Rows.baseCoversSpec.post enc Try.prog Try.f6 false true false false) := by
  refine returnsInHanded_of_change (C := Try.checked) own started (by kernel_rfl) Try.func6
    (ChangeSpec.witness6 (enc := enc) (C := Try.checked) false ⟨#[], #[.slice none 0 0], []⟩ 8 (by kernel_rfl) (by kernel_rfl) (by kernel_rfl) (by kernel_rfl)) ?_
  intro W base args ds gs before hval0 hW hcnd _
  have hval : ∀ (j : Nat) t v, Try.f6.params[j]? = some t → args[j]? = some v → Value.okWide Try.prog W .any base t v := hval0
  have hW' := hW
  obtain ⟨p, q, hA0, hV, rfl, hfz, hnd⟩ := hW
  have hA : DataW.TrodAll enc Try.prog W 0 (fun _ => true) true Try.f6.params.toList args.toList ds p := hA0
  rw [Try.params6] at hA hval
  obtain ⟨v0, vs0, d0, ds0, p0, q0, hargs, rfl, rfl, h0, r0⟩ := trodAll_cons hA
  obtain ⟨rfl, rfl, rfl⟩ := trodAll_nil r0
  obtain rfl : args = #[v0] := by cases args; simp_all
  obtain ⟨rfl, rfl⟩ := trodVars_none hV
  clear hA0 hval0
  have hlt : ∀ x ∈ p0 ++ [], x.block < W.heap.size := fun x hx => by simpa using hW'.lt x (List.mem_append_left _ hx)
  have k0 := h0
  obtain ⟨A0, l0, c0, rfl⟩ := okWide_slice Try.underlying22 (hval 0 22 v0 rfl rfl)
  obtain ⟨z0, rfl, n0, m0, w0, hh0⟩ := has_ints Try.underlying22 Try.underlying21 (by kernel_rfl) h0 (fun x hx => hlt x (List.mem_append_left _ hx))
  refine (walk A0 c0 z0 W n0 m0 w0 hh0).mono fun e W' ⟨he, hb⟩ => ?_
  subst he
  exact ⟨_, rfl, _, _, _, [], _, [], hW', (trodAll_cons_mk (shut_bool Try.underlying4 _) trodAll_mk0), (trodAll_cons_mk (Below.trod laidOut (by kernel_rfl) (of_decide_eq_true (by kernel_rfl)) k0 hb (fun x hx => hlt x (List.mem_append_left _ hx))) trodAll_mk0), rfl, hb.frame _, fun h => by cases h⟩

theorem over : Rows.baseCoversRow.holds Try.pinned (OpenSpec.ofChange Rows.baseCoversSpec) :=
  OpenClaim.holds_of_wide 6 Try.f6 rfl rfl rfl rfl rfl rfl rfl ⟨rfl, rfl, rfl, rfl, rfl⟩ rfl rfl rfl rfl rfl (by kernel_rfl) Try.func6 (by kernel_rfl)
    (of_decide_eq_true (by kernel_rfl)) (by unfold Func.isWrapper; first | (rw [if_pos (by decide +kernel)]; kernel_rfl) | (rw [if_neg (by decide +kernel)]; exact ⟨rfl, rfl⟩))
    (fun os started H enc _ => lifted os started H enc)

/-- the statement -/
theorem proved : Rows.BaseCoversSaid :=
  over
#print axioms proved
end Go.Proofs.Ytneiifjihgbacaa.baseCovers
