/-
  For every []int, every int and every two ends the statement NeutralStays returns true: behind Neutral no class is neutral, once more nothing changes, a class that was not neutral is as it was and a neutral one is L or R. No condition.
-/
import Derived.Test.YtfjmcfcaphodgaaHas
import Derived.Test.YtfjmcfcaphodgaaHas
import Derived.Test.YtfjmcfcaphodgaaNel
import Derived.Test.YtfjmcfcaphodgaaNen
set_option linter.unusedVariables false
namespace Go.Proofs.Ytfjmcfcaphodgaa.neutralStays
open Go.ChangeShapes Go.WideShapes Go.ChangeAt Go.RowKit Go.Proofs.Ytfjmcfcaphodgaa
theorem own : ownKnob Try.prog.godebug = none := by kernel_rfl
theorem laidOut : laidOutB Try.prog = true := by kernel_rfl
theorem pair23 : Go.WideMaps.ArrKey Try.prog 23 3 2 := ⟨Try.underlying23, by kernel_rfl, by kernel_rfl, by kernel_rfl⟩

theorem nu_at (cs : List Int) (level s e : Int) (i : Nat) (hi : i < cs.length) (R : List Int) (hR : nuL cs level s e = R) : ∃ y, R[i]? = some y ∧ neuC y = false ∧ (neuC (cs.getD i 0) = false → y = cs.getD i 0) ∧ (neuC (cs.getD i 0) = true → y = 1 ∨ y = 2) := by
  subst hR
  refine ⟨nuAt cs level s e i, ?_, nu_none cs level s e i, fun h => ?_, fun h => ?_⟩
  · rw [List.getElem?_eq_getElem (by rw [nu_len]; exact hi), nu_get]
  · rcases nu_cases cs level s e i with ⟨h1, _⟩ | ⟨_, h1⟩
    · rw [h] at h1; cases h1
    · exact h1
  · rcases nu_cases cs level s e i with ⟨_, h1⟩ | ⟨h1, _⟩
    · exact h1
    · rw [h] at h1; cases h1

set_option maxHeartbeats 8000000 in
theorem walk (A0 : Option Addr) (c0 : Nat) (z0 : List Int) (a1 : Int) (a2 b2 : Int) (w : World) (n0 : z0.length ≤ 9223372036854775807) (m0 : z0.length ≤ c0) (w0 : ∀ z ∈ z0, (Lit.int .i64 z).wf = true) (h0 : Has w w.heap.size A0 (z0.map (Value.int .i64))) (w1 : (Lit.int .i64 a1).wf = true) (w2 : (Lit.int .i64 a2).wf = true) (u2 : (Lit.int .i64 b2).wf = true) :
    Calls Try.prog 4 #[.slice A0 z0.length c0, .int .i64 a1, .agg #[.int .i64 a2, .int .i64 b2]] w fun e w' => e = .returned (.bool true) ∧ Below w.heap.size w w' := by
  have HAL := Lib.hid (fun w => alive_ok w)
  have hb0 : Below w.heap.size w (w.alloc (.cells #[.int .i64 a2, .int .i64 b2] 23)) := (Below.refl _ _).alloc (Nat.le_refl _) _
  by_cases hl : 200 < z0.length
  · have d0 : decide ((200 : Int) < (z0.length : Int)) = true := decide_eq_true (by omega)
    clear w0 m0 h0 w1 w2 u2
    go_enter Try.func4, Try.ntmps4
    go_wp2_with (go_at_call 7; (with_reducible refine (HAL.out _).mono ?_); rintro e u ⟨rfl, hb⟩)
    go_ret
    exact ⟨rfl, below_trans hb0 hb hb0.size⟩
  have d0 : decide ((200 : Int) < (z0.length : Int)) = false := decide_eq_false (by omega)
  have HA := Lib.hid (fun W h => neutral_ok A0 z0.length c0 a1 a2 b2 z0 W rfl (by omega) h)
  have HA2 := Lib.hid (fun A c R W (hR : R.length = z0.length) h => neutral_ok A z0.length c a1 a2 b2 R W hR.symm (by omega) h)
  have HP := Lib.hid (fun i hi R hR => nu_at z0 a1 a2 b2 i hi R hR)
  have HT := Lib.hid (nu_twice z0 a1 a2 b2)
  have HL := Lib.hid (nu_len z0 a1 a2 b2)
  have H0 := Lib.hid (h0.carry hb0)
  have HB0 := Lib.hid hb0
  have HN1 := Lib.hid (fun c W => neutral1_ok c W)
  obtain ⟨R, hR⟩ : ∃ R, nuL z0 a1 a2 b2 = R := ⟨_, rfl⟩
  have HRR := Lib.hid hR
  rw [hR] at HA HL HT
  obtain ⟨n, hn⟩ : ∃ n, z0.length = n := ⟨_, rfl⟩
  rw [hn] at d0 HA HA2 HL m0 n0 hl HP
  have hn2 : n ≤ 200 := by omega
  have HN := Lib.hid hn
  have HIN := Lib.hid (fun A B c d W h1 h2 => ints_ok A B c d n R W HL.out.symm (by omega) h1 h2)
  have HA3 := Lib.hid (fun A c W h => HA2.out A c R W HL.out h)
  rw [HT.out] at HA3
  rw [hn]
  have c0x : (w.alloc (.cells #[.int .i64 a2, .int .i64 b2] 23)).cell? ⟨w.heap.size, 0, none⟩ = some (.int .i64 a2) := (at_new w _ 23).cell 0 _ rfl
  have c1x : (w.alloc (.cells #[.int .i64 a2, .int .i64 b2] 23)).cell? ⟨w.heap.size, 1, none⟩ = some (.int .i64 b2) := (at_new w _ 23).cell 1 _ rfl
  clear w0 w1 w2 u2 hR h0 hn m0 n0 hl hb0 HA2 HT
  go_enter Try.func4, Try.ntmps4
  go_wp2_with (first
    | (go_at_call 9; (with_reducible refine (HA.out _ H0.out).mono ?_); rintro e u1 ⟨v, rfl, hm, hb1⟩; obtain ⟨A5, c5, rfl, hc5, _, hh5⟩ := hm.size; rw [HL.out] at hc5 hm ⊢; have d0x := (hb1.cell (p := ⟨w.heap.size, 0, none⟩) (by simp)).trans c0x; have d1x := (hb1.cell (p := ⟨w.heap.size, 1, none⟩) (by simp)).trans c1x; have HU1 := Lib.hid (And.intro hh5 hb1); clear hm hh5 hb1 HA c0x c1x)
    | (go_at_call 9; (with_reducible refine (HA3.out A5 c5 _ HU1.out.1).mono ?_); rintro e u2 ⟨v, rfl, hm, hb2⟩; obtain ⟨A6, c6, rfl, hc6, _, hh6⟩ := hm.size; rw [HL.out] at hc6 hm ⊢; have h52 := HU1.out.1.carry hb2; clear hm)
    | (go_at_call 8; (with_reducible refine (HIN.out A6 A5 c6 c5 _ hh6 h52).mono ?_); rintro e u3 ⟨rfl, q, rfl⟩))
  have HB2 := Lib.hid (below_drewN (below_trans (below_trans HB0.out HU1.out.2 HB0.out.size) hb2 (below_trans HB0.out HU1.out.2 HB0.out.size).size) q)
  have HZ := Lib.hid (And.intro (((H0.out.carry HU1.out.2).carry hb2).carry (below_drewN (Below.refl _ u2) q)) (h52.carry (below_drewN (Below.refl _ u2) q)))
  obtain ⟨W3, hW3⟩ : ∃ W3, u2.drewN q = W3 := ⟨_, rfl⟩
  rw [hW3] at HB2 HZ
  simp only [hW3]
  clear hW3 hh6 h52 hc6 hb2 d0x d1x HU1 HIN HA3 H0 HB0
  go_loopw [8] (fun v wr => ∃ i : Nat, i ≤ n ∧ v = .int .i64 i ∧ ∃ q, wr = W3.drewN q) (fun v _ => n - (intOf v).toNat)
  case atStart => exact ⟨0, by omega, rfl, 0, rfl⟩
  case round =>
    obtain ⟨i, hin, rfl, q2, rfl⟩ := hrel
    obtain ⟨WR, hWR⟩ : ∃ WR, W3.drewN q2 = WR := ⟨_, rfl⟩
    have HX := Lib.hid (And.intro (HZ.out.1.carry (below_drewN (Below.refl _ W3) q2)) (HZ.out.2.carry (below_drewN (Below.refl _ W3) q2)))
    have HQ : Hid (∀ k, ∃ q, WR.drewN k = W3.drewN q) := Lib.hid fun k => ⟨q2 + k, by rw [← hWR]; simp [World.drewN, Nat.add_assoc]⟩
    have HWR := Lib.hid hWR
    rw [hWR] at HX ⊢
    clear hWR
    by_cases hlt : i < n
    · have hz : i < z0.length := by rw [HN.out]; exact hlt
      obtain ⟨y, hy, hyn, hyx, hyy⟩ := HP.out i hlt R HRR.out
      have hr : i < R.length := by rw [HL.out]; exact hlt
      obtain ⟨b0, o0, rfl, hb0, hc0⟩ := HX.out.1.at_int hz
      obtain ⟨b5, o5, rfl, hb5, hc5x⟩ := HX.out.2.at_int hr
      have hgd : z0[i] = z0.getD i 0 := by rw [List.getD_eq_getElem?_getD, List.getElem?_eq_getElem hz]; rfl
      rw [List.getElem?_eq_getElem hr] at hy
      injection hy with hy
      rw [hy] at hc5x
      rw [hgd] at hc0
      generalize z0.getD i 0 = x at *
      clear hgd hy hz hr hb0 hb5
      have NX := fun W => (HN1.out x W).mono fun _ _ ⟨a, b⟩ => And.intro a b.symm
      have NY := fun W => (HN1.out y W).mono fun _ _ ⟨a, b⟩ => And.intro a b.symm
      rw [hyn] at NY
      cases hx : neuC x with
      | false =>
        have := hyx hx
        subst this
        rw [hx] at NX
        have HNX := Lib.hid NX
        clear hyx hyy hyn hx NX NY
        go_wp2
        go_quiet (first | (go_at_call 13; refine Calls.quiet_of_same (HNX.out _)))
        go_wp2
        go_roundw
        case rel => exact ⟨i + 1, by omega, by go_num, HQ.out _⟩
        case measure => simp [intOf] <;> omega
      | true =>
        rw [hx] at NX
        have HNX := Lib.hid NX
        have HNY := Lib.hid NY
        rcases hyy hx with h1 | h1
        · subst h1
          clear hyx hyy hyn hx NX NY
          go_wp2
          go_quiet (first | (go_at_call 13; (with_reducible refine Calls.quiet_of_same (HNY.out _))) | (go_at_call 13; (with_reducible refine Calls.quiet_of_same (HNX.out _))))
          go_wp2
          go_roundw
          case rel => exact ⟨i + 1, by omega, by go_num, HQ.out _⟩
          case measure => simp [intOf] <;> omega
        · subst h1
          clear hyx hyy hyn hx NX NY
          go_wp2
          go_quiet (first | (go_at_call 13; (with_reducible refine Calls.quiet_of_same (HNY.out _))) | (go_at_call 13; (with_reducible refine Calls.quiet_of_same (HNX.out _))))
          go_wp2
          go_roundw
          case rel => exact ⟨i + 1, by omega, by go_num, HQ.out _⟩
          case measure => simp [intOf] <;> omega
    · obtain rfl : i = n := by omega
      go_wp2_with (go_at_call 7; (with_reducible refine (HAL.out _).mono ?_); rintro e u5 ⟨rfl, hb5⟩)
      go_ret
      have B3 := HB2.out.trans ((below_drewN (Below.refl W3.heap.size W3) q2).mono HB2.out.size)
      rw [HWR.out] at B3
      exact ⟨rfl, below_trans B3 hb5 B3.size⟩

set_option maxRecDepth 100000 in
theorem lifted (os : Os) (started : os.Started) (H : Type) (enc : TypeId × Value → H) :
    ReturnsInHanded {} Try.checked os 4 .any (Rows.neutralStaysSpec.pre6 enc Try.prog Try.f4 Rows.neutralStaysRow.domain false) (Rows.neutralStaysSpec.post enc Try.prog Try.f4 false true false false) := by
  refine returnsInHanded_of_change (C := Try.checked) own started (by kernel_rfl) Try.func4
    (ChangeSpec.witness6 (enc := enc) (C := Try.checked) false ⟨#[], #[.slice none 0 0, .int .i64 0, .agg #[.int .i64 0, .int .i64 0]], []⟩ 8 (by kernel_rfl) (by kernel_rfl) (by kernel_rfl) (by kernel_rfl)) ?_
  intro W base args ds gs before hval0 hW hcnd _
  have hval : ∀ (j : Nat) t v, Try.f4.params[j]? = some t → args[j]? = some v → Value.okWide Try.prog W .any base t v := hval0
  have hW' := hW
  obtain ⟨p, q, hA0, hV, rfl, hfz, hnd⟩ := hW
  have hA : DataW.TrodAll enc Try.prog W 0 (fun _ => true) true Try.f4.params.toList args.toList ds p := hA0
  rw [Try.params4] at hA hval
  obtain ⟨v0, vs0, d0, ds0, p0, q0, hargs, rfl, rfl, h0, r0⟩ := trodAll_cons hA
  obtain ⟨v1, vs1, d1, ds1, p1, q1, rfl, rfl, rfl, h1, r1⟩ := trodAll_cons r0
  obtain ⟨v2, vs2, d2, ds2, p2, q2, rfl, rfl, rfl, h2, r2⟩ := trodAll_cons r1
  obtain ⟨rfl, rfl, rfl⟩ := trodAll_nil r2
  obtain rfl : args = #[v0, v1, v2] := by cases args; simp_all
  obtain ⟨rfl, rfl⟩ := trodVars_none hV
  clear hA0 hval0
  have hlt : ∀ x ∈ p0 ++ (p1 ++ (p2 ++ [])), x.block < W.heap.size := fun x hx => by simpa using hW'.lt x (List.mem_append_left _ hx)
  have k0 := h0
  have k1 := h1
  have k2 := h2
  obtain ⟨A0, l0, c0, rfl⟩ := okWide_slice Try.underlying22 (hval 0 22 v0 rfl rfl)
  obtain ⟨z0, rfl, n0, m0, w0, hh0⟩ := has_ints Try.underlying22 Try.underlying3 (by kernel_rfl) h0 (fun x hx => hlt x (List.mem_append_left _ hx))
  obtain ⟨a1, rfl, rfl, rfl, w1⟩ := open_int Try.underlying3 (hval 1 3 v1 rfl rfl) h1
  obtain ⟨a2, b2, rfl, rfl, rfl, w2, u2⟩ := Go.WideMaps.open_pair pair23 Try.underlying3 (hval 2 23 v2 rfl rfl) h2
  refine (walk A0 c0 z0 a1 a2 b2 W n0 m0 w0 hh0 w1 w2 u2).mono fun e W' ⟨he, hb⟩ => ?_
  subst he
  exact ⟨_, rfl, _, _, _, [], _, [], hW', (trodAll_cons_mk (shut_bool Try.underlying4 _) trodAll_mk0), (trodAll_cons_mk (Below.trod laidOut (by kernel_rfl) (of_decide_eq_true (by kernel_rfl)) k0 hb (fun x hx => hlt x (List.mem_append_left _ hx))) (trodAll_cons_mk (Below.trod laidOut (by kernel_rfl) (of_decide_eq_true (by kernel_rfl)) k1 hb (fun x hx => hlt x (List.mem_append_right _ (List.mem_append_left _ hx)))) (trodAll_cons_mk (Below.trod laidOut (by kernel_rfl) (of_decide_eq_true (by kernel_rfl)) k2 hb (fun x hx => hlt x (List.mem_append_right _ (List.mem_append_right _ (List.mem_append_left _ hx))))) trodAll_mk0))), rfl, hb.frame _, fun h => by cases h⟩

theorem over : Rows.neutralStaysRow.holds Try.pinned (OpenSpec.ofChange Rows.neutralStaysSpec) :=
  OpenClaim.holds_of_wide 4 Try.f4 rfl rfl rfl rfl rfl rfl rfl ⟨rfl, rfl, rfl, rfl, rfl⟩ rfl rfl rfl rfl rfl (by kernel_rfl) Try.func4 (by kernel_rfl)
    (of_decide_eq_true (by kernel_rfl)) (by unfold Func.isWrapper; first | (rw [if_pos (by decide +kernel)]; kernel_rfl) | (rw [if_neg (by decide +kernel)]; exact ⟨rfl, rfl⟩))
    (fun os started H enc _ => lifted os started H enc)

/-- the statement -/
theorem proved : Rows.NeutralStaysSaid :=
  over
#print axioms proved
end Go.Proofs.Ytfjmcfcaphodgaa.neutralStays
