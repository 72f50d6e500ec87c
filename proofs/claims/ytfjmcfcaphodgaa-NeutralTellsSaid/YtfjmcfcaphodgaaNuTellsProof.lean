/-
  For every []int, every int and every two ends the statement NeutralTells returns true: Neutral and Embed answer as the document's answers do. No condition.
-/
import Derived.Test.YtfjmcfcaphodgaaHas
import Derived.Test.YtfjmcfcaphodgaaHas
import Derived.Test.YtfjmcfcaphodgaaNel
import Derived.Test.YtfjmcfcaphodgaaNer
set_option linter.unusedVariables false
namespace Go.Proofs.Ytfjmcfcaphodgaa.neutralTells
open Go.ChangeShapes Go.WideShapes Go.ChangeAt Go.RowKit Go.Proofs.Ytfjmcfcaphodgaa
theorem own : ownKnob Try.prog.godebug = none := by kernel_rfl
theorem laidOut : laidOutB Try.prog = true := by kernel_rfl
theorem pair23 : Go.WideMaps.ArrKey Try.prog 23 3 2 := ⟨Try.underlying23, by kernel_rfl, by kernel_rfl, by kernel_rfl⟩

set_option maxHeartbeats 8000000 in
theorem walk (A0 : Option Addr) (c0 : Nat) (z0 : List Int) (a1 : Int) (a2 b2 : Int) (w : World) (n0 : z0.length ≤ 9223372036854775807) (m0 : z0.length ≤ c0) (w0 : ∀ z ∈ z0, (Lit.int .i64 z).wf = true) (h0 : Has w w.heap.size A0 (z0.map (Value.int .i64))) (w1 : (Lit.int .i64 a1).wf = true) (w2 : (Lit.int .i64 a2).wf = true) (u2 : (Lit.int .i64 b2).wf = true) :
    Calls Try.prog 3 #[.slice A0 z0.length c0, .int .i64 a1, .agg #[.int .i64 a2, .int .i64 b2]] w fun e w' => e = .returned (.bool true) ∧ Below w.heap.size w w' := by
  have HAL := Lib.hid (fun w => alive_ok w)
  have hb0 : Below w.heap.size w (w.alloc (.cells #[.int .i64 a2, .int .i64 b2] 23)) := (Below.refl _ _).alloc (Nat.le_refl _) _
  by_cases hl : 200 < z0.length
  · have d0 : decide ((200 : Int) < (z0.length : Int)) = true := decide_eq_true (by omega)
    clear w0 m0 h0 w1 w2 u2
    go_enter Try.func3, Try.ntmps3
    go_wp2_with (go_at_call 7; (with_reducible refine (HAL.out _).mono ?_); rintro e u ⟨rfl, hb⟩)
    go_ret
    exact ⟨rfl, below_trans hb0 hb hb0.size⟩
  have d0 : decide ((200 : Int) < (z0.length : Int)) = false := decide_eq_false (by omega)
  have HA := Lib.hid (fun W h => neutral_ok A0 z0.length c0 a1 a2 b2 z0 W rfl (by omega) h)
  have HR := Lib.hid (fun W h => rneutral_ok A0 z0.length c0 a1 a2 b2 z0 W rfl (by omega) h)
  have HL := Lib.hid (nu_len z0 a1 a2 b2)
  have hs := h0.carry hb0
  have HE1 := Lib.hid (fun W => embed_ok a1 W)
  have HE2 := Lib.hid (fun W => rembed_ok a1 W)
  generalize embN a1 = E at *
  generalize nuL z0 a1 a2 b2 = R at *
  obtain ⟨n, hn⟩ : ∃ n, z0.length = n := ⟨_, rfl⟩
  rw [hn] at d0 HA HR HL m0 n0 hl
  have hn2 : n ≤ 200 := by omega
  have HIN := Lib.hid (fun A B c d W h1 h2 => ints_ok A B c d n R W HL.out.symm (by omega) h1 h2)
  rw [hn]
  have c0x : (w.alloc (.cells #[.int .i64 a2, .int .i64 b2] 23)).cell? ⟨w.heap.size, 0, none⟩ = some (.int .i64 a2) := (at_new w _ 23).cell 0 _ rfl
  have c1x : (w.alloc (.cells #[.int .i64 a2, .int .i64 b2] 23)).cell? ⟨w.heap.size, 1, none⟩ = some (.int .i64 b2) := (at_new w _ 23).cell 1 _ rfl
  have hg : w.heap.size < (w.alloc (.cells #[.int .i64 a2, .int .i64 b2] 23)).heap.size := by simp
  clear w0 w1 w2 u2 h0 hn m0 n0 hl
  go_enter Try.func3, Try.ntmps3
  go_wp2
  obtain ⟨W0, hW0⟩ : ∃ W0, w.alloc (.cells #[.int .i64 a2, .int .i64 b2] 23) = W0 := ⟨_, rfl⟩
  rw [hW0] at hb0 hs c0x c1x hg
  simp only [hW0]
  clear hW0
  have hbd : Below W0.heap.size W0 W0.drew := (Below.refl _ _).drew
  have HB0 := Lib.hid hb0
  clear hb0
  go_region_held3 (fun w' => w'.cell? ⟨w.heap.size, 0, none⟩ = some (.int .i64 a2) ∧ w'.cell? ⟨w.heap.size, 1, none⟩ = some (.int .i64 b2))
    (first
      | go_keep
      | exact ⟨(hbL.cell (p := ⟨w.heap.size, 0, none⟩) hg).trans c0x, (hbL.cell (p := ⟨w.heap.size, 1, none⟩) hg).trans c1x⟩
      | exact ⟨(hbZ.cell (p := ⟨w.heap.size, 0, none⟩) hg).trans c0x, (hbZ.cell (p := ⟨w.heap.size, 1, none⟩) hg).trans c1x⟩
      | exact ⟨(hbY.cell (p := ⟨w.heap.size, 0, none⟩) hg).trans c0x, (hbY.cell (p := ⟨w.heap.size, 1, none⟩) hg).trans c1x⟩
      | exact ⟨(hbX.cell (p := ⟨w.heap.size, 0, none⟩) hg).trans c0x, (hbX.cell (p := ⟨w.heap.size, 1, none⟩) hg).trans c1x⟩)
    (first
      | (go_at_call 9; refine (HA.out _ (hs.carry hbd)).mono ?_; rintro e wX ⟨v, rfl, hmX, hbX0⟩; obtain ⟨AX, cX, rfl, _, _, hsX⟩ := hmX.size; rw [HL.out]; have hbX := below_trans hbd hbX0 hbd.size)
      | (go_at_call 9; refine (HA.out _ (hs.carry hbY)).mono ?_; rintro e wX ⟨v, rfl, hmX, hbX0⟩; obtain ⟨AX, cX, rfl, _, _, hsX⟩ := hmX.size; rw [HL.out]; have hbX := below_trans hbY hbX0 hbY.size; have hsY2 := hsY.carry hbX0)
      | (go_at_call 10; refine (HR.out _ (hs.carry hbd)).mono ?_; rintro e wY ⟨v, rfl, hmY, hbY0⟩; obtain ⟨AY, cY, rfl, _, _, hsY⟩ := hmY.size; rw [HL.out]; have hbY := below_trans hbd hbY0 hbd.size)
      | (go_at_call 10; refine (HR.out _ (hs.carry hbX)).mono ?_; rintro e wY ⟨v, rfl, hmY, hbY0⟩; obtain ⟨AY, cY, rfl, _, _, hsY⟩ := hmY.size; rw [HL.out]; have hbY := below_trans hbX hbY0 hbX.size; have hsX2 := hsX.carry hbY0)
      | (go_at_call 8; refine (HIN.out AX AY cX cY _ hsX2 hsY).mono ?_; rintro e wZ ⟨rfl, q, rfl⟩; have hbZ := below_drewN hbY q)
      | (go_at_call 8; refine (HIN.out AX AY cX cY _ hsX hsY2).mono ?_; rintro e wZ ⟨rfl, q, rfl⟩; have hbZ := below_drewN hbX q)
      | (go_at_call 11; (with_reducible refine (HE1.out _).mono ?_); rintro e wE ⟨rfl, rfl⟩)
      | (go_at_call 12; (with_reducible refine (HE2.out _).mono ?_); rintro e wE ⟨rfl, rfl⟩)
      | (go_at_call 7; (with_reducible refine (HAL.out _).mono ?_); rintro e wL ⟨rfl, hbL0⟩; have hbL := below_trans hbZ hbL0 hbZ.size))
  all_goals go_wp2
  all_goals go_ret
  all_goals exact ⟨rfl, below_trans HB0.out hbL HB0.out.size⟩

set_option maxRecDepth 100000 in
theorem lifted (os : Os) (started : os.Started) (H : Type) (enc : TypeId × Value → H) :
    ReturnsInHanded {} Try.checked os 3 .any (Rows.neutralTellsSpec.pre6 enc Try.prog Try.f3 Rows.neutralTellsRow.domain false) (Rows.neutralTellsSpec.post enc Try.prog Try.f3 false true false false) := by
  refine returnsInHanded_of_change (C := Try.checked) own started (by kernel_rfl) Try.func3
    (ChangeSpec.witness6 (enc := enc) (C := Try.checked) false ⟨#[], #[.slice none 0 0, .int .i64 0, .agg #[.int .i64 0, .int .i64 0]], []⟩ 8 (by kernel_rfl) (by kernel_rfl) (by kernel_rfl) (by kernel_rfl)) ?_
  intro W base args ds gs before hval0 hW hcnd _
  have hval : ∀ (j : Nat) t v, Try.f3.params[j]? = some t → args[j]? = some v → Value.okWide Try.prog W .any base t v := hval0
  have hW' := hW
  obtain ⟨p, q, hA0, hV, rfl, hfz, hnd⟩ := hW
  have hA : DataW.TrodAll enc Try.prog W 0 (fun _ => true) true Try.f3.params.toList args.toList ds p := hA0
  rw [Try.params3] at hA hval
  obtain ⟨v0, vs0, d0, ds0, p0, q0, hargs, rfl, rfl, h0, r0⟩ := trodAll_cons hA
  obtain ⟨v1, vs1, d1, ds1, p1, q1, rfl, rfl, rfl, h1, r1⟩ := trodAll_cons r0
  obtain ⟨v2, vs2, d2, ds2, p2, q2, rfl, rfl, rfl, h2, r2⟩ := trodAll_cons r1
  obtain ⟨rfl, rfl, rfl⟩ := trodAll_nil r2
  obtain rfl : args = #[v0, v1, v2] := by cases args; simp_all
  obtain ⟨rfl, rfl⟩ := trodVars_none hV
  clear hA0 hval0
  have hlt : ∀ x ∈ p0 ++ (p1 ++ (p2 ++ [])), x.block < W.heap.size := fun x hx => by simpa using hW'.lt x (List.mem_append_left _ hx)
  have k0 := h0
  have k1 := h1
  have k2 := h2
  obtain ⟨A0, l0, c0, rfl⟩ := okWide_slice Try.underlying22 (hval 0 22 v0 rfl rfl)
  obtain ⟨z0, rfl, n0, m0, w0, hh0⟩ := has_ints Try.underlying22 Try.underlying3 (by kernel_rfl) h0 (fun x hx => hlt x (List.mem_append_left _ hx))
  obtain ⟨a1, rfl, rfl, rfl, w1⟩ := open_int Try.underlying3 (hval 1 3 v1 rfl rfl) h1
  obtain ⟨a2, b2, rfl, rfl, rfl, w2, u2⟩ := Go.WideMaps.open_pair pair23 Try.underlying3 (hval 2 23 v2 rfl rfl) h2
  refine (walk A0 c0 z0 a1 a2 b2 W n0 m0 w0 hh0 w1 w2 u2).mono fun e W' ⟨he, hb⟩ => ?_
  subst he
  exact ⟨_, rfl, _, _, _, [], _, [], hW', (trodAll_cons_mk (shut_bool Try.underlying4 _) trodAll_mk0), (trodAll_cons_mk (Below.trod laidOut (by kernel_rfl) (of_decide_eq_true (by kernel_rfl)) k0 hb (fun x hx => hlt x (List.mem_append_left _ hx))) (trodAll_cons_mk (Below.trod laidOut (by kernel_rfl) (of_decide_eq_true (by kernel_rfl)) k1 hb (fun x hx => hlt x (List.mem_append_right _ (List.mem_append_left _ hx)))) (trodAll_cons_mk (Below.trod laidOut (by kernel_rfl) (of_decide_eq_true (by kernel_rfl)) k2 hb (fun x hx => hlt x (List.mem_append_right _ (List.mem_append_right _ (List.mem_append_left _ hx))))) trodAll_mk0))), rfl, hb.frame _, fun h => by cases h⟩

theorem over : Rows.neutralTellsRow.holds Try.pinned (OpenSpec.ofChange Rows.neutralTellsSpec) :=
  OpenClaim.holds_of_wide 3 Try.f3 rfl rfl rfl rfl rfl rfl rfl ⟨rfl, rfl, rfl, rfl, rfl⟩ rfl rfl rfl rfl rfl (by kernel_rfl) Try.func3 (by kernel_rfl)
    (of_decide_eq_true (by kernel_rfl)) (by unfold Func.isWrapper; first | (rw [if_pos (by decide +kernel)]; kernel_rfl) | (rw [if_neg (by decide +kernel)]; exact ⟨rfl, rfl⟩))
    (fun os started H enc _ => lifted os started H enc)

/-- the statement -/
theorem proved : Rows.NeutralTellsSaid :=
  over
#print axioms proved
end Go.Proofs.Ytfjmcfcaphodgaa.neutralTells
