/-
  For every []rune t the statement GraphemeCuts returns true: the clusters, their number and the boundaries are the document's. No condition.
-/
import Derived.Test.YtnpdampaimllpaaHas
import Derived.Test.YtnpdampaimllpaaAlive
set_option linter.unusedVariables false
namespace Go.Proofs.Ytnpdampaimllpaa.graphemeCuts
open Go.ChangeShapes Go.WideShapes Go.ChangeAt Go.RowKit Go.Proofs.Ytnpdampaimllpaa
theorem own : ownKnob Try.prog.godebug = none := by kernel_rfl
theorem laidOut : laidOutB Try.prog = true := by kernel_rfl

theorem neC_run (a b : Nat) (w : World) : (binOp .neq 31 (.agg #[.int .i64 a, .int .i64 b]) (.agg #[.int .i64 a, .int .i64 b])).run Try.prog w = .ok (.bool false) w := by
  simp [go_sem]

set_option maxHeartbeats 4000000 in
theorem walk (A0 : Option Addr) (c0 : Nat) (z0 : List Int) (w : World) (n0 : z0.length ≤ 9223372036854775807) (m0 : z0.length ≤ c0) (w0 : ∀ z ∈ z0, (Lit.int .i32 z).wf = true) (h0 : Has w w.heap.size A0 (z0.map (Value.int .i32))) :
    Calls Try.prog 3 #[.slice A0 z0.length c0] w fun e w' => e = .returned (.bool true) ∧ Below w.heap.size w w' := by
  by_cases hl : 200 < z0.length
  · clear w0 m0 h0
    go_enter Try.func3, Try.ntmps3
    go_wp2_with (go_at_call 8; refine (alive_ok _).mono ?_; rintro e u ⟨rfl, hu⟩)
    go_ret
    exact ⟨rfl, hu⟩
  have hn : z0.length ≤ 200 := by omega
  have H9 := Lib.hid (fun w h => cuts_ok A0 c0 z0 w (by omega) m0 h)
  have H10 := Lib.hid (fun w h => rcuts_ok A0 c0 z0 w (by omega) m0 h)
  have H11 := Lib.hid (fun w h => count_ok A0 c0 z0 w (by omega) m0 h)
  have H12 := Lib.hid (fun w h => rcount_ok A0 c0 z0 w (by omega) m0 h)
  have H14 := Lib.hid (fun w h => bounds_ok A0 c0 z0 w (by omega) m0 h)
  have H15 := Lib.hid (fun w h => rbounds_ok A0 c0 z0 w (by omega) m0 h)
  have hbn : (bnds (cls z0)).length ≤ 1001 := by have := Bs_len (cls z0) ((cls z0).length + 1); have := cls_len z0; unfold bnds; omega
  have hcn : (cutsL (cls z0)).length ≤ 1001 := by rw [count_len]; omega
  generalize bnds (cls z0) = bl at *
  generalize cutsL (cls z0) = cs at *
  have hzl := zb_len bl
  generalize zb bl = zs at *
  have hz2 : zs.length ≤ 1000000 := by omega
  have hlb : decide (200 < (z0.length : Int)) = false := decide_eq_false (by omega)
  clear w0 m0 n0 hzl hbn
  go_enter Try.func3, Try.ntmps3
  go_wp2_with (first
    | (go_at_call 9; (with_reducible refine (H9.out _ h0).mono ?_); rintro e u1 ⟨v1, rfl, A1, c1, rfl, _, hc1, hb1⟩; have g1 := h0.carry hb1)
    | (go_at_call 10; (with_reducible refine (H10.out _ g1).mono ?_); rintro e u2 ⟨v2, rfl, A2, c2, rfl, _, hc2, hb2⟩; have g2 := g1.carry hb2; have B2 := below_trans hb1 hb2 hb1.size; have hc1 := hc1.carry hb2)
    | (go_at_call 11; (with_reducible refine (H11.out _ g2).mono ?_); rintro e u3 ⟨rfl, hb3⟩; have g3 := g2.carry hb3; have B3 := below_trans B2 hb3 B2.size; have hc1 := hc1.carry hb3; have hc2 := hc2.carry hb3)
    | (go_at_call 12; (with_reducible refine (H12.out _ g3).mono ?_); rintro e u4 ⟨rfl, hb4⟩; have g4 := g3.carry hb4; have B4 := below_trans B3 hb4 B3.size; have hc1 := hc1.carry hb4; have hc2 := hc2.carry hb4)
    | (go_at_call 14; (with_reducible refine (H14.out _ g4).mono ?_); rintro e u5 ⟨v5, rfl, A5, c5, rfl, _, hn5, hb5⟩; have g5 := g4.carry hb5; have B5 := below_trans B4 hb5 B4.size; have hc1 := hc1.carry hb5; have hc2 := hc2.carry hb5)
    | (go_at_call 15; (with_reducible refine (H15.out _ g5).mono ?_); rintro e u6 ⟨v6, rfl, A6, c6, rfl, _, hn6, hb6⟩; have g6 := g5.carry hb6; have B6 := below_trans B5 hb6 B5.size; have hc1 := hc1.carry hb6; have hc2 := hc2.carry hb6; have hn5 := hn5.carry hb6)
    | (go_at_call 13; refine (numbers_ok A5 A6 c5 c6 zs.length zs _ rfl hz2 hn5 hn6).mono ?_; rintro e u7 ⟨rfl, hb7⟩; have B7 := below_trans B6 hb7 B6.size; have hc1 := hc1.carry hb7; have hc2 := hc2.carry hb7))
  clear g1 g2 g3 g4 g5 g6 hb1 hb2 hb3 hb4 hb5 hb6 hb7 B2 B3 B4 B5 B6 hn5 hn6 H9 H10 H11 H12 H14 H15
  have HC1 := Lib.hid hc1
  have HC2 := Lib.hid hc2
  have HB7 := Lib.hid B7
  clear hc1 hc2 B7
  go_loopw [36] (fun i wr => ∃ k : Nat, k ≤ cs.length ∧ i = .int .i64 k ∧ ∃ q, wr = u7.drewN q) (fun i _ => cs.length - (intOf i).toNat)
  case atStart => exact ⟨0, by omega, rfl, 0, rfl⟩
  case round =>
    obtain ⟨k, hk, rfl, q, rfl⟩ := hrel
    by_cases hlt : k < cs.length
    · obtain ⟨b, off, rfl, hb, hca, hcb⟩ := HC1.out.at_ hlt
      obtain ⟨b2, off2, rfl, hb2, hda, hdb⟩ := HC2.out.at_ hlt
      generalize cs[k] = X at hca hcb hda hdb
      obtain ⟨X, Y⟩ := X
      simp only at hca hcb hda hdb
      have hne := fun w => neC_run X Y w
      go_wp2
      go_quiet (fail)
      go_wp2
      go_roundw
      case rel => exact ⟨k + 1, by omega, by go_num, _, rfl⟩
      case measure => simp [intOf] <;> omega
    · go_wp2_with (go_at_call 8; refine (alive_ok _).mono ?_; rintro e u8 ⟨rfl, hb8⟩)
      go_ret
      exact ⟨rfl, below_trans (below_drewN HB7.out _) hb8 HB7.out.size⟩

set_option maxRecDepth 100000 in
theorem lifted (os : Os) (started : os.Started) (H : Type) (enc : TypeId × Value → H) :
    ReturnsInHanded {} Try.checked os 3 .any (Rows.graphemeCutsSpec.pre6 enc Try.prog Try.f3 Rows.graphemeCutsRow.domain false) (Rows.graphemeCutsSpec.post enc Try.prog Try.f3 false true false false) := by
  refine returnsInHanded_of_change (C := Try.checked) own started (by kernel_rfl) Try.func3
    (ChangeSpec.witness6 (enc := enc) (C := Try.checked) false ⟨#[], #[.slice none 0 0], []⟩ 8 (by kernel_rfl) (by kernel_rfl) (by kernel_rfl) (by kernel_rfl)) ?_
  intro W base args ds gs before hval0 hW hcnd _
  have hval : ∀ (j : Nat) t v, Try.f3.params[j]? = some t → args[j]? = some v → Value.okWide Try.prog W .any base t v := hval0
  have hW' := hW
  obtain ⟨p, q, hA0, hV, rfl, hfz, hnd⟩ := hW
  have hA : DataW.TrodAll enc Try.prog W 0 (fun _ => true) true Try.f3.params.toList args.toList ds p := hA0
  rw [Try.params3] at hA hval
  obtain ⟨v0, vs0, d0, ds0, p0, q0, hargs, rfl, rfl, h0, r0⟩ := trodAll_cons hA
  obtain ⟨rfl, rfl, rfl⟩ := trodAll_nil r0
  obtain rfl : args = #[v0] := by cases args; simp_all
  obtain ⟨rfl, rfl⟩ := trodVars_none hV
  clear hA0 hval0
  have hlt : ∀ x ∈ p0 ++ [], x.block < W.heap.size := fun x hx => by simpa using hW'.lt x (List.mem_append_left _ hx)
  have k0 := h0
  obtain ⟨A0, l0, c0, rfl⟩ := okWide_slice Try.underlying22 (hval 0 22 v0 rfl rfl)
  obtain ⟨z0, rfl, n0, m0, w0, hh0⟩ := has_ints Try.underlying22 Try.underlying21 (by kernel_rfl) h0 (fun x hx => hlt x (List.mem_append_left _ hx))
  refine (walk A0 c0 z0 W n0 m0 w0 hh0).mono fun e W' ⟨he, hb⟩ => ?_
  subst he
  exact ⟨_, rfl, _, _, _, [], _, [], hW', (trodAll_cons_mk (shut_bool Try.underlying4 _) trodAll_mk0), (trodAll_cons_mk (Below.trod laidOut (by kernel_rfl) (of_decide_eq_true (by kernel_rfl)) k0 hb (fun x hx => hlt x (List.mem_append_left _ hx))) trodAll_mk0), rfl, hb.frame _, fun h => by cases h⟩

theorem over : Rows.graphemeCutsRow.holds Try.pinned (OpenSpec.ofChange Rows.graphemeCutsSpec) :=
  OpenClaim.holds_of_wide 3 Try.f3 rfl rfl rfl rfl rfl rfl rfl ⟨rfl, rfl, rfl, rfl, rfl⟩ rfl rfl rfl rfl rfl (by kernel_rfl) Try.func3 (by kernel_rfl)
    (of_decide_eq_true (by kernel_rfl)) (by unfold Func.isWrapper; first | (rw [if_pos (by decide +kernel)]; kernel_rfl) | (rw [if_neg (by decide +kernel)]; exact ⟨rfl, rfl⟩))
    (fun os started H enc _ => lifted os started H enc)

/-- the statement -/
theorem proved : Rows.GraphemeCutsSaid :=
  over
#print axioms proved
end Go.Proofs.Ytnpdampaimllpaa.graphemeCuts
