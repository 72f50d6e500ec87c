/-
  For every []rune t and every int i the statement GraphemeSteps returns true: Window, Is, Next and Prev at i are the document's. No condition.
-/
import Derived.Test.YtnpdampaimllpaaHas
import Derived.Test.YtnpdampaimllpaaAlive
set_option linter.unusedVariables false
namespace Go.Proofs.Ytnpdampaimllpaa.graphemeSteps
open Go.ChangeShapes Go.WideShapes Go.ChangeAt Go.RowKit Go.Proofs.Ytnpdampaimllpaa
theorem own : ownKnob Try.prog.godebug = none := by kernel_rfl
theorem laidOut : laidOutB Try.prog = true := by kernel_rfl

set_option maxHeartbeats 4000000 in
theorem walk (A0 : Option Addr) (c0 : Nat) (z0 : List Int) (a1 : Int) (w : World) (n0 : z0.length ≤ 9223372036854775807) (m0 : z0.length ≤ c0) (w0 : ∀ z ∈ z0, (Lit.int .i32 z).wf = true) (h0 : Has w w.heap.size A0 (z0.map (Value.int .i32))) (w1 : (Lit.int .i64 a1).wf = true) :
    Calls Try.prog 4 #[.slice A0 z0.length c0, .int .i64 a1] w fun e w' => e = .returned (.bool true) ∧ Below w.heap.size w w' := by
  by_cases hl : 200 < z0.length
  · clear w0 m0 h0
    go_enter Try.func4, Try.ntmps4
    go_wp2_with (go_at_call 8; refine (alive_ok _).mono ?_; rintro e u ⟨rfl, hu⟩)
    go_ret
    exact ⟨rfl, hu⟩
  have hn : z0.length ≤ 200 := by omega
  have H16 := Lib.hid (fun w h => win_ok A0 c0 a1 z0 w (by omega) m0 h)
  have H17 := Lib.hid (fun w h => rwin_ok A0 c0 a1 z0 w (by omega) h)
  have H18 := Lib.hid (fun w h => is_ok A0 c0 a1 z0 w (by omega) m0 h)
  have H19 := Lib.hid (fun w h => ris_ok A0 c0 a1 z0 w (by omega) m0 h)
  have H20 := Lib.hid (fun w h => next_ok A0 c0 a1 z0 w (by omega) m0 h)
  have H21 := Lib.hid (fun w h => rnext_ok A0 c0 a1 z0 w (by omega) m0 h)
  have H22 := Lib.hid (fun w h => prev_ok A0 c0 a1 z0 w (by omega) m0 h)
  have H23 := Lib.hid (fun w h => rprev_ok A0 c0 a1 z0 w (by omega) m0 h)
  generalize isV (cls z0) a1 = q at H18 H19
  have hlb : decide (200 < (z0.length : Int)) = false := decide_eq_false (by omega)
  clear w0 m0 n0 w1
  go_enter Try.func4, Try.ntmps4
  go_wp2_with (first
    | (go_at_call 16; (with_reducible refine (H16.out _ h0).mono ?_); rintro e u1 ⟨⟨wa, wb, rfl, hw1⟩, hu1⟩; have g1 := h0.up hu1)
    | (go_at_call 17; (with_reducible refine (H17.out _ g1).mono ?_); rintro e u2 ⟨⟨wa2, wb2, rfl, hw2⟩, hu2⟩; have g2 := g1.up hu2; obtain ⟨rfl, rfl⟩ := hw1.unique hw2; have U2 := hu1.trans hu2)
    | (go_at_call 18; (with_reducible refine (H18.out _ g2).mono ?_); rintro e u3 ⟨rfl, hu3⟩; have g3 := g2.up hu3; have U3 := U2.trans hu3)
    | (go_at_call 19; (with_reducible refine (H19.out _ g3).mono ?_); rintro e u4 ⟨rfl, hu4⟩; have g4 := g3.up hu4; have U4 := U3.trans hu4; have eqq : (q == q) = true := by simp)
    | (go_at_call 20; (with_reducible refine (H20.out _ g4).mono ?_); rintro e u5 ⟨⟨r5, rfl, hr5⟩, hu5⟩; have g5 := g4.up hu5; have U5 := U4.trans hu5)
    | (go_at_call 21; (with_reducible refine (H21.out _ g5).mono ?_); rintro e u6 ⟨⟨r6, rfl, hr6⟩, hb6⟩; have g6 := g5.carry hb6; have B6 := below_trans U5.1 hb6 U5.1.size; obtain rfl := hr5.unique hr6)
    | (go_at_call 22; (with_reducible refine (H22.out _ g6).mono ?_); rintro e u7 ⟨⟨r7, rfl, hr7⟩, hu7⟩; have g7 := g6.up hu7; have B7 := below_trans B6 hu7.1 B6.size)
    | (go_at_call 23; (with_reducible refine (H23.out _ g7).mono ?_); rintro e u8 ⟨⟨r8, rfl, hr8⟩, hb8⟩; have B8 := below_trans B7 hb8 B7.size; obtain rfl := hr7.unique hr8)
    | (go_at_call 8; refine (alive_ok _).mono ?_; rintro e u9 ⟨rfl, hb9⟩; have B9 := below_trans B8 hb9 B8.size))
  go_ret
  exact ⟨rfl, B9⟩

set_option maxRecDepth 100000 in
theorem lifted (os : Os) (started : os.Started) (H : Type) (enc : TypeId × Value → H) :
    ReturnsInHanded {} Try.checked os 4 .any (Rows.graphemeStepsSpec.pre6 enc Try.prog Try.f4 Rows.graphemeStepsRow.domain false) (Rows.graphemeStepsSpec.post enc Try.prog Try.f4 false true false false) := by
  refine returnsInHanded_of_change (C := Try.checked) own started (by kernel_rfl) Try.func4
    (ChangeSpec.witness6 (enc := enc) (C := Try.checked) false ⟨#[], #[.slice none 0 0, .int .i64 0], []⟩ 8 (by kernel_rfl) (by kernel_rfl) (by kernel_rfl) (by kernel_rfl)) ?_
  intro W base args ds gs before hval0 hW hcnd _
  have hval : ∀ (j : Nat) t v, Try.f4.params[j]? = some t → args[j]? = some v → Value.okWide Try.prog W .any base t v := hval0
  have hW' := hW
  obtain ⟨p, q, hA0, hV, rfl, hfz, hnd⟩ := hW
  have hA : DataW.TrodAll enc Try.prog W 0 (fun _ => true) true Try.f4.params.toList args.toList ds p := hA0
  rw [Try.params4] at hA hval
  obtain ⟨v0, vs0, d0, ds0, p0, q0, hargs, rfl, rfl, h0, r0⟩ := trodAll_cons hA
  obtain ⟨v1, vs1, d1, ds1, p1, q1, rfl, rfl, rfl, h1, r1⟩ := trodAll_cons r0
  obtain ⟨rfl, rfl, rfl⟩ := trodAll_nil r1
  obtain rfl : args = #[v0, v1] := by cases args; simp_all
  obtain ⟨rfl, rfl⟩ := trodVars_none hV
  clear hA0 hval0
  have hlt : ∀ x ∈ p0 ++ (p1 ++ []), x.block < W.heap.size := fun x hx => by simpa using hW'.lt x (List.mem_append_left _ hx)
  have k0 := h0
  have k1 := h1
  obtain ⟨A0, l0, c0, rfl⟩ := okWide_slice Try.underlying22 (hval 0 22 v0 rfl rfl)
  obtain ⟨z0, rfl, n0, m0, w0, hh0⟩ := has_ints Try.underlying22 Try.underlying21 (by kernel_rfl) h0 (fun x hx => hlt x (List.mem_append_left _ hx))
  obtain ⟨a1, rfl, rfl, rfl, w1⟩ := open_int Try.underlying3 (hval 1 3 v1 rfl rfl) h1
  refine (walk A0 c0 z0 a1 W n0 m0 w0 hh0 w1).mono fun e W' ⟨he, hb⟩ => ?_
  subst he
  exact ⟨_, rfl, _, _, _, [], _, [], hW', (trodAll_cons_mk (shut_bool Try.underlying4 _) trodAll_mk0), (trodAll_cons_mk (Below.trod laidOut (by kernel_rfl) (of_decide_eq_true (by kernel_rfl)) k0 hb (fun x hx => hlt x (List.mem_append_left _ hx))) (trodAll_cons_mk (Below.trod laidOut (by kernel_rfl) (of_decide_eq_true (by kernel_rfl)) k1 hb (fun x hx => hlt x (List.mem_append_right _ (List.mem_append_left _ hx)))) trodAll_mk0)), rfl, hb.frame _, fun h => by cases h⟩

theorem over : Rows.graphemeStepsRow.holds Try.pinned (OpenSpec.ofChange Rows.graphemeStepsSpec) :=
  OpenClaim.holds_of_wide 4 Try.f4 rfl rfl rfl rfl rfl rfl rfl ⟨rfl, rfl, rfl, rfl, rfl⟩ rfl rfl rfl rfl rfl (by kernel_rfl) Try.func4 (by kernel_rfl)
    (of_decide_eq_true (by kernel_rfl)) (by unfold Func.isWrapper; first | (rw [if_pos (by decide +kernel)]; kernel_rfl) | (rw [if_neg (by decide +kernel)]; exact ⟨rfl, rfl⟩))
    (fun os started H enc _ => lifted os started H enc)

/-- the statement -/
theorem proved : Rows.GraphemeStepsSaid :=
  over
#print axioms proved
end Go.Proofs.Ytnpdampaimllpaa.graphemeSteps
