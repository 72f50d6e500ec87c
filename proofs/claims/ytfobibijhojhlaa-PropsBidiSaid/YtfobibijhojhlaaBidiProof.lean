/-
  For every []rune t the statement PropsBidi returns true: the program's classes are the document's. No condition.
-/
import Derived.Test.YtfobibijhojhlaaHas
import Derived.Test.YtfobibijhojhlaaBidi
import Derived.WalkKit
import Derived.ProofKit
import Derived.OpenShut
set_option linter.unusedVariables false
namespace Go.Proofs.Ytfobibijhojhlaa.propsBidi
open Go.ChangeShapes Go.WideShapes Go.ChangeAt Go.RowKit Go.Proofs.Ytfobibijhojhlaa
theorem own : ownKnob Try.prog.godebug = none := by kernel_rfl
theorem laidOut : laidOutB Try.prog = true := by kernel_rfl

set_option maxHeartbeats 2000000 in
theorem walk (A0 : Option Addr) (c0 : Nat) (z0 : List Int) (w : World) (n0 : z0.length ≤ 9223372036854775807) (m0 : z0.length ≤ c0) (w0 : ∀ z ∈ z0, (Lit.int .i32 z).wf = true) (h0 : Has w w.heap.size A0 (z0.map (Value.int .i32))) :
    Calls Try.prog 4 #[.slice A0 z0.length c0] w fun e w' => e = .returned (.bool true) ∧ Below w.heap.size w w' := by
  by_cases hl : 200 < z0.length
  · clear w0 m0 h0
    go_enter Try.func4, Try.ntmps4
    go_wp2_with (go_at_call 12; refine (alive_ok _).mono ?_; rintro e u ⟨rfl, hu⟩)
    go_ret
    exact ⟨rfl, hu.1⟩
  · have hn : z0.length ≤ 200 := by omega
    have H1 := Lib.hid (fun w h => bidi_ok A0 c0 z0 w hn h)
    have H2 := Lib.hid (fun w h => rbidi_ok A0 c0 z0 w hn h)
    have HL := Lib.hid (bd_len z0)
    clear w0 m0 hn
    go_enter Try.func4, Try.ntmps4
    go_wp2_with (first | (go_at_call 14; refine (H1.out _ h0).mono ?_; rintro e u1 ⟨v1, rfl, A1, c1, rfl, hf1, hh1, hb1⟩) | (go_at_call 15; refine (H2.out _ (h0.carry hb1)).mono ?_; rintro e u2 ⟨v2, rfl, A2, c2, rfl, hf2, hh2, hb2⟩) | (go_at_call 13; refine (ints_ok A1 A2 c1 c2 (bdP z0) (bdP z0) _ (by rw [HL.out]; omega) (by rw [HL.out]; omega) (hh1.carry hb2) hh2).mono ?_; rintro e u3 ⟨rfl, hb3⟩; rw [decide_eq_true rfl]) | (go_at_call 12; refine (alive_ok _).mono ?_; rintro e u4 ⟨rfl, hu4⟩))
    go_ret
    have hb12 := below_trans hb1 hb2 hb1.size
    have hb13 := below_trans hb12 hb3 hb12.size
    exact ⟨rfl, below_trans hb13 hu4.1 hb13.size⟩

set_option maxRecDepth 100000 in
theorem lifted (os : Os) (started : os.Started) (H : Type) (enc : TypeId × Value → H) :
    ReturnsInHanded {} Try.checked os 4 .any (Rows.propsBidiSpec.pre6 enc Try.prog Try.f4 Rows.propsBidiRow.domain false) (Rows.propsBidiSpec.post enc Try.prog Try.f4 false true false false) := by
  refine returnsInHanded_of_change (C := Try.checked) own started (by kernel_rfl) Try.func4
    (ChangeSpec.witness6 (enc := enc) (C := Try.checked) false ⟨#[], #[.slice none 0 0], []⟩ 8 (by kernel_rfl) (by kernel_rfl) (by kernel_rfl) (by kernel_rfl)) ?_
  intro W base args ds gs before hval0 hW hcnd _
  have hval : ∀ (j : Nat) t v, Try.f4.params[j]? = some t → args[j]? = some v → Value.okWide Try.prog W .any base t v := hval0
  have hW' := hW
  obtain ⟨p, q, hA0, hV, rfl, hfz, hnd⟩ := hW
  have hA : DataW.TrodAll enc Try.prog W 0 (fun _ => true) true Try.f4.params.toList args.toList ds p := hA0
  rw [Try.params4] at hA hval
  obtain ⟨v0, vs0, d0, ds0, p0, q0, hargs, rfl, rfl, h0, r0⟩ := trodAll_cons hA
  obtain ⟨rfl, rfl, rfl⟩ := trodAll_nil r0
  obtain rfl : args = #[v0] := by cases args; simp_all
  obtain ⟨rfl, rfl⟩ := trodVars_none hV
  clear hA0 hval0
  have hlt : ∀ x ∈ p0 ++ [], x.block < W.heap.size := fun x hx => by simpa using hW'.lt x (List.mem_append_left _ hx)
  have k0 := h0
  obtain ⟨A0, l0, c0, rfl⟩ := okWide_slice Try.underlying28 (hval 0 28 v0 rfl rfl)
  obtain ⟨z0, rfl, n0, m0, w0, hh0⟩ := has_ints Try.underlying28 Try.underlying21 (by kernel_rfl) h0 (fun x hx => hlt x (List.mem_append_left _ hx))
  refine (walk A0 c0 z0 W n0 m0 w0 hh0).mono fun e W' ⟨he, hb⟩ => ?_
  subst he
  exact ⟨_, rfl, _, _, _, [], _, [], hW', (trodAll_cons_mk (shut_bool Try.underlying4 _) trodAll_mk0), (trodAll_cons_mk (Below.trod laidOut (by kernel_rfl) (of_decide_eq_true (by kernel_rfl)) k0 hb (fun x hx => hlt x (List.mem_append_left _ hx))) trodAll_mk0), rfl, hb.frame _, fun h => by cases h⟩

theorem over : Rows.propsBidiRow.holds Try.pinned (OpenSpec.ofChange Rows.propsBidiSpec) :=
  OpenClaim.holds_of_wide 4 Try.f4 rfl rfl rfl rfl rfl rfl rfl ⟨rfl, rfl, rfl, rfl, rfl⟩ rfl rfl rfl rfl rfl (by kernel_rfl) Try.func4 (by kernel_rfl)
    (of_decide_eq_true (by kernel_rfl)) (by unfold Func.isWrapper; first | (rw [if_pos (by decide +kernel)]; kernel_rfl) | (rw [if_neg (by decide +kernel)]; exact ⟨rfl, rfl⟩))
    (fun os started H enc _ => lifted os started H enc)

/-- the statement -/
theorem proved : Rows.PropsBidiSaid :=
  over
#print axioms proved
end Go.Proofs.Ytfobibijhojhlaa.propsBidi
