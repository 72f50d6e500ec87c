/-
  For every two runes r, s the statement PropsTells returns true: props.Of, Same and Canon answer what the document's do. No condition.
-/
import Derived.Test.YtfobibijhojhlaaHas
import Derived.Test.YtfobibijhojhlaaAlive
import Derived.WalkKit
import Derived.ProofKit
import Derived.OpenShut
set_option linter.unusedVariables false
namespace Go.Proofs.Ytfobibijhojhlaa.propsTells
open Go.ChangeShapes Go.WideShapes Go.ChangeAt Go.RowKit Go.Proofs.Ytfobibijhojhlaa
theorem own : ownKnob Try.prog.godebug = none := by kernel_rfl
theorem laidOut : laidOutB Try.prog = true := by kernel_rfl

theorem walk (a0 : Int) (a1 : Int) (w : World) (w0 : (Lit.int .i32 a0).wf = true) (w1 : (Lit.int .i32 a1).wf = true) :
    Calls Try.prog 3 #[.int .i32 a0, .int .i32 a1] w fun e w' => e = .returned (.bool true) ∧ Below w.heap.size w w' := by
  obtain ⟨p, hp⟩ : ∃ p, ofP a0 = p := ⟨_, rfl⟩
  obtain ⟨q, hq⟩ : ∃ q, ofP a1 = q := ⟨_, rfl⟩
  have cS := fun w => same_ok a0 a1 w
  rw [hp, hq] at cS
  have H1 := Lib.hid (fun w => of_x a0 p hp w)
  have H2 := Lib.hid (fun w => rof_x a0 p hp w)
  have H3 := Lib.hid (fun w => rof_x a1 q hq w)
  have H4 := Lib.hid cS
  obtain ⟨c, hc⟩ : ∃ c, canonP a0 = c := ⟨_, rfl⟩
  have cC := fun w => canon_ok a0 w
  have cR := fun w => rcanon_ok a0 w
  rw [hc] at cC cR
  have H5 := Lib.hid cC
  have H6 := Lib.hid cR
  have hE := fun w => eq_run p p w
  have hE2 := fun w => eq_run p q w
  clear cS cC cR hp hq hc w0 w1
  simp only [decide_true] at hE
  have hU : Up w w := Up.refl w
  go_enter Try.func3, Try.ntmps3
  go_wp2_with (first | (go_at_call 7; refine (H1.out _).mono ?_; rintro e u ⟨rfl, hu⟩; have hV := hU.trans hu; clear hU hu; have hU := hV; clear hV) | (go_at_call 9; refine (H4.out _).mono ?_; rintro e u ⟨rfl, hu⟩; have hV := hU.trans hu; clear hU hu; have hU := hV; clear hV) | (go_at_call 8; (first | (with_reducible refine (H2.out _).mono ?_) | (with_reducible refine (H3.out _).mono ?_)); rintro e u ⟨rfl, hu⟩; have hV := hU.trans hu; clear hU hu; have hU := hV; clear hV) | (go_at_call 10; refine (H5.out _).mono ?_; rintro e u ⟨rfl, rfl⟩) | (go_at_call 11; refine (H6.out _).mono ?_; rintro e u ⟨rfl, rfl⟩) | (go_at_call 12; refine (alive_ok _).mono ?_; rintro e u ⟨rfl, hu⟩; have hV := hU.trans hu; clear hU hu; have hU := hV; clear hV))
  go_ret
  exact ⟨rfl, hU.1⟩

set_option maxRecDepth 100000 in
theorem lifted (os : Os) (started : os.Started) (H : Type) (enc : TypeId × Value → H) :
    ReturnsInHanded {} Try.checked os 3 .any (Rows.propsTellsSpec.pre6 enc Try.prog Try.f3 Rows.propsTellsRow.domain false) (Rows.propsTellsSpec.post enc Try.prog Try.f3 false true false false) := by
  refine returnsInHanded_of_change (C := Try.checked) own started (by kernel_rfl) Try.func3
    (ChangeSpec.witness6 (enc := enc) (C := Try.checked) false ⟨#[], #[.int .i32 0, .int .i32 0], []⟩ 8 (by kernel_rfl) (by kernel_rfl) (by kernel_rfl) (by kernel_rfl)) ?_
  intro W base args ds gs before hval0 hW hcnd _
  have hval : ∀ (j : Nat) t v, Try.f3.params[j]? = some t → args[j]? = some v → Value.okWide Try.prog W .any base t v := hval0
  have hW' := hW
  obtain ⟨p, q, hA0, hV, rfl, hfz, hnd⟩ := hW
  have hA : DataW.TrodAll enc Try.prog W 0 (fun _ => true) true Try.f3.params.toList args.toList ds p := hA0
  rw [Try.params3] at hA hval
  obtain ⟨v0, vs0, d0, ds0, p0, q0, hargs, rfl, rfl, h0, r0⟩ := trodAll_cons hA
  obtain ⟨v1, vs1, d1, ds1, p1, q1, rfl, rfl, rfl, h1, r1⟩ := trodAll_cons r0
  obtain ⟨rfl, rfl, rfl⟩ := trodAll_nil r1
  obtain rfl : args = #[v0, v1] := by cases args; simp_all
  obtain ⟨rfl, rfl⟩ := trodVars_none hV
  clear hA0 hval0
  have hlt : ∀ x ∈ p0 ++ (p1 ++ []), x.block < W.heap.size := fun x hx => by simpa using hW'.lt x (List.mem_append_left _ hx)
  have k0 := h0
  have k1 := h1
  obtain ⟨a0, rfl, rfl, rfl, w0⟩ := open_int Try.underlying21 (hval 0 21 v0 rfl rfl) h0
  obtain ⟨a1, rfl, rfl, rfl, w1⟩ := open_int Try.underlying21 (hval 1 21 v1 rfl rfl) h1
  refine (walk a0 a1 W w0 w1).mono fun e W' ⟨he, hb⟩ => ?_
  subst he
  exact ⟨_, rfl, _, _, _, [], _, [], hW', (trodAll_cons_mk (shut_bool Try.underlying4 _) trodAll_mk0), (trodAll_cons_mk (Below.trod laidOut (by kernel_rfl) (of_decide_eq_true (by kernel_rfl)) k0 hb (fun x hx => hlt x (List.mem_append_left _ hx))) (trodAll_cons_mk (Below.trod laidOut (by kernel_rfl) (of_decide_eq_true (by kernel_rfl)) k1 hb (fun x hx => hlt x (List.mem_append_right _ (List.mem_append_left _ hx)))) trodAll_mk0)), rfl, hb.frame _, fun h => by cases h⟩

theorem over : Rows.propsTellsRow.holds Try.pinned (OpenSpec.ofChange Rows.propsTellsSpec) :=
  OpenClaim.holds_of_wide 3 Try.f3 rfl rfl rfl rfl rfl rfl rfl ⟨rfl, rfl, rfl, rfl, rfl⟩ rfl rfl rfl rfl rfl (by kernel_rfl) Try.func3 (by kernel_rfl)
    (of_decide_eq_true (by kernel_rfl)) (by unfold Func.isWrapper; first | (rw [if_pos (by decide +kernel)]; kernel_rfl) | (rw [if_neg (by decide +kernel)]; exact ⟨rfl, rfl⟩))
    (fun os started H enc _ => lifted os started H enc)

/-- the statement -/
theorem proved : Rows.PropsTellsSaid :=
  over
#print axioms proved
end Go.Proofs.Ytfobibijhojhlaa.propsTells
