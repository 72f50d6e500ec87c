/-
  For every []int and both bases the statement ExplicitLevels returns true: the program's Levels tells what the document's does, levels and classes. No condition.
-/
import Derived.Test.YthikjknikdacbaaHas
import Derived.Test.YthikjknikdacbaaXtj
set_option linter.unusedVariables false
namespace Go.Proofs.Ythikjknikdacbaa.explicitLevels
open Go.ChangeShapes Go.WideShapes Go.ChangeAt Go.RowKit Go.Proofs.Ythikjknikdacbaa
theorem own : ownKnob Try.prog.godebug = none := by kernel_rfl
theorem laidOut : laidOutB Try.prog = true := by kernel_rfl


set_option maxRecDepth 20000 in
set_option maxHeartbeats 8000000 in
theorem walk (A0 : Option Addr) (c0 : Nat) (z0 : List Int) (a1 : Bool) (w : World) (n0 : z0.length ≤ 9223372036854775807) (m0 : z0.length ≤ c0) (w0 : ∀ z ∈ z0, (Lit.int .i64 z).wf = true) (h0 : Has w w.heap.size A0 (z0.map (Value.int .i64))) :
    Calls Try.prog 3 #[.slice A0 z0.length c0, .bool a1] w fun e w' => e = .returned (.bool true) ∧ Below w.heap.size w w' := by
  by_cases hl : 200 < z0.length
  · have HLO := Lib.hid (fun w => long_ok A0 z0.length c0 w)
    rw [decide_eq_true hl] at HLO
    clear w0 m0 h0
    go_enter Try.func3, Try.ntmps3
    go_wp2_with (go_at_call 8; (with_reducible refine (HLO.out _).mono ?_); rintro e u ⟨rfl, rfl⟩)
    go_ret
    exact ⟨rfl, Below.refl _ _⟩
  have HLO := Lib.hid (fun w => long_ok A0 z0.length c0 w)
  rw [decide_eq_false hl] at HLO
  obtain ⟨b, hb, hab⟩ : ∃ b : Nat, b ≤ 1 ∧ ((a1 = true ∧ b = 1) ∨ (a1 = false ∧ b = 0)) := by cases a1 <;> simp
  have HL := Lib.hid (levels_ok A0 z0.length c0 b z0 w rfl m0 (by omega) hb h0)
  have HR : Hid (∀ W, Below w.heap.size w W → _) := Lib.hid (fun W hW => rlevels_ok A0 z0.length c0 b z0 W rfl m0 (by omega) hb (h0.carry hW))
  have HLL : Hid ((lvI b z0 z0.length).length = z0.length) := Lib.hid (by unfold lvI; rw [List.length_map, lvN_len b z0 _ (Nat.le_refl _)])
  have HCL : Hid ((clN b z0 z0.length).length = z0.length) := Lib.hid (clN_len b z0 _ (Nat.le_refl _))
  have hn : z0.length ≤ 200 := by omega
  generalize lvI b z0 z0.length = L at *
  generalize clN b z0 z0.length = C at *
  generalize z0.length = n at *
  clear w0 m0 n0 h0
  rcases hab with ⟨rfl, rfl⟩ | ⟨rfl, rfl⟩
  all_goals
    go_enter Try.func3, Try.ntmps3
    go_wp2_with (first
      | (go_at_call 8; (with_reducible refine (HLO.out _).mono ?_); rintro e u ⟨rfl, rfl⟩)
      | (go_at_call 9; (refine HL.out.mono ?_); rintro e u1 ⟨v1, v2, rfl, h1, h2, hb1⟩; obtain ⟨A1, c1, rfl, _, _, g1⟩ := h1.size; obtain ⟨A2, c2, rfl, _, _, g2⟩ := h2.size; rw [HLL.out, HCL.out])
      | (go_at_call 10; (refine (HR.out u1 hb1).mono ?_); rintro e u2 ⟨v3, v4, rfl, h3, h4, hb2⟩; obtain ⟨A3, c3, rfl, _, _, g3⟩ := h3.size; obtain ⟨A4, c4, rfl, _, _, g4⟩ := h4.size; rw [HLL.out, HCL.out]; have k1 := g1.carry hb2; have k2 := g2.carry hb2)
      | (go_at_call 11; first
          | (with_reducible refine (eqs_ok A1 A3 c1 c3 n L u2 HLL.out.symm (by omega) k1 g3).mono ?_; rintro e u3 ⟨rfl, hb3⟩; have k5 := k2.carry hb3; have k6 := g4.carry hb3)
          | (with_reducible refine (eqs_ok A2 A4 c2 c4 n C u3 HCL.out.symm (by omega) k5 k6).mono ?_; rintro e u4 ⟨rfl, hb4⟩)))
    go_ret
    exact ⟨rfl, ((hb1.trans (hb2.mono hb1.size)).trans (hb3.mono (Nat.le_trans hb1.size hb2.size))).trans (hb4.mono (Nat.le_trans (Nat.le_trans hb1.size hb2.size) hb3.size))⟩

set_option maxRecDepth 100000 in
theorem lifted (os : Os) (started : os.Started) (H : Type) (enc : TypeId × Value → H) :
    ReturnsInHanded {} Try.checked os 3 .any (Rows.explicitLevelsSpec.pre6 enc Try.prog Try.f3 Rows.explicitLevelsRow.domain false) (Rows.explicitLevelsSpec.post enc Try.prog Try.f3 false true false false) := by
  refine returnsInHanded_of_change (C := Try.checked) own started (by kernel_rfl) Try.func3
    (ChangeSpec.witness6 (enc := enc) (C := Try.checked) false ⟨#[], #[.slice none 0 0, .bool false], []⟩ 8 (by kernel_rfl) (by kernel_rfl) (by kernel_rfl) (by kernel_rfl)) ?_
  intro W base args ds gs before hval0 hW hcnd _
  have hval : ∀ (j : Nat) t v, Try.f3.params[j]? = some t → args[j]? = some v → Value.okWide Try.prog W .any base t v := hval0
  have hW' := hW
  obtain ⟨p, q, hA0, hV, rfl, hfz, hnd⟩ := hW
  have hA : DataW.TrodAll enc Try.prog W 0 (fun _ => true) true Try.f3.params.toList args.toList ds p := hA0
  rw [Try.params3] at hA hval
  obtain ⟨v0, vs0, d0, ds0, p0, q0, hargs, rfl, rfl, h0, r0⟩ := trodAll_cons hA
  obtain ⟨v1, vs1, d1, ds1, p1, q1, rfl, rfl, rfl, h1, r1⟩ := trodAll_cons r0
  obtain ⟨rfl, rfl, rfl⟩ := trodAll_nil r1
  obtain rfl : args = #[v0, v1] := by cases args; simp_all
  obtain ⟨rfl, rfl⟩ := trodVars_none hV
  clear hA0 hval0
  have hlt : ∀ x ∈ p0 ++ (p1 ++ []), x.block < W.heap.size := fun x hx => by simpa using hW'.lt x (List.mem_append_left _ hx)
  have k0 := h0
  have k1 := h1
  obtain ⟨A0, l0, c0, rfl⟩ := okWide_slice Try.underlying22 (hval 0 22 v0 rfl rfl)
  obtain ⟨z0, rfl, n0, m0, w0, hh0⟩ := has_ints Try.underlying22 Try.underlying3 (by kernel_rfl) h0 (fun x hx => hlt x (List.mem_append_left _ hx))
  obtain ⟨a1, rfl, rfl, rfl⟩ := open_bool Try.underlying4 (hval 1 4 v1 rfl rfl) h1
  refine (walk A0 c0 z0 a1 W n0 m0 w0 hh0).mono fun e W' ⟨he, hb⟩ => ?_
  subst he
  exact ⟨_, rfl, _, _, _, [], _, [], hW', (trodAll_cons_mk (shut_bool Try.underlying4 _) trodAll_mk0), (trodAll_cons_mk (Below.trod laidOut (by kernel_rfl) (of_decide_eq_true (by kernel_rfl)) k0 hb (fun x hx => hlt x (List.mem_append_left _ hx))) (trodAll_cons_mk (Below.trod laidOut (by kernel_rfl) (of_decide_eq_true (by kernel_rfl)) k1 hb (fun x hx => hlt x (List.mem_append_right _ (List.mem_append_left _ hx)))) trodAll_mk0)), rfl, hb.frame _, fun h => by cases h⟩

theorem over : Rows.explicitLevelsRow.holds Try.pinned (OpenSpec.ofChange Rows.explicitLevelsSpec) :=
  OpenClaim.holds_of_wide 3 Try.f3 rfl rfl rfl rfl rfl rfl rfl ⟨rfl, rfl, rfl, rfl, rfl⟩ rfl rfl rfl rfl rfl (by kernel_rfl) Try.func3 (by kernel_rfl)
    (of_decide_eq_true (by kernel_rfl)) (by unfold Func.isWrapper; first | (rw [if_pos (by decide +kernel)]; kernel_rfl) | (rw [if_neg (by decide +kernel)]; exact ⟨rfl, rfl⟩))
    (fun os started H enc _ => lifted os started H enc)

/-- the statement -/
theorem proved : Rows.ExplicitLevelsSaid :=
  over
#print axioms proved
end Go.Proofs.Ythikjknikdacbaa.explicitLevels
