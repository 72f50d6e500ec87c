/-
  For every []int the statement ReorderRuns returns true: Runs and Turns answer as the document's do. No condition.
-/
import Derived.Test.YtnocdminhcpmpaaHas
import Derived.Test.YtnocdminhcpmpaaRol
set_option linter.unusedVariables false
namespace Go.Proofs.Ytnocdminhcpmpaa.reorderRuns
open Go.ChangeShapes Go.WideShapes Go.ChangeAt Go.RowKit Go.Proofs.Ytnocdminhcpmpaa
theorem own : ownKnob Try.prog.godebug = none := by kernel_rfl
theorem laidOut : laidOutB Try.prog = true := by kernel_rfl

theorem walk (A0 : Option Addr) (c0 : Nat) (z0 : List Int) (w : World) (n0 : z0.length ≤ 9223372036854775807) (m0 : z0.length ≤ c0) (w0 : ∀ z ∈ z0, (Lit.int .i64 z).wf = true) (h0 : Has w w.heap.size A0 (z0.map (Value.int .i64))) :
    Calls Try.prog 4 #[.slice A0 z0.length c0] w fun e w' => e = .returned (.bool true) ∧ Below w.heap.size w w' := by
  have HLG := Lib.hid (fun W => long_ok A0 z0.length c0 W)
  by_cases hl : 30 < z0.length
  · rw [decide_eq_true hl] at HLG
    clear w0 m0 h0
    go_enter Try.func4, Try.ntmps4
    go_wp2_with (go_at_call 9; (with_reducible refine (HLG.out _).mono ?_); rintro e u ⟨rfl, rfl⟩)
    go_ret
    exact ⟨rfl, Below.refl _ _⟩
  · rw [decide_eq_false hl] at HLG
    have H1 := Lib.hid (pruns_ok A0 z0.length c0 z0 w rfl (by omega) h0)
    have H2 := Lib.hid (fun (W : World) (hb : Below w.heap.size w W) => rruns_ok A0 z0.length c0 z0 W rfl (by omega) (h0.carry hb))
    have H3 := Lib.hid (fun (W : World) (hb : Below w.heap.size w W) => turns_ok A0 z0.length c0 z0 W rfl (by omega) (h0.carry hb))
    have H4 := Lib.hid (fun (W : World) (hb : Below w.heap.size w W) => rturns_ok A0 z0.length c0 z0 W rfl (by omega) (h0.carry hb))
    have HRL := Lib.hid (run_len (lvX z0) z0.length)
    generalize runX (lvX z0) z0.length = R at *
    generalize trnX (lvX z0) z0.length = T at *
    have hn2 : z0.length ≤ 30 := by omega
    obtain ⟨n, hn⟩ : ∃ n, z0.length = n := ⟨_, rfl⟩
    rw [hn] at HLG H1 H2 H3 H4 HRL hn2
    rw [hn]
    obtain ⟨r, hr⟩ : ∃ r, R.length = r := ⟨_, rfl⟩
    have HR := Lib.hid hr
    have hr2 : r ≤ 30 := by have := HRL.out; omega
    have HS := Lib.hid (fun A B c d W h1 h2 => same5_ok A B c d r R W hr.symm (by omega) h1 h2)
    clear w0 m0 h0 hn hl n0 hr
    go_enter Try.func4, Try.ntmps4
    go_wp2_with (first
      | (go_at_call 9; (with_reducible refine (HLG.out _).mono ?_); rintro e u ⟨rfl, rfl⟩)
      | (go_at_call 16; (with_reducible refine H1.out.mono ?_); rintro e z1 ⟨v, rfl, m1, b1⟩; obtain ⟨A1, c1, rfl, _, _, s1⟩ := MineN.has m1; rw [HR.out])
      | (go_at_call 17; (with_reducible refine (H2.out _ b1).mono ?_); rintro e z2 ⟨v, rfl, m2, b2⟩; obtain ⟨A2, c2, rfl, _, _, s2⟩ := MineN.has m2; rw [HR.out]; have s1' := s1.carry b2; have b12 := below_trans b1 b2 b1.size)
      | (go_at_call 15; (with_reducible refine (HS.out A1 A2 c1 c2 _ s1' s2).mono ?_); rintro e z3 ⟨rfl, q, rfl⟩; have b13 := below_drewN b12 q)
      | (go_at_call 18; (with_reducible refine (H3.out _ b13).mono ?_); rintro e z4 ⟨rfl, rfl⟩)
      | (go_at_call 19; (with_reducible refine (H4.out _ b13).mono ?_); rintro e z5 ⟨rfl, b5⟩; have b15 := below_trans b13 b5 b13.size))
    go_ret
    exact ⟨rfl, b15⟩

set_option maxRecDepth 100000 in
theorem lifted (os : Os) (started : os.Started) (H : Type) (enc : TypeId × Value → H) :
    ReturnsInHanded {} Try.checked os 4 .any (Rows.reorderRunsSpec.pre6 enc Try.prog Try.f4 Rows.reorderRunsRow.domain false) (Rows.reorderRunsSpec.post enc Try.prog Try.f4 false true false false) := by
  refine returnsInHanded_of_change (C := Try.checked) own started (by kernel_rfl) Try.func4
    (ChangeSpec.witness6 (enc := enc) (C := Try.checked) false ⟨#[], #[.slice none 0 0], []⟩ 8 (by kernel_rfl) (by kernel_rfl) (by kernel_rfl) (by kernel_rfl)) ?_
  intro W base args ds gs before hval0 hW hcnd _
  have hval : ∀ (j : Nat) t v, Try.f4.params[j]? = some t → args[j]? = some v → Value.okWide Try.prog W .any base t v := hval0
  have hW' := hW
  obtain ⟨p, q, hA0, hV, rfl, hfz, hnd⟩ := hW
  have hA : DataW.TrodAll enc Try.prog W 0 (fun _ => true) true Try.f4.params.toList args.toList ds p := hA0
  rw [Try.params4] at hA hval
  obtain ⟨v0, vs0, d0, ds0, p0, q0, hargs, rfl, rfl, h0, r0⟩ := trodAll_cons hA
  obtain ⟨rfl, rfl, rfl⟩ := trodAll_nil r0
  obtain rfl : args = #[v0] := by cases args; simp_all
  obtain ⟨rfl, rfl⟩ := trodVars_none hV
  clear hA0 hval0
  have hlt : ∀ x ∈ p0 ++ [], x.block < W.heap.size := fun x hx => by simpa using hW'.lt x (List.mem_append_left _ hx)
  have k0 := h0
  obtain ⟨A0, l0, c0, rfl⟩ := okWide_slice Try.underlying22 (hval 0 22 v0 rfl rfl)
  obtain ⟨z0, rfl, n0, m0, w0, hh0⟩ := has_ints Try.underlying22 Try.underlying3 (by kernel_rfl) h0 (fun x hx => hlt x (List.mem_append_left _ hx))
  refine (walk A0 c0 z0 W n0 m0 w0 hh0).mono fun e W' ⟨he, hb⟩ => ?_
  subst he
  exact ⟨_, rfl, _, _, _, [], _, [], hW', (trodAll_cons_mk (shut_bool Try.underlying4 _) trodAll_mk0), (trodAll_cons_mk (Below.trod laidOut (by kernel_rfl) (of_decide_eq_true (by kernel_rfl)) k0 hb (fun x hx => hlt x (List.mem_append_left _ hx))) trodAll_mk0), rfl, hb.frame _, fun h => by cases h⟩

theorem over : Rows.reorderRunsRow.holds Try.pinned (OpenSpec.ofChange Rows.reorderRunsSpec) :=
  OpenClaim.holds_of_wide 4 Try.f4 rfl rfl rfl rfl rfl rfl rfl ⟨rfl, rfl, rfl, rfl, rfl⟩ rfl rfl rfl rfl rfl (by kernel_rfl) Try.func4 (by kernel_rfl)
    (of_decide_eq_true (by kernel_rfl)) (by unfold Func.isWrapper; first | (rw [if_pos (by decide +kernel)]; kernel_rfl) | (rw [if_neg (by decide +kernel)]; exact ⟨rfl, rfl⟩))
    (fun os started H enc _ => lifted os started H enc)

/-- the statement -/
theorem proved : Rows.ReorderRunsSaid :=
  over
#print axioms proved
end Go.Proofs.Ytnocdminhcpmpaa.reorderRuns
