/-
  For every []rune t the statement BaseParas returns true: the program's paragraphs are the document's. No condition.
-/
import Derived.Test.YtneiifjihgbacaaHas
import Derived.Test.YtneiifjihgbacaaAlb
set_option linter.unusedVariables false
namespace Go.Proofs.Ytneiifjihgbacaa.baseParas
open Go.ChangeShapes Go.WideShapes Go.ChangeAt Go.RowKit Go.Proofs.Ytneiifjihgbacaa
theorem own : ownKnob Try.prog.godebug = none := by kernel_rfl
theorem laidOut : laidOutB Try.prog = true := by kernel_rfl

set_option maxRecDepth 20000 in
set_option maxHeartbeats 8000000 in
theorem walk (A0 : Option Addr) (c0 : Nat) (z0 : List Int) (w : World) (n0 : z0.length ≤ 9223372036854775807) (m0 : z0.length ≤ c0) (w0 : ∀ z ∈ z0, (Lit.int .i32 z).wf = true) (h0 : Has w w.heap.size A0 (z0.map (Value.int .i32))) :
    Calls Try.prog 3 #[.slice A0 z0.length c0] w fun e w' => e = .returned (.bool true) ∧ Below w.heap.size w w' := by
  have HAL := Lib.hid (fun w => alive_ok w)
  by_cases hl : 300 < z0.length
  · clear w0 m0 h0
    go_enter Try.func3, Try.ntmps3
    go_wp2_with (go_at_call 9; (with_reducible refine (HAL.out _).mono ?_); rintro e u ⟨rfl, hu⟩)
    go_ret
    exact ⟨rfl, hu⟩
  have hn : z0.length ≤ 300 := by omega
  have H10 := Lib.hid (fun w h => paras_ok A0 z0.length c0 z0 w rfl (by omega) h)
  have H11 := Lib.hid (fun w h => rparas_ok A0 z0.length c0 z0 w rfl (by omega) h)
  have hpl : (parL z0).length ≤ 300 := by have := par_len z0 z0.length; unfold parL; omega
  generalize parL z0 = l at *
  have hlb : decide (300 < (z0.length : Int)) = false := decide_eq_false (by omega)
  clear w0 m0 n0
  go_enter Try.func3, Try.ntmps3
  go_wp2_with (first
    | (go_at_call 10; (with_reducible refine (H10.out _ h0).mono ?_); rintro e u1 ⟨v1, rfl, A1, c1, rfl, _, hc1, hb1⟩; have g1 := h0.carry hb1)
    | (go_at_call 11; (with_reducible refine (H11.out _ g1).mono ?_); rintro e u2 ⟨v2, rfl, A2, c2, rfl, _, hc2, hb2⟩; have B2 := below_trans hb1 hb2 hb1.size; have hc1 := hc1.carry hb2))
  have HC1 := Lib.hid hc1
  have HC2 := Lib.hid hc2
  have HB2 := Lib.hid B2
  clear hc1 hc2 B2 g1 hb1 hb2 H10 H11 h0
  go_loopw [21] (fun i wr => ∃ k : Nat, k ≤ l.length ∧ i = .int .i64 k ∧ ∃ q, wr = u2.drewN q) (fun i _ => l.length - (intOf i).toNat)
  case atStart => exact ⟨0, by omega, rfl, 0, rfl⟩
  case round =>
    obtain ⟨k, hk, rfl, q, rfl⟩ := hrel
    by_cases hlt : k < l.length
    · obtain ⟨b, off, rfl, hb, hca, hcb⟩ := HC1.out.at_ hlt
      obtain ⟨b2, off2, rfl, hb2, hda, hdb⟩ := HC2.out.at_ hlt
      generalize l[k] = X at hca hcb hda hdb
      obtain ⟨X, Y⟩ := X
      simp only at hca hcb hda hdb
      have hne := fun w => neC_run X Y w
      go_wp2
      go_quiet (fail)
      go_wp2
      go_roundw
      case rel => exact ⟨k + 1, by omega, by go_num, _, rfl⟩
      case measure => simp [intOf] <;> omega
    · go_wp2_with (go_at_call 9; (with_reducible refine (HAL.out _).mono ?_); rintro e u3 ⟨rfl, hb3⟩)
      go_ret
      exact ⟨rfl, below_trans (below_drewN HB2.out _) hb3 HB2.out.size⟩

set_option maxRecDepth 100000 in
theorem lifted (os : Os) (started : os.Started) (H : Type) (enc : TypeId × Value → H) :
    ReturnsInHanded {} Try.checked os 3 .any (Rows.baseParasSpec.pre6 enc Try.prog Try.f3 Rows.baseParasRow.domain false) (Rows.baseParasSpec.post enc Try.prog Try.f3 false true false false) := by
  refine returnsInHanded_of_change (C := Try.checked) own started (by kernel_rfl) Try.func3
    (ChangeSpec.witness6 (enc := enc) (C := Try.checked) false ⟨#[], #[.slice none 0 0], []⟩ 8 (by kernel_rfl) (by kernel_rfl) (by kernel_rfl) (by kernel_rfl)) ?_
  intro W base args ds gs before hval0 hW hcnd _
  have hval : ∀ (j : Nat) t v, Try.f3.params[j]? = some t → args[j]? = some v → Value.okWide Try.prog W .any base t v := hval0
  have hW' := hW
  obtain ⟨p, q, hA0, hV, rfl, hfz, hnd⟩ := hW
  have hA : DataW.TrodAll enc Try.prog W 0 (fun _ => true) true Try.f3.params.toList args.toList ds p := hA0
  rw [Try.params3] at hA hval
  obtain ⟨v0, vs0, d0, ds0, p0, q0, hargs, rfl, rfl, h0, r0⟩ := trodAll_cons hA
  obtain ⟨rfl, rfl, rfl⟩ := trodAll_nil r0
  obtain rfl : args = #[v0] := by cases args; simp_all
  obtain ⟨rfl, rfl⟩ := trodVars_none hV
  clear hA0 hval0
  have hlt : ∀ x ∈ p0 ++ [], x.block < W.heap.size := fun x hx => by simpa using hW'.lt x (List.mem_append_left _ hx)
  have k0 := h0
  obtain ⟨A0, l0, c0, rfl⟩ := okWide_slice Try.underlying22 (hval 0 22 v0 rfl rfl)
  obtain ⟨z0, rfl, n0, m0, w0, hh0⟩ := has_ints Try.underlying22 Try.underlying21 (by kernel_rfl) h0 (fun x hx => hlt x (List.mem_append_left _ hx))
  refine (walk A0 c0 z0 W n0 m0 w0 hh0).mono fun e W' ⟨he, hb⟩ => ?_
  subst he
  exact ⟨_, rfl, _, _, _, [], _, [], hW', (trodAll_cons_mk (shut_bool Try.underlying4 _) trodAll_mk0), (trodAll_cons_mk (Below.trod laidOut (by kernel_rfl) (of_decide_eq_true (by kernel_rfl)) k0 hb (fun x hx => hlt x (List.mem_append_left _ hx))) trodAll_mk0), rfl, hb.frame _, fun h => by cases h⟩

theorem over : Rows.baseParasRow.holds Try.pinned (OpenSpec.ofChange Rows.baseParasSpec) :=
  OpenClaim.holds_of_wide 3 Try.f3 rfl rfl rfl rfl rfl rfl rfl ⟨rfl, rfl, rfl, rfl, rfl⟩ rfl rfl rfl rfl rfl (by kernel_rfl) Try.func3 (by kernel_rfl)
    (of_decide_eq_true (by kernel_rfl)) (by unfold Func.isWrapper; first | (rw [if_pos (by decide +kernel)]; kernel_rfl) | (rw [if_neg (by decide +kernel)]; exact ⟨rfl, rfl⟩))
    (fun os started H enc _ => lifted os started H enc)

/-- the statement -/
theorem proved : Rows.BaseParasSaid :=
  over
#print axioms proved
end Go.Proofs.Ytneiifjihgbacaa.baseParas
