/-
  For every []int and every int the statement NeutralLevels returns true: the implicit levels are those of the document's answer, none is below the sequence's level nor more than two above it. No condition.
-/
import Derived.Test.YtfjmcfcaphodgaaHas
import Derived.Test.YtfjmcfcaphodgaaHas
import Derived.Test.YtfjmcfcaphodgaaNel
import Derived.Test.YtfjmcfcaphodgaaNei
set_option linter.unusedVariables false
namespace Go.Proofs.Ytfjmcfcaphodgaa.neutralLevels
open Go.ChangeShapes Go.WideShapes Go.ChangeAt Go.RowKit Go.Proofs.Ytfjmcfcaphodgaa
theorem own : ownKnob Try.prog.godebug = none := by kernel_rfl
theorem laidOut : laidOutB Try.prog = true := by kernel_rfl

theorem walk (A0 : Option Addr) (c0 : Nat) (z0 : List Int) (a1 : Int) (w : World) (n0 : z0.length ≤ 9223372036854775807) (m0 : z0.length ≤ c0) (w0 : ∀ z ∈ z0, (Lit.int .i64 z).wf = true) (h0 : Has w w.heap.size A0 (z0.map (Value.int .i64))) (w1 : (Lit.int .i64 a1).wf = true) :
    Calls Try.prog 5 #[.slice A0 z0.length c0, .int .i64 a1] w fun e w' => e = .returned (.bool true) ∧ Below w.heap.size w w' := by
  have HAL := Lib.hid (fun w => alive_ok w)
  have hlo : -9223372036854775808 ≤ a1 := by simp [Lit.wf, IntKind.bits, IntKind.signed, IntKind.min, IntKind.max] at w1; omega
  by_cases hl : 200 < z0.length
  · have d0 : decide ((200 : Int) < (z0.length : Int)) = true := decide_eq_true (by omega)
    clear w0 m0 h0 w1
    go_enter Try.func5, Try.ntmps5
    go_wp2_with (go_at_call 7; (with_reducible refine (HAL.out _).mono ?_); rintro e u ⟨rfl, hb⟩)
    go_ret
    exact ⟨rfl, hb⟩
  have d0 : decide ((200 : Int) < (z0.length : Int)) = false := decide_eq_false (by omega)
  by_cases hh : 1099511627776 < a1
  · have d1 : decide ((1099511627776 : Int) < a1) = true := decide_eq_true hh
    clear w0 m0 h0 w1
    go_enter Try.func5, Try.ntmps5
    go_wp2_with (go_at_call 7; (with_reducible refine (HAL.out _).mono ?_); rintro e u ⟨rfl, hb⟩)
    go_ret
    exact ⟨rfl, hb⟩
  have d1 : decide ((1099511627776 : Int) < a1) = false := decide_eq_false hh
  have HI := Lib.hid (implicit_ok A0 z0.length c0 a1 z0 w rfl (by omega) hlo (by omega) h0)
  have HL := Lib.hid (imp_len z0 a1)
  have HB : Hid (∀ (i : Nat) (h : i < (impL z0 a1).length), a1 ≤ (impL z0 a1)[i] ∧ (impL z0 a1)[i] ≤ a1 + 2) := Lib.hid fun i h => by rw [imp_get]; exact imp_bnd _ _
  have HRI := Lib.hid (fun W h => rimplicit_ok A0 z0.length c0 a1 z0 W rfl (by omega) hlo (by omega) h)
  have H0 := Lib.hid h0
  have kw : IntKind.i64.wrap (a1 + 2) = a1 + 2 := IntWalk.i64_in _ (by omega)
  obtain ⟨R, hR⟩ : ∃ R, impL z0 a1 = R := ⟨_, rfl⟩
  rw [hR] at HI HL HRI
  have HB2 : Hid (∀ (i : Nat) (h : i < R.length), a1 ≤ R[i] ∧ R[i] ≤ a1 + 2) := Lib.hid (by subst hR; exact HB.out)
  obtain ⟨n, hn⟩ : ∃ n, z0.length = n := ⟨_, rfl⟩
  rw [hn] at d0 HI HL HRI m0 n0 hl
  have hn2 : n ≤ 200 := by omega
  have HIN := Lib.hid (fun A B c d W h1 h2 => ints_ok A B c d n R W HL.out.symm (by omega) h1 h2)
  rw [hn]
  clear w0 w1 hR h0 hn HB hlo hh m0 n0 hl
  go_enter Try.func5, Try.ntmps5
  go_wp2_with (first
    | (go_at_call 14; (with_reducible refine HI.out.mono ?_); rintro e u1 ⟨v, rfl, hm, hb1⟩; obtain ⟨A5, c5, rfl, hc5, _, hh5⟩ := hm.size; rw [HL.out] at hc5 hm ⊢; have H5 := Lib.hid hh5; have HB1 := Lib.hid hb1; clear hm hh5 hb1))
  go_loopw [6] (fun i wr => ∃ k : Nat, k ≤ n ∧ i = .int .i64 k ∧ u1 = wr) (fun i _ => n - (intOf i).toNat)
  case atStart => exact ⟨0, by omega, rfl, rfl⟩
  case round =>
    obtain ⟨k, hk, rfl, rfl⟩ := hrel
    by_cases hlt : k < n
    · have hlt3 : k < R.length := by rw [HL.out]; exact hlt
      obtain ⟨b5, o5, rfl, hb5, hc5'⟩ := H5.out.at_int hlt3
      obtain ⟨q1, q2⟩ := HB2.out k hlt3
      generalize R[k] = y at hc5' q1 q2
      have e1 : decide (y < a1) = false := decide_eq_false (by omega)
      have e2 : decide (a1 + 2 < y) = false := decide_eq_false (by omega)
      clear hlt3 q1 q2
      go_wp2
      go_roundw
      case rel => exact ⟨k + 1, by omega, by go_num, trivial⟩
      case measure => simp [intOf] <;> omega
    · obtain rfl : k = n := by omega
      have hh0 := H0.out.carry HB1.out
      go_wp2_with (first
        | (go_at_call 15; (with_reducible refine (HRI.out _ hh0).mono ?_); rintro e u2 ⟨v, rfl, hm2, hb2⟩; obtain ⟨A6, c6, rfl, hc6, _, hh6⟩ := hm2.size; rw [HL.out] at hc6 ⊢; have h52 := H5.out.carry hb2)
        | (go_at_call 8; (with_reducible refine (HIN.out A5 A6 c5 c6 _ h52 hh6).mono ?_); rintro e u3 ⟨rfl, q, rfl⟩)
        | (go_at_call 7; (with_reducible refine (HAL.out _).mono ?_); rintro e u4 ⟨rfl, hb4⟩))
      go_ret
      have B2 := below_trans HB1.out hb2 HB1.out.size
      exact ⟨rfl, below_trans (below_drewN B2 q) hb4 (below_drewN B2 q).size⟩

set_option maxRecDepth 100000 in
theorem lifted (os : Os) (started : os.Started) (H : Type) (enc : TypeId × Value → H) :
    ReturnsInHanded {} Try.checked os 5 .any (Rows.neutralLevelsSpec.pre6 enc Try.prog Try.f5 Rows.neutralLevelsRow.domain false) (Rows.neutralLevelsSpec.post enc Try.prog Try.f5 false true false false) := by
  refine returnsInHanded_of_change (C := Try.checked) own started (by kernel_rfl) Try.func5
    (ChangeSpec.witness6 (enc := enc) (C := Try.checked) false ⟨#[], #[.slice none 0 0, .int .i64 0], []⟩ 8 (by kernel_rfl) (by kernel_rfl) (by kernel_rfl) (by kernel_rfl)) ?_
  intro W base args ds gs before hval0 hW hcnd _
  have hval : ∀ (j : Nat) t v, Try.f5.params[j]? = some t → args[j]? = some v → Value.okWide Try.prog W .any base t v := hval0
  have hW' := hW
  obtain ⟨p, q, hA0, hV, rfl, hfz, hnd⟩ := hW
  have hA : DataW.TrodAll enc Try.prog W 0 (fun _ => true) true Try.f5.params.toList args.toList ds p := hA0
  rw [Try.params5] at hA hval
  obtain ⟨v0, vs0, d0, ds0, p0, q0, hargs, rfl, rfl, h0, r0⟩ := trodAll_cons hA
  obtain ⟨v1, vs1, d1, ds1, p1, q1, rfl, rfl, rfl, h1, r1⟩ := trodAll_cons r0
  obtain ⟨rfl, rfl, rfl⟩ := trodAll_nil r1
  obtain rfl : args = #[v0, v1] := by cases args; simp_all
  obtain ⟨rfl, rfl⟩ := trodVars_none hV
  clear hA0 hval0
  have hlt : ∀ x ∈ p0 ++ (p1 ++ []), x.block < W.heap.size := fun x hx => by simpa using hW'.lt x (List.mem_append_left _ hx)
  have k0 := h0
  have k1 := h1
  obtain ⟨A0, l0, c0, rfl⟩ := okWide_slice Try.underlying22 (hval 0 22 v0 rfl rfl)
  obtain ⟨z0, rfl, n0, m0, w0, hh0⟩ := has_ints Try.underlying22 Try.underlying3 (by kernel_rfl) h0 (fun x hx => hlt x (List.mem_append_left _ hx))
  obtain ⟨a1, rfl, rfl, rfl, w1⟩ := open_int Try.underlying3 (hval 1 3 v1 rfl rfl) h1
  refine (walk A0 c0 z0 a1 W n0 m0 w0 hh0 w1).mono fun e W' ⟨he, hb⟩ => ?_
  subst he
  exact ⟨_, rfl, _, _, _, [], _, [], hW', (trodAll_cons_mk (shut_bool Try.underlying4 _) trodAll_mk0), (trodAll_cons_mk (Below.trod laidOut (by kernel_rfl) (of_decide_eq_true (by kernel_rfl)) k0 hb (fun x hx => hlt x (List.mem_append_left _ hx))) (trodAll_cons_mk (Below.trod laidOut (by kernel_rfl) (of_decide_eq_true (by kernel_rfl)) k1 hb (fun x hx => hlt x (List.mem_append_right _ (List.mem_append_left _ hx)))) trodAll_mk0)), rfl, hb.frame _, fun h => by cases h⟩

theorem over : Rows.neutralLevelsRow.holds Try.pinned (OpenSpec.ofChange Rows.neutralLevelsSpec) :=
  OpenClaim.holds_of_wide 5 Try.f5 rfl rfl rfl rfl rfl rfl rfl ⟨rfl, rfl, rfl, rfl, rfl⟩ rfl rfl rfl rfl rfl (by kernel_rfl) Try.func5 (by kernel_rfl)
    (of_decide_eq_true (by kernel_rfl)) (by unfold Func.isWrapper; first | (rw [if_pos (by decide +kernel)]; kernel_rfl) | (rw [if_neg (by decide +kernel)]; exact ⟨rfl, rfl⟩))
    (fun os started H enc _ => lifted os started H enc)

/-- the statement -/
theorem proved : Rows.NeutralLevelsSaid :=
  over
#print axioms proved
end Go.Proofs.Ytfjmcfcaphodgaa.neutralLevels
