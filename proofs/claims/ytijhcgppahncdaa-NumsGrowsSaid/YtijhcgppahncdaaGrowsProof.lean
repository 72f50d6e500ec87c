/-
  For every two ints n, m and every array of two ints (num, den) the statement NumsGrows returns true: nums.Scale by equal factors is Clamp, and Scale never falls as n grows while num is not negative. No condition.
  The frame follows the guide's program (proof-skeleton); the walk is ours.
-/
import Derived.Test.YtijhcgppahncdaaRows
import Derived.WalkKit
import Derived.ProofKit
import Derived.OpenShut
import Derived.Test.YtijhcgppahncdaaRefScale
import Derived.WideKeyPair
import Derived.Deep.QuietTactic
import Derived.BigQuiet
namespace Go.Proofs.Ytijhcgppahncdaa.numsGrows
open Go.ChangeShapes Go.WideShapes Go.ChangeAt Go.RowKit Go.WideMaps
set_option linter.unusedVariables false      -- a walk need not use every 'w<i>' (that an integer argument fits its kind)

theorem own : ownKnob Try.prog.godebug = none := by kernel_rfl


theorem pairLaw : ArrKey Try.prog 34 3 2 := ⟨Try.underlying34, by kernel_rfl, by kernel_rfl, by kernel_rfl⟩
theorem scale_same (n den : Int) (h0 : -9223372036854775808 ≤ n) (h1 : n ≤ 9223372036854775807) (d0 : 1 ≤ den) (d1 : den ≤ 9223372036854775807) (w : World) :
    Calls Try.prog 10 #[.int .i64 n, .int .i64 den, .int .i64 den] w fun e w' => e = .returned (.int .i64 (held n)) ∧ Grown w w' := by
  have h := scale_yes10 n den den h0 h1 (by omega) d1 d0 d1 w
  rw [scaleV_same n den d0] at h
  exact h
theorem scale_one (den : Int) (d0 : 1 ≤ den) (d1 : den ≤ 9223372036854775807) (w : World) :
    Calls Try.prog 10 #[.int .i64 1, .int .i64 den, .int .i64 den] w fun e w' => e = .returned (.int .i64 1) ∧ Grown w w' := by
  have h := scale_yes10 1 den den (by omega) (by omega) (by omega) d1 d0 d1 w
  rw [scaleV_same 1 den d0] at h
  exact h
set_option maxHeartbeats 1000000 in
theorem walk (n m num den : Int) (w0 : (Lit.int .i64 n).wf = true) (w1 : (Lit.int .i64 m).wf = true) (w2 : (Lit.int .i64 num).wf = true) (w3 : (Lit.int .i64 den).wf = true) (w : World) :
    Calls Try.prog 9 #[.int .i64 n, .int .i64 m, .agg #[.int .i64 num, .int .i64 den]] w fun e w' => e = .returned (.bool true) ∧ Grown w w' := by
  have hb0 := wf64 w0
  have hb1 := wf64 w1
  have hb2 := wf64 w2
  have hb3 := wf64 w3
  by_cases h1 : den < 1
  · go_enter Try.func9, Try.ntmps9
    go_wp2
    go_quiet (fail)
    go_wp2_with (go_at_call 10; refine (scale_no10 _ _ _ (by omega) _).mono ?_; rintro e w' ⟨rfl, rfl⟩)
    go_ret
    exact ⟨rfl, by repeat (first | exact Grown.refl _ | apply Grown.drew | apply Grown.alloc)⟩
  · by_cases h2 : m < n
    · go_enter Try.func9, Try.ntmps9
      go_wp2
      go_quiet (fail)
      go_wp2_with (first | (go_at_call 10; (with_reducible refine (scale_one den (by omega) (by omega) _).mono ?_); rintro e W1 ⟨rfl, hg1⟩) | (go_at_call 10; (with_reducible refine (scale_same n den (by omega) (by omega) (by omega) (by omega) _).mono ?_); rintro e W2 ⟨rfl, hg2⟩) | (go_at_call 12; refine (clamp12 _ _).mono ?_; rintro e w' ⟨rfl, rfl⟩))
      go_ret
      exact ⟨rfl, grown_trans (Grown.drew (Grown.alloc (Grown.refl _) _ _)) (grown_trans hg2 hg1)⟩
    · by_cases h3 : num < 0
      · go_enter Try.func9, Try.ntmps9
        go_wp2
        go_quiet (fail)
        go_wp2_with (first | (go_at_call 10; (with_reducible refine (scale_one den (by omega) (by omega) _).mono ?_); rintro e W1 ⟨rfl, hg1⟩) | (go_at_call 10; (with_reducible refine (scale_same n den (by omega) (by omega) (by omega) (by omega) _).mono ?_); rintro e W2 ⟨rfl, hg2⟩) | (go_at_call 12; refine (clamp12 _ _).mono ?_; rintro e w' ⟨rfl, rfl⟩))
        go_ret
        exact ⟨rfl, grown_trans (Grown.drew (Grown.alloc (Grown.refl _) _ _)) (grown_trans hg2 hg1)⟩
      · have hm := scaleV_mono (n := n) (m := m) (num := num) (den := den) (by omega) (by omega) (by omega)
        go_enter Try.func9, Try.ntmps9
        go_wp2
        go_quiet (fail)
        go_wp2_with (first | (go_at_call 10; (with_reducible refine (scale_one den (by omega) (by omega) _).mono ?_); rintro e W1 ⟨rfl, hg1⟩) | (go_at_call 10; (with_reducible refine (scale_same n den (by omega) (by omega) (by omega) (by omega) _).mono ?_); rintro e W2 ⟨rfl, hg2⟩) | (go_at_call 12; refine (clamp12 _ _).mono ?_; rintro e w' ⟨rfl, rfl⟩) | (go_at_call 10; (with_reducible refine (scale_yes10 n num den (by omega) (by omega) (by omega) (by omega) (by omega) (by omega) _).mono ?_); rintro e W3 ⟨rfl, hg3⟩) | (go_at_call 10; (with_reducible refine (scale_yes10 m num den (by omega) (by omega) (by omega) (by omega) (by omega) (by omega) _).mono ?_); rintro e W4 ⟨rfl, hg4⟩))
        go_ret
        exact ⟨rfl, grown_trans (Grown.drew (Grown.alloc (Grown.refl _) _ _)) (grown_trans hg2 (grown_trans hg1 (grown_trans hg3 hg4)))⟩

/-! ### THE ROW's STEP: WRITTEN OUT: LEAVE IT -/
set_option maxRecDepth 100000 in
theorem lifted (os : Os) (started : os.Started) (H : Type) (enc : TypeId × Value → H) :
    ReturnsInHanded {} Try.checked os 9 .any (Rows.numsGrowsSpec.pre6 enc Try.prog Try.f9 Rows.numsGrowsRow.domain false) (Rows.numsGrowsSpec.post enc Try.prog Try.f9 false true false false) := by
  refine returnsInHanded_of_change (C := Try.checked) own started (by kernel_rfl) Try.func9
    (ChangeSpec.witness6 (enc := enc) (C := Try.checked) false ⟨#[], #[.int .i64 0, .int .i64 0, .agg #[.int .i64 0, .int .i64 0]], []⟩ 8 (by kernel_rfl) (by kernel_rfl) (by kernel_rfl) (by kernel_rfl)) ?_
  intro W base args ds gs before hval0 hW hcnd _
  have hval : ∀ (j : Nat) t v, Try.f9.params[j]? = some t → args[j]? = some v → Value.okWide Try.prog W .any base t v := hval0
  have hW' := hW
  obtain ⟨p, q, hA0, hV, rfl, hfz, hnd⟩ := hW
  have hA : DataW.TrodAll enc Try.prog W 0 (fun _ => true) true Try.f9.params.toList args.toList ds p := hA0
  rw [Try.params9] at hA hval
  obtain ⟨v0, vs0, d0, ds0, p0, q0, hargs, rfl, rfl, h0, r0⟩ := trodAll_cons hA
  obtain ⟨v1, vs1, d1, ds1, p1, q1, rfl, rfl, rfl, h1, r1⟩ := trodAll_cons r0
  obtain ⟨v2, vs2, d2, ds2, p2, q2, rfl, rfl, rfl, h2, r2⟩ := trodAll_cons r1
  obtain ⟨rfl, rfl, rfl⟩ := trodAll_nil r2
  obtain rfl : args = #[v0, v1, v2] := by cases args; simp_all
  obtain ⟨rfl, rfl⟩ := trodVars_none hV
  obtain ⟨a0, rfl, rfl, rfl, w0⟩ := open_int Try.underlying3 (hval 0 3 v0 rfl rfl) h0
  obtain ⟨a1, rfl, rfl, rfl, w1⟩ := open_int Try.underlying3 (hval 1 3 v1 rfl rfl) h1
  obtain ⟨a2, a3, rfl, rfl, rfl, w2, w3⟩ := open_pair pairLaw Try.underlying3 (hval 2 34 v2 rfl rfl) h2
  clear hA0 hval0
  simp only [List.append_nil] at hW'
  refine (walk a0 a1 a2 a3 w0 w1 w2 w3 W).mono fun e W' ⟨he, hg⟩ => ?_
  subst he
  exact ⟨_, rfl, post_of_same (pa := []) (pv := []) hW' (fun _ _ _ => (trodAll_cons_mk (shut_bool Try.underlying4 _) trodAll_mk0)) (fun sp _ => (trodAll_cons_mk (shut_int Try.underlying3 w0) (trodAll_cons_mk (shut_int Try.underlying3 w1) (trodAll_cons_mk (shut_pair pairLaw Try.underlying3 w2 w3) trodAll_mk0)))) (fun _ _ => rfl) rfl
    (hg.frame _) hg.2.1 (ok_one (by kernel_rfl) rfl (okWide_bool_mk Try.underlying4 _))⟩

theorem over : Rows.numsGrowsRow.holds Try.pinned (OpenSpec.ofChange Rows.numsGrowsSpec) :=
  OpenClaim.holds_of_wide 9 Try.f9 rfl rfl rfl rfl rfl rfl rfl ⟨rfl, rfl, rfl, rfl, rfl⟩ rfl rfl rfl rfl rfl (by kernel_rfl) Try.func9 (by kernel_rfl)
    (of_decide_eq_true (by kernel_rfl)) (by unfold Func.isWrapper; first | (rw [if_pos (by decide +kernel)]; kernel_rfl) | (rw [if_neg (by decide +kernel)]; exact ⟨rfl, rfl⟩))
    (fun os started H enc _ => lifted os started H enc)

/-- ████ THE STATEMENT ████ -/
theorem proved : Rows.NumsGrowsSaid :=
  over
#print axioms proved
end Go.Proofs.Ytijhcgppahncdaa.numsGrows
