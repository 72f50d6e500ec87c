/-
  For every two ints n, by the statement NumsFloors returns true: nums.Floor answers what the document's Floor answers, and by times the quotient plus the remainder is n where by is at least 1. No condition.
  The frame was written by the guide's program (proof-skeleton); the walk is ours.
-/
import Derived.Test.YtijhcgppahncdaaRows
import Derived.WalkKit
import Derived.ProofKit
import Derived.OpenShut
import Derived.Lib.Hide
import Derived.Deep.QuietTactic
import Derived.BigQuiet
namespace Go.Proofs.Ytijhcgppahncdaa.numsFloors
open Go.ChangeShapes Go.WideShapes Go.ChangeAt Go.RowKit
set_option linter.unusedVariables false      -- a walk need not use every 'w<i>' (that an integer argument fits its kind)

theorem own : ownKnob Try.prog.godebug = none := by kernel_rfl

open Go.Proofs.Ytijhcgppahncdaa
theorem wf64 {n : Int} (h : (Lit.int .i64 n).wf = true) : -9223372036854775808 ≤ n ∧ n ≤ 9223372036854775807 := by
  simpa [Lit.wf, IntKind.bits, IntKind.signed, IntKind.min, IntKind.max] using h
theorem tdivmod (n d : Int) (hd : 1 ≤ d) : (n.tmod d < 0 → n.tdiv d - 1 = n / d ∧ n.tmod d + d = n % d) ∧ (0 ≤ n.tmod d → n.tdiv d = n / d ∧ n.tmod d = n % d) := by
  have h1 : d * n.tdiv d + n.tmod d = n := Int.mul_tdiv_add_tmod n d
  have h2 : n.tmod d < d := Int.tmod_lt_of_pos n (by omega)
  have h3 : -d < n.tmod d := by
    have h := Int.neg_tmod n d
    have h' := Int.tmod_lt_of_pos (-n) (b := d) (by omega)
    omega
  have key : ∀ q r : Int, d * q + r = n → 0 ≤ r → r < d → q = n / d ∧ r = n % d := fun q r e h0 hlt => by
    have := (Int.ediv_emod_unique (a := n) (b := d) (r := r) (q := q) (by omega)).2 ⟨by omega, h0, hlt⟩
    exact ⟨this.1.symm, this.2.symm⟩
  refine ⟨fun h => key _ _ (by rw [Int.mul_sub]; omega) (by omega) (by omega), fun h => key _ _ h1 h h2⟩
theorem floor_no (f : Nat) (hf : f = 14 ∨ f = 15) (n d : Int) (h : d < 1) (w : World) :
    Calls Try.prog f #[.int .i64 n, .int .i64 d] w fun e w' => e = .returned (.tuple #[.int .i64 0, .int .i64 0]) ∧ w = w' := by
  rcases hf with rfl | rfl
  · go_enter Try.func14, Try.ntmps14
    go_wp2
    go_ret2
    exact ⟨rfl, rfl⟩
  · go_enter Try.func15, Try.ntmps15
    go_wp2
    go_ret2
    exact ⟨rfl, rfl⟩
theorem ret2 {k m : IntKind} {a b c d : Int} (h : a = b) (h' : c = d) : Ending.returned (.tuple #[.int k a, .int m c]) = .returned (.tuple #[.int k b, .int m d]) := by rw [h, h']
theorem ediv_in (n d : Int) (hd : 1 ≤ d) (h0 : -9223372036854775808 ≤ n) (h1 : n ≤ 9223372036854775807) : -9223372036854775808 ≤ n / d ∧ n / d ≤ 9223372036854775807 := by
  constructor
  · have := (Int.le_ediv_iff_mul_le (a := -9223372036854775808) (b := n) (c := d) (by omega)).2 (by omega)
    exact this
  · rcases Int.lt_or_le n 0 with h | h
    · have := Int.ediv_neg_of_neg_of_pos h (show 0 < d by omega); omega
    · have := Int.ediv_le_self d h; omega
theorem floor_yes (f : Nat) (hf : f = 14 ∨ f = 15) (n d : Int) (h0 : -9223372036854775808 ≤ n) (h1 : n ≤ 9223372036854775807) (h : ¬ d < 1) (h2 : d ≤ 9223372036854775807) (w : World) :
    Calls Try.prog f #[.int .i64 n, .int .i64 d] w fun e w' => e = .returned (.tuple #[.int .i64 (n / d), .int .i64 (n % d)]) ∧ Grown w w' := by
  obtain ⟨ta, tb⟩ := tdivmod n d (by omega)
  have h3 := Int.tmod_lt_of_pos n (b := d) (by omega)
  have hq := ediv_in n d (by omega) h0 h1
  have hm : 0 ≤ n % d ∧ n % d < d := ⟨Int.emod_nonneg _ (by omega), Int.emod_lt_of_pos _ (by omega)⟩
  rcases hf with rfl | rfl
  · by_cases hr : n.tmod d < 0
    · obtain ⟨tq, tr⟩ := ta hr
      clear ta tb
      have TQ : Hid (wrap64 (n.tdiv d - 1) = n / d) := Lib.hid (by rw [← tq] at hq; rw [IntWalk.wrap64_in _ hq]; exact tq)
      have TR : Hid (wrap64 (n.tmod d + d) = n % d) := Lib.hid (by rw [← tr] at hm; rw [IntWalk.wrap64_in _ (by omega)]; exact tr)
      clear tq tr hq hm
      go_enter Try.func14, Try.ntmps14
      go_wp2
      go_quiet (fail)
      go_wp2
      all_goals
        go_ret2
        exact ⟨ret2 TQ.out TR.out, Grown.refl _⟩
    · obtain ⟨tq, tr⟩ := tb (by omega)
      clear ta tb
      have TQ : Hid (n.tdiv d = n / d) := Lib.hid (by rw [← tq] at hq; exact tq)
      have TR : Hid (n.tmod d = n % d) := Lib.hid (by rw [← tr] at hm; exact tr)
      clear tq tr hq hm
      go_enter Try.func14, Try.ntmps14
      go_wp2
      go_quiet (fail)
      go_wp2
      all_goals
        go_ret2
        exact ⟨ret2 TQ.out TR.out, Grown.refl _⟩
  · by_cases hr : n.tmod d < 0
    · obtain ⟨tq, tr⟩ := ta hr
      clear ta tb
      have TQ : Hid (wrap64 (n.tdiv d - 1) = n / d) := Lib.hid (by rw [← tq] at hq; rw [IntWalk.wrap64_in _ hq]; exact tq)
      have TR : Hid (wrap64 (n.tmod d + d) = n % d) := Lib.hid (by rw [← tr] at hm; rw [IntWalk.wrap64_in _ (by omega)]; exact tr)
      clear tq tr hq hm
      go_enter Try.func15, Try.ntmps15
      go_wp2
      go_quiet (fail)
      go_wp2
      all_goals
        go_ret2
        exact ⟨ret2 TQ.out TR.out, Grown.refl _⟩
    · obtain ⟨tq, tr⟩ := tb (by omega)
      clear ta tb
      have TQ : Hid (n.tdiv d = n / d) := Lib.hid (by rw [← tq] at hq; exact tq)
      have TR : Hid (n.tmod d = n % d) := Lib.hid (by rw [← tr] at hm; exact tr)
      clear tq tr hq hm
      go_enter Try.func15, Try.ntmps15
      go_wp2
      go_quiet (fail)
      go_wp2
      all_goals
        go_ret2
        exact ⟨ret2 TQ.out TR.out, Grown.refl _⟩
theorem wrap_back (a b n : Int) (h : a + b = n) (h0 : -9223372036854775808 ≤ n) (h1 : n ≤ 9223372036854775807) : wrap64 (wrap64 a + b) = n := by
  unfold wrap64; omega
theorem grown_trans {a b c : World} (h : Grown a b) (k : Grown b c) : Grown a c :=
  ⟨World.keptBut_trans h.1 k.1, fun x => (k.2.1 x).trans (h.2.1 x), Nat.le_trans h.2.2 k.2.2⟩

/-! ### STEP 1: THE WALK: the Go text returns true. 'Grown w w'': the world has at most new blocks (Derived/RowKit3.lean). Part the cases AHEAD of 'go_enter' where a test parts the walk; take each callee by a contract of your own. -/
theorem walk (a0 : Int) (a1 : Int) (w0 : (Lit.int .i64 a0).wf = true) (w1 : (Lit.int .i64 a1).wf = true) (w : World) :
    Calls Try.prog 5 #[.int .i64 a0, .int .i64 a1] w fun e w' => e = .returned (.bool true) ∧ Grown w w' := by
  have hb0 := wf64 w0
  have hb1 := wf64 w1
  by_cases h1 : a1 < 1
  · go_enter Try.func5, Try.ntmps5
    go_wp2_with (first | (go_at_call 14; refine (floor_no _ (Or.inl rfl) _ _ h1 _).mono ?_; rintro e w' ⟨rfl, rfl⟩) | (go_at_call 15; refine (floor_no _ (Or.inr rfl) _ _ h1 _).mono ?_; rintro e w' ⟨rfl, rfl⟩))
    go_ret
    exact ⟨rfl, Grown.refl _⟩
  · have h2 : (wrap64 (wrap64 (a1 * (a0 / a1)) + a0 % a1) == a0) = true := by
      rw [wrap_back _ _ _ (Int.mul_ediv_add_emod a0 a1) (by omega) (by omega)]; simp
    go_enter Try.func5, Try.ntmps5
    go_wp2_with (first | (go_at_call 14; refine (floor_yes _ (Or.inl rfl) a0 a1 (by omega) (by omega) (by omega) (by omega) _).mono ?_; rintro e W1 ⟨rfl, hg1⟩) | (go_at_call 15; refine (floor_yes _ (Or.inr rfl) a0 a1 (by omega) (by omega) (by omega) (by omega) _).mono ?_; rintro e W2 ⟨rfl, hg2⟩))
    go_ret
    exact ⟨rfl, grown_trans hg1 hg2⟩

/-! ### THE ROW's STEP: WRITTEN OUT: LEAVE IT -/
set_option maxRecDepth 100000 in
theorem lifted (os : Os) (started : os.Started) (H : Type) (enc : TypeId × Value → H) :
    ReturnsInHanded {} Try.checked os 5 .any (Rows.numsFloorsSpec.pre6 enc Try.prog Try.f5 Rows.numsFloorsRow.domain false) (Rows.numsFloorsSpec.post enc Try.prog Try.f5 false true false false) := by
  refine returnsInHanded_of_change (C := Try.checked) own started (by kernel_rfl) Try.func5
    (ChangeSpec.witness6 (enc := enc) (C := Try.checked) false ⟨#[], #[.int .i64 0, .int .i64 0], []⟩ 8 (by kernel_rfl) (by kernel_rfl) (by kernel_rfl) (by kernel_rfl)) ?_
  intro W base args ds gs before hval0 hW hcnd _
  have hval : ∀ (j : Nat) t v, Try.f5.params[j]? = some t → args[j]? = some v → Value.okWide Try.prog W .any base t v := hval0
  have hW' := hW
  obtain ⟨p, q, hA0, hV, rfl, hfz, hnd⟩ := hW
  have hA : DataW.TrodAll enc Try.prog W 0 (fun _ => true) true Try.f5.params.toList args.toList ds p := hA0
  rw [Try.params5] at hA hval
  obtain ⟨v0, vs0, d0, ds0, p0, q0, hargs, rfl, rfl, h0, r0⟩ := trodAll_cons hA
  obtain ⟨v1, vs1, d1, ds1, p1, q1, rfl, rfl, rfl, h1, r1⟩ := trodAll_cons r0
  obtain ⟨rfl, rfl, rfl⟩ := trodAll_nil r1
  obtain rfl : args = #[v0, v1] := by cases args; simp_all
  obtain ⟨rfl, rfl⟩ := trodVars_none hV
  obtain ⟨a0, rfl, rfl, rfl, w0⟩ := open_int Try.underlying3 (hval 0 3 v0 rfl rfl) h0
  obtain ⟨a1, rfl, rfl, rfl, w1⟩ := open_int Try.underlying3 (hval 1 3 v1 rfl rfl) h1
  clear hA0 hval0
  simp only [List.append_nil] at hW'
  refine (walk a0 a1 w0 w1 W).mono fun e W' ⟨he, hg⟩ => ?_
  subst he
  exact ⟨_, rfl, post_of_same (pa := []) (pv := []) hW' (fun _ _ _ => (trodAll_cons_mk (shut_bool Try.underlying4 _) trodAll_mk0)) (fun sp _ => (trodAll_cons_mk (shut_int Try.underlying3 w0) (trodAll_cons_mk (shut_int Try.underlying3 w1) trodAll_mk0))) (fun _ _ => rfl) rfl
    (hg.frame _) hg.2.1 (ok_one (by kernel_rfl) rfl (okWide_bool_mk Try.underlying4 _))⟩

theorem over : Rows.numsFloorsRow.holds Try.pinned (OpenSpec.ofChange Rows.numsFloorsSpec) :=
  OpenClaim.holds_of_wide 5 Try.f5 rfl rfl rfl rfl rfl rfl rfl ⟨rfl, rfl, rfl, rfl, rfl⟩ rfl rfl rfl rfl rfl (by kernel_rfl) Try.func5 (by kernel_rfl)
    (of_decide_eq_true (by kernel_rfl)) (by unfold Func.isWrapper; first | (rw [if_pos (by decide +kernel)]; kernel_rfl) | (rw [if_neg (by decide +kernel)]; exact ⟨rfl, rfl⟩))
    (fun os started H enc _ => lifted os started H enc)

/-- ████ THE STATEMENT ████ -/
theorem proved : Rows.NumsFloorsSaid :=
  over
#print axioms proved
end Go.Proofs.Ytijhcgppahncdaa.numsFloors
