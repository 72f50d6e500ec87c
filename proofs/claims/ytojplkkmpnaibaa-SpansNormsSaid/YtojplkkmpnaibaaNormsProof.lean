/-
  The statement 'SpansNormsSaid': what Norm tells of any spans. No condition.
-/
import Derived.Test.YtojplkkmpnaibaaHas
import Derived.Test.YtojplkkmpnaibaaHasStruct
import Derived.Test.YtojplkkmpnaibaaNorm
import Derived.Test.YtojplkkmpnaibaaArg
set_option linter.unusedVariables false
namespace Go.Proofs.Ytojplkkmpnaibaa.spansNorms
open Go.ChangeShapes Go.WideShapes Go.ChangeAt Go.RowKit Go.Proofs.Ytojplkkmpnaibaa
theorem own : ownKnob Try.prog.godebug = none := by kernel_rfl
theorem laidOut : laidOutB Try.prog = true := by kernel_rfl


set_option maxHeartbeats 2000000 in
theorem walk (A0 : Option Addr) (c0 : Nat) (z0 : List (List Int)) (a1 : Int) (w : World) (n0 : z0.length ≤ 9223372036854775807) (m0 : z0.length ≤ c0) (w0 : ∀ z ∈ z0, z.length = 3 ∧ ∀ x ∈ z, (Lit.int .i64 x).wf = true) (h0 : HasRows w w.heap.size A0 3 (z0.map (·.map (Value.int .i64)))) (w1 : (Lit.int .i64 a1).wf = true) :
    Calls Try.prog 3 #[.slice A0 z0.length c0, .int .i64 a1] w fun e w' => e = .returned (.bool true) ∧ Below w.heap.size w w' := by
  obtain ⟨l, hl, hh, _⟩ := spans_of_rows w0 h0
  obtain ⟨n, hn⟩ : ∃ n, z0.length = n := ⟨_, rfl⟩
  rw [hn] at hl n0 ⊢
  by_cases hm : 20 < n
  · have hd : decide (20 < (n : Int)) = true := decide_eq_true (by omega)
    have hmany := fun w1 => many_ok A0 c0 n w1
    rw [hd] at hmany
    clear hm hd h0 hh
    go_enter Try.func3, Try.ntmps3
    go_wp2_with (go_at_call 11; refine (hmany _).mono ?_; rintro e w' ⟨rfl, rfl⟩)
    go_ret
    exact ⟨rfl, Below.refl _ _⟩
  have hd : decide (20 < (n : Int)) = false := decide_eq_false (by omega)
  have hmany := fun w1 => many_ok A0 c0 n w1
  rw [hd] at hmany
  by_cases ha : 60 < a1
  · clear hm hd h0 hh n0 hl hn m0 w0 w1
    go_enter Try.func3, Try.ntmps3
    go_wp2_with (go_at_call 11; refine (hmany _).mono ?_; rintro e w' ⟨rfl, rfl⟩)
    go_ret
    exact ⟨rfl, Below.refl _ _⟩
  have H13 := Lib.hid (fun w1 (h : HasS w1 w1.heap.size A0 l) => (norm_ok A0 c0 n l a1 w1 hl.symm (by omega) (by omega) h).mono fun _ _ h => MineSOf.spans h)
  have H14 := Lib.hid (fun w1 (h : HasS w1 w1.heap.size A0 l) => rnorm_ok A0 c0 n l a1 w1 hl.symm (by omega) (by omega) h)
  have hxl : (vals l a1).length ≤ 100 := by rw [length_vals]; omega
  generalize vals l a1 = xs at H13 H14 hxl
  have hol := length_of xs
  generalize of xs = R at H13 H14 hol
  have H12 := Lib.hid (fun A B c d w1 h1 h2 => sameS_ok A B c d R.length R.length R R w1 rfl rfl (by omega) (by omega) h1 h2)
  rw [show decide (R = R) = true by simp] at H12
  simp only [SpansOf, SpansV] at H13 H14
  obtain ⟨r, hr⟩ : ∃ r, R.length = r := ⟨_, rfl⟩
  rw [hr] at H12 H13 H14
  clear hm hd h0 n0 hl hn m0 w0 w1 hxl hol hr
  go_enter Try.func3, Try.ntmps3
  go_wp2_with (first
    | (go_at_call 11; refine (hmany _).mono ?_; rintro e w' ⟨rfl, rfl⟩)
    | (go_at_call 13; refine (H13.out _ hh).mono ?_; rintro e w1 ⟨v1, rfl, A1, c1, rfl, _, hs1, hb1⟩; have hh1 := hh.carry hb1)
    | (go_at_call 14; refine (H14.out _ hh1).mono ?_; rintro e w2 ⟨v2, rfl, A2, c2, rfl, _, hs2, hb2⟩; have hs12 := hs1.carry hb2; have hb12 := below_trans hb1 hb2 hb1.size)
    | (go_at_call 12; refine (H12.out A1 A2 c1 c2 _ hs12 hs2).mono ?_; rintro e w3 ⟨rfl, hb3⟩; have hb13 := below_trans hb12 hb3 hb12.size))
  go_ret
  exact ⟨rfl, hb13⟩

set_option maxRecDepth 100000 in
theorem lifted (os : Os) (started : os.Started) (H : Type) (enc : TypeId × Value → H) :
    ReturnsInHanded {} Try.checked os 3 .any (Rows.spansNormsSpec.pre6 enc Try.prog Try.f3 Rows.spansNormsRow.domain false) (Rows.spansNormsSpec.post enc Try.prog Try.f3 false true false false) := by
  refine returnsInHanded_of_change (C := Try.checked) own started (by kernel_rfl) Try.func3
    (ChangeSpec.witness6 (enc := enc) (C := Try.checked) false ⟨#[], #[.slice none 0 0, .int .i64 0], []⟩ 8 (by kernel_rfl) (by kernel_rfl) (by kernel_rfl) (by kernel_rfl)) ?_
  intro W base args ds gs before hval0 hW hcnd _
  have hval : ∀ (j : Nat) t v, Try.f3.params[j]? = some t → args[j]? = some v → Value.okWide Try.prog W .any base t v := hval0
  have hW' := hW
  obtain ⟨p, q, hA0, hV, rfl, hfz, hnd⟩ := hW
  have hA : DataW.TrodAll enc Try.prog W 0 (fun _ => true) true Try.f3.params.toList args.toList ds p := hA0
  rw [Try.params3] at hA hval
  obtain ⟨v0, vs0, d0, ds0, p0, q0, hargs, rfl, rfl, h0, r0⟩ := trodAll_cons hA
  obtain ⟨v1, vs1, d1, ds1, p1, q1, rfl, rfl, rfl, h1, r1⟩ := trodAll_cons r0
  obtain ⟨rfl, rfl, rfl⟩ := trodAll_nil r1
  obtain rfl : args = #[v0, v1] := by cases args; simp_all
  obtain ⟨rfl, rfl⟩ := trodVars_none hV
  clear hA0 hval0
  have hlt : ∀ x ∈ p0 ++ (p1 ++ []), x.block < W.heap.size := fun x hx => by simpa using hW'.lt x (List.mem_append_left _ hx)
  have k0 := h0
  have k1 := h1
  obtain ⟨A0, l0, c0, rfl⟩ := okWide_slice Try.underlying22 (hval 0 22 v0 rfl rfl)
  obtain ⟨z0, rfl, n0, m0, w0, hh0⟩ := has_rows Try.underlying22 Try.underlying49 (by kernel_rfl) (by kernel_rfl) (by kernel_rfl) Try.underlying3 (by decide) h0 (fun x hx => hlt x (List.mem_append_left _ hx))
  obtain ⟨a1, rfl, rfl, rfl, w1⟩ := open_int Try.underlying3 (hval 1 3 v1 rfl rfl) h1
  refine (walk A0 c0 z0 a1 W n0 m0 w0 hh0 w1).mono fun e W' ⟨he, hb⟩ => ?_
  subst he
  exact ⟨_, rfl, _, _, _, [], _, [], hW', (trodAll_cons_mk (shut_bool Try.underlying4 _) trodAll_mk0), (trodAll_cons_mk (Below.trod laidOut (by kernel_rfl) (of_decide_eq_true (by kernel_rfl)) k0 hb (fun x hx => hlt x (List.mem_append_left _ hx))) (trodAll_cons_mk (Below.trod laidOut (by kernel_rfl) (of_decide_eq_true (by kernel_rfl)) k1 hb (fun x hx => hlt x (List.mem_append_right _ (List.mem_append_left _ hx)))) trodAll_mk0)), rfl, hb.frame _, fun h => by cases h⟩

theorem over : Rows.spansNormsRow.holds Try.pinned (OpenSpec.ofChange Rows.spansNormsSpec) :=
  OpenClaim.holds_of_wide 3 Try.f3 rfl rfl rfl rfl rfl rfl rfl ⟨rfl, rfl, rfl, rfl, rfl⟩ rfl rfl rfl rfl rfl (by kernel_rfl) Try.func3 (by kernel_rfl)
    (of_decide_eq_true (by kernel_rfl)) (by unfold Func.isWrapper; first | (rw [if_pos (by decide +kernel)]; kernel_rfl) | (rw [if_neg (by decide +kernel)]; exact ⟨rfl, rfl⟩))
    (fun os started H enc _ => lifted os started H enc)

/-- the statement -/
theorem proved : Rows.SpansNormsSaid :=
  over
#print axioms proved
end Go.Proofs.Ytojplkkmpnaibaa.spansNorms
