/-
  The statement 'SpansWholeSaid': what Whole and At tell of any spans, and Bounds of whole ones. No condition.
-/
import Derived.Test.YtojplkkmpnaibaaHas
import Derived.Test.YtojplkkmpnaibaaHasStruct
import Derived.Test.YtojplkkmpnaibaaBounds
import Derived.Test.YtojplkkmpnaibaaArg
set_option linter.unusedVariables false
namespace Go.Proofs.Ytojplkkmpnaibaa.spansWhole
open Go.ChangeShapes Go.WideShapes Go.ChangeAt Go.RowKit Go.Proofs.Ytojplkkmpnaibaa
theorem own : ownKnob Try.prog.godebug = none := by kernel_rfl
theorem laidOut : laidOutB Try.prog = true := by kernel_rfl


set_option maxHeartbeats 2000000 in
theorem walk (A0 : Option Addr) (c0 : Nat) (z0 : List (List Int)) (a1 : Int) (a2 : Int) (w : World) (n0 : z0.length ≤ 9223372036854775807) (m0 : z0.length ≤ c0) (w0 : ∀ z ∈ z0, z.length = 3 ∧ ∀ x ∈ z, (Lit.int .i64 x).wf = true) (h0 : HasRows w w.heap.size A0 3 (z0.map (·.map (Value.int .i64)))) (w1 : (Lit.int .i64 a1).wf = true) (w2 : (Lit.int .i64 a2).wf = true) :
    Calls Try.prog 4 #[.slice A0 z0.length c0, .int .i64 a1, .int .i64 a2] w fun e w' => e = .returned (.bool true) ∧ Below w.heap.size w w' := by
  obtain ⟨l, hl, hh, _⟩ := spans_of_rows w0 h0
  obtain ⟨n, hn⟩ : ∃ n, z0.length = n := ⟨_, rfl⟩
  rw [hn] at hl n0 ⊢
  by_cases hm : 20 < n
  · have hd : decide (20 < (n : Int)) = true := decide_eq_true (by omega)
    have hmany := fun w1 => many_ok A0 c0 n w1
    rw [hd] at hmany
    clear hm hd h0 hh
    go_enter Try.func4, Try.ntmps4
    go_wp2_with (go_at_call 11; refine (hmany _).mono ?_; rintro e w' ⟨rfl, rfl⟩)
    go_ret
    exact ⟨rfl, Below.refl _ _⟩
  · have hd : decide (20 < (n : Int)) = false := decide_eq_false (by omega)
    have hmany := fun w1 => many_ok A0 c0 n w1
    rw [hd] at hmany
    have H15 := Lib.hid (fun w1 (h : HasS w1 w1.heap.size A0 l) => rwhole_ok A0 c0 n l a1 w1 hl.symm (by omega) h)
    have H16 := Lib.hid (fun w1 (h : HasS w1 w1.heap.size A0 l) => whole_ok A0 c0 n l a1 w1 hl.symm (by omega) h)
    have H17 := Lib.hid (fun w1 (h : HasS w1 w1.heap.size A0 l) => at_ok A0 c0 n l a2 w1 hl.symm (by omega) h)
    have H18 := Lib.hid (fun w1 (h : HasS w1 w1.heap.size A0 l) => rat_ok A0 c0 n l a2 w1 hl.symm (by omega) h)
    have H20 := Lib.hid (fun w1 (h : HasS w1 w1.heap.size A0 l) => bounds_ok A0 c0 n l w1 hl.symm (by omega) h)
    have H21 := Lib.hid (fun w1 (h : HasS w1 w1.heap.size A0 l) => rbounds_ok A0 c0 n l w1 hl.symm (by omega) h)
    have hbl : (boundsP l).length ≤ 1000000000 := by unfold boundsP; split <;> simp; omega
    obtain ⟨V, hV⟩ : ∃ V, wholeB l a1 = V := ⟨_, rfl⟩
    rw [hV] at H15 H16
    obtain ⟨T, hT⟩ : ∃ T, atP l a2 = T := ⟨_, rfl⟩
    rw [hT] at H17 H18
    obtain ⟨bs, hbs⟩ : ∃ bs, boundsP l = bs := ⟨_, rfl⟩
    rw [hbs] at H20 H21 hbl
    have H19 := Lib.hid (fun (A B : Option Addr) (c d : Nat) w1 h1 h2 => same_ok A B c d bs bs w1 hbl hbl h1 h2)
    have e : decide (bs = bs) = true := by simp
    rw [e] at H19
    obtain ⟨m, hm2⟩ : ∃ m, bs.length = m := ⟨_, rfl⟩
    rw [hm2] at H19
    simp only [SliceOf, SliceV, hm2] at H20 H21
    clear hm hd h0 hV hT hbs e n0 hl hn m0 w0 w1 w2
    cases V with
    | true =>
      go_enter Try.func4, Try.ntmps4
      go_wp2_with (first
        | (go_at_call 11; refine (hmany _).mono ?_; rintro e w' ⟨rfl, rfl⟩)
        | (go_at_call 15; refine (H15.out _ hh).mono ?_; rintro e w1 ⟨rfl, hb1⟩; have hh1 := hh.carry hb1)
        | (go_at_call 16; refine (H16.out _ hh1).mono ?_; rintro e w2 ⟨rfl, hb2⟩; have hh2 := hh1.carry hb2; have hb12 := below_trans hb1 hb2 hb1.size)
        | (go_at_call 17; refine (H17.out _ hh2).mono ?_; rintro e w3 ⟨rfl, hb3⟩; have hh3 := hh2.carry hb3; have hb13 := below_trans hb12 hb3 hb12.size)
        | (go_at_call 18; refine (H18.out _ hh3).mono ?_; rintro e w4 ⟨rfl, hb4⟩; have hh4 := hh3.carry hb4; have hb14 := below_trans hb13 hb4 hb13.size)
        | (go_at_call 20; refine (H20.out _ hh4).mono ?_; rintro e w5 ⟨v5, rfl, A5, c5, rfl, _, hs5, hb5⟩; have hh5 := hh4.carry hb5; have hb15 := below_trans hb14 hb5 hb14.size)
        | (go_at_call 21; refine (H21.out _ hh5).mono ?_; rintro e w6 ⟨v6, rfl, A6, c6, rfl, _, hs6, hb6⟩; have hs5' := hs5.carry hb6; have hb16 := below_trans hb15 hb6 hb15.size)
        | (go_at_call 19; refine (H19.out A5 A6 c5 c6 _ hs5' hs6).mono ?_; rintro e w7 ⟨rfl, hb7⟩; have hb17 := below_trans hb16 hb7 hb16.size))
      go_ret
      exact ⟨rfl, hb17⟩
    | false =>
      go_enter Try.func4, Try.ntmps4
      go_wp2_with (first
        | (go_at_call 11; refine (hmany _).mono ?_; rintro e w' ⟨rfl, rfl⟩)
        | (go_at_call 15; refine (H15.out _ hh).mono ?_; rintro e w1 ⟨rfl, hb1⟩; have hh1 := hh.carry hb1)
        | (go_at_call 16; refine (H16.out _ hh1).mono ?_; rintro e w2 ⟨rfl, hb2⟩; have hh2 := hh1.carry hb2; have hb12 := below_trans hb1 hb2 hb1.size)
        | (go_at_call 17; refine (H17.out _ hh2).mono ?_; rintro e w3 ⟨rfl, hb3⟩; have hh3 := hh2.carry hb3; have hb13 := below_trans hb12 hb3 hb12.size)
        | (go_at_call 18; refine (H18.out _ hh3).mono ?_; rintro e w4 ⟨rfl, hb4⟩; have hh4 := hh3.carry hb4; have hb14 := below_trans hb13 hb4 hb13.size))
      go_ret
      exact ⟨rfl, hb14⟩

set_option maxRecDepth 100000 in
theorem lifted (os : Os) (started : os.Started) (H : Type) (enc : TypeId × Value → H) :
    ReturnsInHanded {} Try.checked os 4 .any (Rows.spansWholeSpec.pre6 enc Try.prog Try.f4 Rows.spansWholeRow.domain false) (Rows.spansWholeSpec.post enc Try.prog Try.f4 false true false false) := by
  refine returnsInHanded_of_change (C := Try.checked) own started (by kernel_rfl) Try.func4
    (ChangeSpec.witness6 (enc := enc) (C := Try.checked) false ⟨#[], #[.slice none 0 0, .int .i64 0, .int .i64 0], []⟩ 8 (by kernel_rfl) (by kernel_rfl) (by kernel_rfl) (by kernel_rfl)) ?_
  intro W base args ds gs before hval0 hW hcnd _
  have hval : ∀ (j : Nat) t v, Try.f4.params[j]? = some t → args[j]? = some v → Value.okWide Try.prog W .any base t v := hval0
  have hW' := hW
  obtain ⟨p, q, hA0, hV, rfl, hfz, hnd⟩ := hW
  have hA : DataW.TrodAll enc Try.prog W 0 (fun _ => true) true Try.f4.params.toList args.toList ds p := hA0
  rw [Try.params4] at hA hval
  obtain ⟨v0, vs0, d0, ds0, p0, q0, hargs, rfl, rfl, h0, r0⟩ := trodAll_cons hA
  obtain ⟨v1, vs1, d1, ds1, p1, q1, rfl, rfl, rfl, h1, r1⟩ := trodAll_cons r0
  obtain ⟨v2, vs2, d2, ds2, p2, q2, rfl, rfl, rfl, h2, r2⟩ := trodAll_cons r1
  obtain ⟨rfl, rfl, rfl⟩ := trodAll_nil r2
  obtain rfl : args = #[v0, v1, v2] := by cases args; simp_all
  obtain ⟨rfl, rfl⟩ := trodVars_none hV
  clear hA0 hval0
  have hlt : ∀ x ∈ p0 ++ (p1 ++ (p2 ++ [])), x.block < W.heap.size := fun x hx => by simpa using hW'.lt x (List.mem_append_left _ hx)
  have k0 := h0
  have k1 := h1
  have k2 := h2
  obtain ⟨A0, l0, c0, rfl⟩ := okWide_slice Try.underlying22 (hval 0 22 v0 rfl rfl)
  obtain ⟨z0, rfl, n0, m0, w0, hh0⟩ := has_rows Try.underlying22 Try.underlying49 (by kernel_rfl) (by kernel_rfl) (by kernel_rfl) Try.underlying3 (by decide) h0 (fun x hx => hlt x (List.mem_append_left _ hx))
  obtain ⟨a1, rfl, rfl, rfl, w1⟩ := open_int Try.underlying3 (hval 1 3 v1 rfl rfl) h1
  obtain ⟨a2, rfl, rfl, rfl, w2⟩ := open_int Try.underlying3 (hval 2 3 v2 rfl rfl) h2
  refine (walk A0 c0 z0 a1 a2 W n0 m0 w0 hh0 w1 w2).mono fun e W' ⟨he, hb⟩ => ?_
  subst he
  exact ⟨_, rfl, _, _, _, [], _, [], hW', (trodAll_cons_mk (shut_bool Try.underlying4 _) trodAll_mk0), (trodAll_cons_mk (Below.trod laidOut (by kernel_rfl) (of_decide_eq_true (by kernel_rfl)) k0 hb (fun x hx => hlt x (List.mem_append_left _ hx))) (trodAll_cons_mk (Below.trod laidOut (by kernel_rfl) (of_decide_eq_true (by kernel_rfl)) k1 hb (fun x hx => hlt x (List.mem_append_right _ (List.mem_append_left _ hx)))) (trodAll_cons_mk (Below.trod laidOut (by kernel_rfl) (of_decide_eq_true (by kernel_rfl)) k2 hb (fun x hx => hlt x (List.mem_append_right _ (List.mem_append_right _ (List.mem_append_left _ hx))))) trodAll_mk0))), rfl, hb.frame _, fun h => by cases h⟩

theorem over : Rows.spansWholeRow.holds Try.pinned (OpenSpec.ofChange Rows.spansWholeSpec) :=
  OpenClaim.holds_of_wide 4 Try.f4 rfl rfl rfl rfl rfl rfl rfl ⟨rfl, rfl, rfl, rfl, rfl⟩ rfl rfl rfl rfl rfl (by kernel_rfl) Try.func4 (by kernel_rfl)
    (of_decide_eq_true (by kernel_rfl)) (by unfold Func.isWrapper; first | (rw [if_pos (by decide +kernel)]; kernel_rfl) | (rw [if_neg (by decide +kernel)]; exact ⟨rfl, rfl⟩))
    (fun os started H enc _ => lifted os started H enc)

/-- the statement -/
theorem proved : Rows.SpansWholeSaid :=
  over
#print axioms proved
end Go.Proofs.Ytojplkkmpnaibaa.spansWhole
