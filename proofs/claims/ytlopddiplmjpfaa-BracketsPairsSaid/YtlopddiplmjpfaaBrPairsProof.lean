/-
  For every []rune t and []int classes the statement BracketsPairs returns true: Pairs tells what the document's Pairs tells. No condition.
-/
import Derived.Test.YtlopddiplmjpfaaHas
import Derived.Test.YtlopddiplmjpfaaBss
set_option linter.unusedVariables false
namespace Go.Proofs.Ytlopddiplmjpfaa.bracketsPairs
open Go.ChangeShapes Go.WideShapes Go.ChangeAt Go.RowKit Go.Proofs.Ytlopddiplmjpfaa
theorem own : ownKnob Try.prog.godebug = none := by kernel_rfl
theorem laidOut : laidOutB Try.prog = true := by kernel_rfl

set_option maxHeartbeats 4000000 in
theorem walk (A0 : Option Addr) (c0 : Nat) (z0 : List Int) (A1 : Option Addr) (c1 : Nat) (z1 : List Int) (w : World) (n0 : z0.length ≤ 9223372036854775807) (m0 : z0.length ≤ c0) (w0 : ∀ z ∈ z0, (Lit.int .i32 z).wf = true) (h0 : Has w w.heap.size A0 (z0.map (Value.int .i32))) (e0 : A0 = none → c0 = 0) (n1 : z1.length ≤ 9223372036854775807) (m1 : z1.length ≤ c1) (w1 : ∀ z ∈ z1, (Lit.int .i64 z).wf = true) (h1 : Has w w.heap.size A1 (z1.map (Value.int .i64))) (e1 : A1 = none → c1 = 0) :
    Calls Try.prog 3 #[.slice A0 z0.length c0, .slice A1 z1.length c1] w fun e w' => e = .returned (.bool true) ∧ Below w.heap.size w w' := by
  by_cases hl : 150 < z0.length ∨ 150 < z1.length
  · have hld : decide (150 < z0.length ∨ 150 < z1.length) = true := decide_eq_true hl
    have HL := Lib.hid (fun w => long_ok A0 A1 z0.length z1.length c0 c1 w)
    rw [hld] at HL
    clear w0 m0 h0 w1 h1 m1 hl hld
    go_enter Try.func3, Try.ntmps3
    go_wp2_with (first | (go_at_call 8; (with_reducible refine (HL.out _).mono ?_); rintro e u ⟨rfl, rfl⟩))
    go_ret
    exact ⟨rfl, Below.refl _ _⟩
  have hld : decide (150 < z0.length ∨ 150 < z1.length) = false := decide_eq_false hl
  have HL := Lib.hid (fun w => long_ok A0 A1 z0.length z1.length c0 c1 w)
  rw [hld] at HL
  have H10 := Lib.hid (fun w h h' => pairs_ok A0 A1 c0 c1 z0.length z1.length z0 z1 w rfl rfl (by omega) h h')
  have H11 := Lib.hid (fun w h h' => rpairs_ok A0 A1 c0 c1 z0.length z1.length z0 z1 w rfl rfl (by omega) h h')
  have HU := Lib.hid (fun l l2 (h : PairsV z0 z1 l) (k : PairsV z0 z1 l2) => h.unique k)
  have HM := Lib.hid (fun l (h : PairsV z0 z1 l) => h.len)
  have hz : z0.length ≤ 1000 := by omega
  clear w0 m0 w1 m1 hl hld n0 n1
  go_enter Try.func3, Try.ntmps3
  go_wp2_with (first
    | (go_at_call 8; (with_reducible refine (HL.out _).mono ?_); rintro e u0 ⟨rfl, rfl⟩)
    | (go_at_call 10; (with_reducible refine (H10.out _ h0 h1).mono ?_); rintro e u1 ⟨l, ⟨v1, rfl, hv1, hb1⟩, hl⟩; have g0 := h0.carry hb1; have g1 := h1.carry hb1; obtain ⟨B1, d1, rfl, _, _, hh1⟩ := hv1.has)
    | (go_at_call 11; (with_reducible refine (H11.out _ g0 g1).mono ?_); rintro e u2 ⟨l2, ⟨v2, rfl, hv2, hb2⟩, hl2⟩; have B2 := below_trans hb1 hb2 hb1.size; obtain ⟨B3, d3, rfl, _, _, hh3⟩ := hv2.has; obtain rfl := HU.out _ _ hl hl2; have hh2 := hh1.carry hb2; have hlen := HM.out _ hl)
    | (go_at_call 9; refine (eqp_ok B1 B3 d1 d3 l.length l _ rfl (by omega) hh2 hh3).mono ?_; rintro e u3 ⟨rfl, hb4⟩; have B4 := below_trans B2 hb4 B2.size))
  go_ret
  exact ⟨rfl, B4⟩

set_option maxRecDepth 100000 in
theorem lifted (os : Os) (started : os.Started) (H : Type) (enc : TypeId × Value → H) :
    ReturnsInHanded {} Try.checked os 3 .any (Rows.bracketsPairsSpec.pre6 enc Try.prog Try.f3 Rows.bracketsPairsRow.domain false) (Rows.bracketsPairsSpec.post enc Try.prog Try.f3 false true false false) := by
  refine returnsInHanded_of_change (C := Try.checked) own started (by kernel_rfl) Try.func3
    (ChangeSpec.witness6 (enc := enc) (C := Try.checked) false ⟨#[], #[.slice none 0 0, .slice none 0 0], []⟩ 8 (by kernel_rfl) (by kernel_rfl) (by kernel_rfl) (by kernel_rfl)) ?_
  intro W base args ds gs before hval0 hW hcnd _
  have hval : ∀ (j : Nat) t v, Try.f3.params[j]? = some t → args[j]? = some v → Value.okWide Try.prog W .any base t v := hval0
  have hW' := hW
  obtain ⟨p, q, hA0, hV, rfl, hfz, hnd⟩ := hW
  have hA : DataW.TrodAll enc Try.prog W 0 (fun _ => true) true Try.f3.params.toList args.toList ds p := hA0
  rw [Try.params3] at hA hval
  obtain ⟨v0, vs0, d0, ds0, p0, q0, hargs, rfl, rfl, h0, r0⟩ := trodAll_cons hA
  obtain ⟨v1, vs1, d1, ds1, p1, q1, rfl, rfl, rfl, h1, r1⟩ := trodAll_cons r0
  obtain ⟨rfl, rfl, rfl⟩ := trodAll_nil r1
  obtain rfl : args = #[v0, v1] := by cases args; simp_all
  obtain ⟨rfl, rfl⟩ := trodVars_none hV
  clear hA0 hval0
  have hlt : ∀ x ∈ p0 ++ (p1 ++ []), x.block < W.heap.size := fun x hx => by simpa using hW'.lt x (List.mem_append_left _ hx)
  have k0 := h0
  have k1 := h1
  obtain ⟨A0, l0, c0, rfl⟩ := okWide_slice Try.underlying22 (hval 0 22 v0 rfl rfl)
  obtain ⟨z0, rfl, n0, m0, w0, hh0⟩ := has_ints Try.underlying22 Try.underlying21 (by kernel_rfl) h0 (fun x hx => hlt x (List.mem_append_left _ hx))
  have e0 := none_cap Try.underlying22 Try.underlying21 (by kernel_rfl) k0
  obtain ⟨A1, l1, c1, rfl⟩ := okWide_slice Try.underlying23 (hval 1 23 v1 rfl rfl)
  obtain ⟨z1, rfl, n1, m1, w1, hh1⟩ := has_ints Try.underlying23 Try.underlying3 (by kernel_rfl) h1 (fun x hx => hlt x (List.mem_append_right _ (List.mem_append_left _ hx)))
  have e1 := none_cap Try.underlying23 Try.underlying3 (by kernel_rfl) k1
  refine (walk A0 c0 z0 A1 c1 z1 W n0 m0 w0 hh0 e0 n1 m1 w1 hh1 e1).mono fun e W' ⟨he, hb⟩ => ?_
  subst he
  exact ⟨_, rfl, _, _, _, [], _, [], hW', (trodAll_cons_mk (shut_bool Try.underlying4 _) trodAll_mk0), (trodAll_cons_mk (Below.trod laidOut (by kernel_rfl) (of_decide_eq_true (by kernel_rfl)) k0 hb (fun x hx => hlt x (List.mem_append_left _ hx))) (trodAll_cons_mk (Below.trod laidOut (by kernel_rfl) (of_decide_eq_true (by kernel_rfl)) k1 hb (fun x hx => hlt x (List.mem_append_right _ (List.mem_append_left _ hx)))) trodAll_mk0)), rfl, hb.frame _, fun h => by cases h⟩

theorem over : Rows.bracketsPairsRow.holds Try.pinned (OpenSpec.ofChange Rows.bracketsPairsSpec) :=
  OpenClaim.holds_of_wide 3 Try.f3 rfl rfl rfl rfl rfl rfl rfl ⟨rfl, rfl, rfl, rfl, rfl⟩ rfl rfl rfl rfl rfl (by kernel_rfl) Try.func3 (by kernel_rfl)
    (of_decide_eq_true (by kernel_rfl)) (by unfold Func.isWrapper; first | (rw [if_pos (by decide +kernel)]; kernel_rfl) | (rw [if_neg (by decide +kernel)]; exact ⟨rfl, rfl⟩))
    (fun os started H enc _ => lifted os started H enc)

/-- the statement -/
theorem proved : Rows.BracketsPairsSaid :=
  over
#print axioms proved
end Go.Proofs.Ytlopddiplmjpfaa.bracketsPairs
