/-
  For every []rune t and int i the statement WordsAround returns true: Around tells what the document's tells. No condition.
-/
import Derived.Test.YtcplhbafbjpnlaaHas
import Derived.Test.YtcplhbafbjpnlaaWAro
set_option linter.unusedVariables false
namespace Go.Proofs.Ytcplhbafbjpnlaa.wordsAround
open Go.ChangeShapes Go.WideShapes Go.ChangeAt Go.RowKit Go.Proofs.Ytcplhbafbjpnlaa
theorem own : ownKnob Try.prog.godebug = none := by kernel_rfl
theorem laidOut : laidOutB Try.prog = true := by kernel_rfl

theorem long_ok (A : Option Addr) (n c : Nat) (w : World) : Calls Try.prog 8 #[.slice A n c] w fun e w' => e = .returned (.bool (decide (40 < n))) ∧ w = w' := by
  by_cases h : 40 < n
  · have hd : decide ((40 : Int) < n) = true := decide_eq_true (by omega)
    have hd2 : decide (40 < n) = true := decide_eq_true h
    go_enter Try.func8, Try.ntmps8
    go_wp2
    go_ret
    exact ⟨by simp [h], rfl⟩
  · have hd : decide ((40 : Int) < n) = false := decide_eq_false (by omega)
    have hd2 : decide (40 < n) = false := decide_eq_false h
    go_enter Try.func8, Try.ntmps8
    go_wp2
    go_ret
    exact ⟨by simp [h], rfl⟩
theorem eqC_run (a b : Nat) (w : World) : (binOp .eql 29 (.agg #[.int .i64 a, .int .i64 b]) (.agg #[.int .i64 a, .int .i64 b])).run Try.prog w = .ok (.bool true) w := by
  simp [go_sem]

set_option maxHeartbeats 4000000 in
theorem walk (A0 : Option Addr) (c0 : Nat) (z0 : List Int) (a1 : Int) (w : World) (n0 : z0.length ≤ 9223372036854775807) (m0 : z0.length ≤ c0) (w0 : ∀ z ∈ z0, (Lit.int .i32 z).wf = true) (h0 : Has w w.heap.size A0 (z0.map (Value.int .i32))) (w1 : (Lit.int .i64 a1).wf = true) :
    Calls Try.prog 4 #[.slice A0 z0.length c0, .int .i64 a1] w fun e w' => e = .returned (.bool true) ∧ Below w.heap.size w w' := by
  by_cases hl : 40 < z0.length
  · have hld : decide (40 < z0.length) = true := decide_eq_true hl
    have HL := Lib.hid (fun w => long_ok A0 z0.length c0 w)
    rw [hld] at HL
    clear w0 m0 h0 w1
    go_enter Try.func4, Try.ntmps4
    go_wp2_with (first | (go_at_call 8; (with_reducible refine (HL.out _).mono ?_); rintro e u ⟨rfl, rfl⟩))
    go_ret
    exact ⟨rfl, Below.refl _ _⟩
  have hld : decide (40 < z0.length) = false := decide_eq_false hl
  have HL := Lib.hid (fun w => long_ok A0 z0.length c0 w)
  rw [hld] at HL
  have H14 := Lib.hid (fun w h => waround_ok A0 c0 a1 z0 w (by omega) m0 h)
  have H15 := Lib.hid (fun w h => raround_ok A0 c0 a1 z0 w (by omega) m0 h)
  have HE := Lib.hid (fun a b c d (h : AroV z0 a1 a b) (k : AroV z0 a1 c d) => h.unique k)
  generalize AroV z0 a1 = R at *
  clear w0 m0 n0 w1 hl hld
  unfold cutV at H14 H15
  go_enter Try.func4, Try.ntmps4
  go_wp2_with (first
    | (go_at_call 8; (with_reducible refine (HL.out _).mono ?_); rintro e u0 ⟨rfl, rfl⟩)
    | (go_at_call 14; (with_reducible refine (H14.out _ h0).mono ?_); rintro e u1 ⟨⟨x, y, rfl, hx⟩, hu1⟩; have g1 := h0.carry hu1.1)
    | (go_at_call 15; (with_reducible refine (H15.out _ g1).mono ?_); rintro e u2 ⟨⟨x2, y2, rfl, hx2⟩, hb2⟩; have hb := below_trans hu1.1 hb2 hu1.1.size; obtain ⟨rfl, rfl⟩ := HE.out _ _ _ _ hx hx2; have he := fun w => eqC_run x y w))
  go_ret
  exact ⟨rfl, hb⟩

set_option maxRecDepth 100000 in
theorem lifted (os : Os) (started : os.Started) (H : Type) (enc : TypeId × Value → H) :
    ReturnsInHanded {} Try.checked os 4 .any (Rows.wordsAroundSpec.pre6 enc Try.prog Try.f4 Rows.wordsAroundRow.domain false) (Rows.wordsAroundSpec.post enc Try.prog Try.f4 false true false false) := by
  refine returnsInHanded_of_change (C := Try.checked) own started (by kernel_rfl) Try.func4
    (ChangeSpec.witness6 (enc := enc) (C := Try.checked) false ⟨#[], #[.slice none 0 0, .int .i64 0], []⟩ 8 (by kernel_rfl) (by kernel_rfl) (by kernel_rfl) (by kernel_rfl)) ?_
  intro W base args ds gs before hval0 hW hcnd _
  have hval : ∀ (j : Nat) t v, Try.f4.params[j]? = some t → args[j]? = some v → Value.okWide Try.prog W .any base t v := hval0
  have hW' := hW
  obtain ⟨p, q, hA0, hV, rfl, hfz, hnd⟩ := hW
  have hA : DataW.TrodAll enc Try.prog W 0 (fun _ => true) true Try.f4.params.toList args.toList ds p := hA0
  rw [Try.params4] at hA hval
  obtain ⟨v0, vs0, d0, ds0, p0, q0, hargs, rfl, rfl, h0, r0⟩ := trodAll_cons hA
  obtain ⟨v1, vs1, d1, ds1, p1, q1, rfl, rfl, rfl, h1, r1⟩ := trodAll_cons r0
  obtain ⟨rfl, rfl, rfl⟩ := trodAll_nil r1
  obtain rfl : args = #[v0, v1] := by cases args; simp_all
  obtain ⟨rfl, rfl⟩ := trodVars_none hV
  clear hA0 hval0
  have hlt : ∀ x ∈ p0 ++ (p1 ++ []), x.block < W.heap.size := fun x hx => by simpa using hW'.lt x (List.mem_append_left _ hx)
  have k0 := h0
  have k1 := h1
  obtain ⟨A0, l0, c0, rfl⟩ := okWide_slice Try.underlying22 (hval 0 22 v0 rfl rfl)
  obtain ⟨z0, rfl, n0, m0, w0, hh0⟩ := has_ints Try.underlying22 Try.underlying21 (by kernel_rfl) h0 (fun x hx => hlt x (List.mem_append_left _ hx))
  obtain ⟨a1, rfl, rfl, rfl, w1⟩ := open_int Try.underlying3 (hval 1 3 v1 rfl rfl) h1
  refine (walk A0 c0 z0 a1 W n0 m0 w0 hh0 w1).mono fun e W' ⟨he, hb⟩ => ?_
  subst he
  exact ⟨_, rfl, _, _, _, [], _, [], hW', (trodAll_cons_mk (shut_bool Try.underlying4 _) trodAll_mk0), (trodAll_cons_mk (Below.trod laidOut (by kernel_rfl) (of_decide_eq_true (by kernel_rfl)) k0 hb (fun x hx => hlt x (List.mem_append_left _ hx))) (trodAll_cons_mk (Below.trod laidOut (by kernel_rfl) (of_decide_eq_true (by kernel_rfl)) k1 hb (fun x hx => hlt x (List.mem_append_right _ (List.mem_append_left _ hx)))) trodAll_mk0)), rfl, hb.frame _, fun h => by cases h⟩

theorem over : Rows.wordsAroundRow.holds Try.pinned (OpenSpec.ofChange Rows.wordsAroundSpec) :=
  OpenClaim.holds_of_wide 4 Try.f4 rfl rfl rfl rfl rfl rfl rfl ⟨rfl, rfl, rfl, rfl, rfl⟩ rfl rfl rfl rfl rfl (by kernel_rfl) Try.func4 (by kernel_rfl)
    (of_decide_eq_true (by kernel_rfl)) (by unfold Func.isWrapper; first | (rw [if_pos (by decide +kernel)]; kernel_rfl) | (rw [if_neg (by decide +kernel)]; exact ⟨rfl, rfl⟩))
    (fun os started H enc _ => lifted os started H enc)

/-- the statement -/
theorem proved : Rows.WordsAroundSaid :=
  over
#print axioms proved
end Go.Proofs.Ytcplhbafbjpnlaa.wordsAround
