/-
  For every []rune t and int i the statement WordsBounds returns true: Bounds and Is tell what the document's tell. No condition.
-/
import Derived.Test.YtcplhbafbjpnlaaHas
import Derived.Test.YtcplhbafbjpnlaaWCnt
import Derived.Test.YtcplhbafbjpnlaaWAro
set_option linter.unusedVariables false
namespace Go.Proofs.Ytcplhbafbjpnlaa.wordsBounds
open Go.ChangeShapes Go.WideShapes Go.ChangeAt Go.RowKit Go.Proofs.Ytcplhbafbjpnlaa
theorem own : ownKnob Try.prog.godebug = none := by kernel_rfl
theorem laidOut : laidOutB Try.prog = true := by kernel_rfl

theorem long_ok (A : Option Addr) (n c : Nat) (w : World) : Calls Try.prog 8 #[.slice A n c] w fun e w' => e = .returned (.bool (decide (40 < n))) ∧ w = w' := by
  by_cases h : 40 < n
  · have hd : decide ((40 : Int) < n) = true := decide_eq_true (by omega)
    have hd2 : decide (40 < n) = true := decide_eq_true h
    go_enter Try.func8, Try.ntmps8
    go_wp2
    go_ret
    exact ⟨by simp [h], rfl⟩
  · have hd : decide ((40 : Int) < n) = false := decide_eq_false (by omega)
    have hd2 : decide (40 < n) = false := decide_eq_false h
    go_enter Try.func8, Try.ntmps8
    go_wp2
    go_ret
    exact ⟨by simp [h], rfl⟩

set_option maxHeartbeats 4000000 in
theorem walk (A0 : Option Addr) (c0 : Nat) (z0 : List Int) (a1 : Int) (w : World) (n0 : z0.length ≤ 9223372036854775807) (m0 : z0.length ≤ c0) (w0 : ∀ z ∈ z0, (Lit.int .i32 z).wf = true) (h0 : Has w w.heap.size A0 (z0.map (Value.int .i32))) (w1 : (Lit.int .i64 a1).wf = true) :
    Calls Try.prog 3 #[.slice A0 z0.length c0, .int .i64 a1] w fun e w' => e = .returned (.bool true) ∧ Below w.heap.size w w' := by
  by_cases hl : 40 < z0.length
  · have hld : decide (40 < z0.length) = true := decide_eq_true hl
    have HL := Lib.hid (fun w => long_ok A0 z0.length c0 w)
    rw [hld] at HL
    clear w0 m0 h0 w1
    go_enter Try.func3, Try.ntmps3
    go_wp2_with (first | (go_at_call 8; (with_reducible refine (HL.out _).mono ?_); rintro e u ⟨rfl, rfl⟩))
    go_ret
    exact ⟨rfl, Below.refl _ _⟩
  have hld : decide (40 < z0.length) = false := decide_eq_false hl
  have HL := Lib.hid (fun w => long_ok A0 z0.length c0 w)
  rw [hld] at HL
  have H10 := Lib.hid (fun w h => wbounds_ok A0 c0 z0 w (by omega) m0 h)
  have H11 := Lib.hid (fun w h => rwbounds_ok A0 c0 z0 w (by omega) m0 h)
  have H12 := Lib.hid (fun w h => wis_ok A0 c0 a1 z0 w (by omega) m0 h)
  have H13 := Lib.hid (fun w h => rwis_ok A0 c0 a1 z0 w (by omega) m0 h)
  have hbn := wbs_le z0
  generalize isW z0 a1 = V at *
  generalize wbs z0 = bl at *
  have hzl := zb_len bl
  generalize zb bl = zs at *
  have hz2 : zs.length ≤ 1000000 := by omega
  clear w0 m0 n0 hzl hbn w1 hl hld
  go_enter Try.func3, Try.ntmps3
  go_wp2_with (first
    | (go_at_call 8; (with_reducible refine (HL.out _).mono ?_); rintro e u0 ⟨rfl, rfl⟩)
    | (go_at_call 10; (with_reducible refine (H10.out _ h0).mono ?_); rintro e u1 ⟨v1, rfl, A1, c1, rfl, _, hc1, hb1⟩; have g1 := h0.carry hb1)
    | (go_at_call 11; (with_reducible refine (H11.out _ g1).mono ?_); rintro e u2 ⟨v2, rfl, A2, c2, rfl, _, hc2, hb2⟩; have g2 := g1.carry hb2; have B2 := below_trans hb1 hb2 hb1.size; have hc1 := hc1.carry hb2)
    | (go_at_call 9; (with_reducible refine (eqs_ok A1 A2 c1 c2 zs.length zs _ rfl hz2 hc1 hc2).mono ?_); rintro e u3 ⟨rfl, hb3⟩; have g3 := g2.carry hb3; have B3 := below_trans B2 hb3 B2.size)
    | (go_at_call 12; (with_reducible refine (H12.out _ g3).mono ?_); rintro e u4 ⟨rfl, hu4⟩; have g4 := g3.carry hu4.1; have B4 := below_trans B3 hu4.1 B3.size)
    | (go_at_call 13; (with_reducible refine (H13.out _ g4).mono ?_); rintro e u5 ⟨rfl, hb5⟩; have B5 := below_trans B4 hb5 B4.size))
  go_ret
  exact ⟨rfl, B5⟩

set_option maxRecDepth 100000 in
theorem lifted (os : Os) (started : os.Started) (H : Type) (enc : TypeId × Value → H) :
    ReturnsInHanded {} Try.checked os 3 .any (Rows.wordsBoundsSpec.pre6 enc Try.prog Try.f3 Rows.wordsBoundsRow.domain false) (Rows.wordsBoundsSpec.post enc Try.prog Try.f3 false true false false) := by
  refine returnsInHanded_of_change (C := Try.checked) own started (by kernel_rfl) Try.func3
    (ChangeSpec.witness6 (enc := enc) (C := Try.checked) false ⟨#[], #[.slice none 0 0, .int .i64 0], []⟩ 8 (by kernel_rfl) (by kernel_rfl) (by kernel_rfl) (by kernel_rfl)) ?_
  intro W base args ds gs before hval0 hW hcnd _
  have hval : ∀ (j : Nat) t v, Try.f3.params[j]? = some t → args[j]? = some v → Value.okWide Try.prog W .any base t v := hval0
  have hW' := hW
  obtain ⟨p, q, hA0, hV, rfl, hfz, hnd⟩ := hW
  have hA : DataW.TrodAll enc Try.prog W 0 (fun _ => true) true Try.f3.params.toList args.toList ds p := hA0
  rw [Try.params3] at hA hval
  obtain ⟨v0, vs0, d0, ds0, p0, q0, hargs, rfl, rfl, h0, r0⟩ := trodAll_cons hA
  obtain ⟨v1, vs1, d1, ds1, p1, q1, rfl, rfl, rfl, h1, r1⟩ := trodAll_cons r0
  obtain ⟨rfl, rfl, rfl⟩ := trodAll_nil r1
  obtain rfl : args = #[v0, v1] := by cases args; simp_all
  obtain ⟨rfl, rfl⟩ := trodVars_none hV
  clear hA0 hval0
  have hlt : ∀ x ∈ p0 ++ (p1 ++ []), x.block < W.heap.size := fun x hx => by simpa using hW'.lt x (List.mem_append_left _ hx)
  have k0 := h0
  have k1 := h1
  obtain ⟨A0, l0, c0, rfl⟩ := okWide_slice Try.underlying22 (hval 0 22 v0 rfl rfl)
  obtain ⟨z0, rfl, n0, m0, w0, hh0⟩ := has_ints Try.underlying22 Try.underlying21 (by kernel_rfl) h0 (fun x hx => hlt x (List.mem_append_left _ hx))
  obtain ⟨a1, rfl, rfl, rfl, w1⟩ := open_int Try.underlying3 (hval 1 3 v1 rfl rfl) h1
  refine (walk A0 c0 z0 a1 W n0 m0 w0 hh0 w1).mono fun e W' ⟨he, hb⟩ => ?_
  subst he
  exact ⟨_, rfl, _, _, _, [], _, [], hW', (trodAll_cons_mk (shut_bool Try.underlying4 _) trodAll_mk0), (trodAll_cons_mk (Below.trod laidOut (by kernel_rfl) (of_decide_eq_true (by kernel_rfl)) k0 hb (fun x hx => hlt x (List.mem_append_left _ hx))) (trodAll_cons_mk (Below.trod laidOut (by kernel_rfl) (of_decide_eq_true (by kernel_rfl)) k1 hb (fun x hx => hlt x (List.mem_append_right _ (List.mem_append_left _ hx)))) trodAll_mk0)), rfl, hb.frame _, fun h => by cases h⟩

theorem over : Rows.wordsBoundsRow.holds Try.pinned (OpenSpec.ofChange Rows.wordsBoundsSpec) :=
  OpenClaim.holds_of_wide 3 Try.f3 rfl rfl rfl rfl rfl rfl rfl ⟨rfl, rfl, rfl, rfl, rfl⟩ rfl rfl rfl rfl rfl (by kernel_rfl) Try.func3 (by kernel_rfl)
    (of_decide_eq_true (by kernel_rfl)) (by unfold Func.isWrapper; first | (rw [if_pos (by decide +kernel)]; kernel_rfl) | (rw [if_neg (by decide +kernel)]; exact ⟨rfl, rfl⟩))
    (fun os started H enc _ => lifted os started H enc)

/-- the statement -/
theorem proved : Rows.WordsBoundsSaid :=
  over
#print axioms proved
end Go.Proofs.Ytcplhbafbjpnlaa.wordsBounds
