/-
  For every []rune t and api.Cut c the statement WordsKinds returns true: Kind and Count tell what the document's tell. No condition.
-/
import Derived.Test.YtcplhbafbjpnlaaHas
import Derived.Test.YtcplhbafbjpnlaaHasStruct
import Derived.Test.YtcplhbafbjpnlaaWCnt
set_option linter.unusedVariables false
namespace Go.Proofs.Ytcplhbafbjpnlaa.wordsKinds
open Go.ChangeShapes Go.WideShapes Go.ChangeAt Go.RowKit Go.Proofs.Ytcplhbafbjpnlaa
theorem own : ownKnob Try.prog.godebug = none := by kernel_rfl
theorem laidOut : laidOutB Try.prog = true := by kernel_rfl
theorem list_len2 (l : List Int) (h : l.length = 2) : ∃ x0 x1, l = [x0, x1] := by
  match l, h with
  | [x0, x1], _ => exact ⟨x0, x1, rfl⟩

theorem long_ok (A : Option Addr) (n c : Nat) (w : World) : Calls Try.prog 8 #[.slice A n c] w fun e w' => e = .returned (.bool (decide (40 < n))) ∧ w = w' := by
  by_cases h : 40 < n
  · have hd : decide ((40 : Int) < n) = true := decide_eq_true (by omega)
    have hd2 : decide (40 < n) = true := decide_eq_true h
    go_enter Try.func8, Try.ntmps8
    go_wp2
    go_ret
    exact ⟨by simp [h], rfl⟩
  · have hd : decide ((40 : Int) < n) = false := decide_eq_false (by omega)
    have hd2 : decide (40 < n) = false := decide_eq_false h
    go_enter Try.func8, Try.ntmps8
    go_wp2
    go_ret
    exact ⟨by simp [h], rfl⟩

set_option maxHeartbeats 4000000 in
theorem walk (A0 : Option Addr) (c0 : Nat) (z0 : List Int) (a1a a1b : Int) (w : World) (n0 : z0.length ≤ 9223372036854775807) (m0 : z0.length ≤ c0) (w0 : ∀ z ∈ z0, (Lit.int .i32 z).wf = true) (h0 : Has w w.heap.size A0 (z0.map (Value.int .i32))) (w1 : ∀ z ∈ [a1a, a1b], (Lit.int .i64 z).wf = true) :
    Calls Try.prog 5 #[.slice A0 z0.length c0, .agg #[.int .i64 a1a, .int .i64 a1b]] w fun e w' => e = .returned (.bool true) ∧ Below w.heap.size w w' := by
  have hb0 : Below w.heap.size w (w.alloc (.cells #[.int .i64 a1a, .int .i64 a1b] 29)) := (Below.refl _ _).alloc (Nat.le_refl _) _
  by_cases hl : 40 < z0.length
  · have hld : decide (40 < z0.length) = true := decide_eq_true hl
    have HL := Lib.hid (fun w => long_ok A0 z0.length c0 w)
    rw [hld] at HL
    clear w0 m0 h0 w1
    go_enter Try.func5, Try.ntmps5
    go_wp2_with (first | (go_at_call 8; (with_reducible refine (HL.out _).mono ?_); rintro e u ⟨rfl, rfl⟩))
    go_ret
    exact ⟨rfl, hb0⟩
  have hld : decide (40 < z0.length) = false := decide_eq_false hl
  have HL := Lib.hid (fun w => long_ok A0 z0.length c0 w)
  rw [hld] at HL
  have H16 := Lib.hid (fun w h => wKind_ok A0 c0 a1a a1b z0 w (by omega) m0 h)
  have H17 := Lib.hid (fun w h => rKind_ok A0 c0 a1a a1b z0 w (by omega) h)
  have H18 := Lib.hid (fun w h => wcount_ok A0 c0 z0 w (by omega) m0 h)
  have H19 := Lib.hid (fun w h => rcount_ok A0 c0 z0 w (by omega) m0 h)
  generalize kindV z0 a1a a1b = V at *
  generalize cntV z0 = U at *
  have hat := at_new w #[.int .i64 a1a, .int .i64 a1b] 29
  have y0 := hat.cell 0 _ rfl
  have y1 := hat.cell 1 _ rfl
  have hg : w.heap.size < (w.alloc (.cells #[.int .i64 a1a, .int .i64 a1b] 29)).heap.size := hat.lt
  have hs := h0.carry hb0
  obtain ⟨W1, hW1⟩ : ∃ W1, w.alloc (.cells #[.int .i64 a1a, .int .i64 a1b] 29) = W1 := ⟨_, rfl⟩
  have HW1 := Lib.hid hW1
  rw [hW1] at y0 y1 hg hs hb0
  clear w0 m0 n0 w1 hl hld hat h0 hW1
  go_enter Try.func5, Try.ntmps5
  go_wp2_with (first | (go_at_call 8; (with_reducible refine (HL.out _).mono ?_); rintro e u0 ⟨rfl, rfl⟩))
  rw [HW1.out]
  have hc : Below W1.heap.size W1 W1.drew := (Below.refl _ _).drew
  go_region_held3 (fun w' => w'.cell? ⟨w.heap.size, 0, none⟩ = some (.int .i64 a1a) ∧ w'.cell? ⟨w.heap.size, 1, none⟩ = some (.int .i64 a1b))
    (first | go_keep | exact ⟨(hc.cell (p := ⟨w.heap.size, 0, none⟩) hg).trans y0, (hc.cell (p := ⟨w.heap.size, 1, none⟩) hg).trans y1⟩)
    (first
      | (go_at_call 16; (with_reducible refine (H16.out _ (hs.carry hc)).mono ?_); rintro e u ⟨rfl, hu⟩; have hc := below_trans hc hu.1 hc.size)
      | (go_at_call 17; (with_reducible refine (H17.out _ (hs.carry hc)).mono ?_); rintro e u ⟨rfl, hu⟩; have hc := below_trans hc hu.1 hc.size)
      | (go_at_call 18; (with_reducible refine (H18.out _ (hs.carry hc)).mono ?_); rintro e u ⟨rfl, hu⟩; have hc := below_trans hc hu hc.size)
      | (go_at_call 19; (with_reducible refine (H19.out _ (hs.carry hc)).mono ?_); rintro e u ⟨rfl, hu⟩; have hc := below_trans hc hu hc.size))
  all_goals go_wp2
  all_goals go_ret
  all_goals exact ⟨rfl, below_trans hb0 hc hb0.size⟩

set_option maxRecDepth 100000 in
theorem lifted (os : Os) (started : os.Started) (H : Type) (enc : TypeId × Value → H) :
    ReturnsInHanded {} Try.checked os 5 .any (Rows.wordsKindsSpec.pre6 enc Try.prog Try.f5 Rows.wordsKindsRow.domain false) (Rows.wordsKindsSpec.post enc Try.prog Try.f5 false true false false) := by
  refine returnsInHanded_of_change (C := Try.checked) own started (by kernel_rfl) Try.func5
    (ChangeSpec.witness6 (enc := enc) (C := Try.checked) false ⟨#[], #[.slice none 0 0, .agg #[.int .i64 0, .int .i64 0]], []⟩ 8 (by kernel_rfl) (by kernel_rfl) (by kernel_rfl) (by kernel_rfl)) ?_
  intro W base args ds gs before hval0 hW hcnd _
  have hval : ∀ (j : Nat) t v, Try.f5.params[j]? = some t → args[j]? = some v → Value.okWide Try.prog W .any base t v := hval0
  have hW' := hW
  obtain ⟨p, q, hA0, hV, rfl, hfz, hnd⟩ := hW
  have hA : DataW.TrodAll enc Try.prog W 0 (fun _ => true) true Try.f5.params.toList args.toList ds p := hA0
  rw [Try.params5] at hA hval
  obtain ⟨v0, vs0, d0, ds0, p0, q0, hargs, rfl, rfl, h0, r0⟩ := trodAll_cons hA
  obtain ⟨v1, vs1, d1, ds1, p1, q1, rfl, rfl, rfl, h1, r1⟩ := trodAll_cons r0
  obtain ⟨rfl, rfl, rfl⟩ := trodAll_nil r1
  obtain rfl : args = #[v0, v1] := by cases args; simp_all
  obtain ⟨rfl, rfl⟩ := trodVars_none hV
  clear hA0 hval0
  have hlt : ∀ x ∈ p0 ++ (p1 ++ []), x.block < W.heap.size := fun x hx => by simpa using hW'.lt x (List.mem_append_left _ hx)
  have k0 := h0
  have k1 := h1
  obtain ⟨A0, l0, c0, rfl⟩ := okWide_slice Try.underlying22 (hval 0 22 v0 rfl rfl)
  obtain ⟨z0, rfl, n0, m0, w0, hh0⟩ := has_ints Try.underlying22 Try.underlying21 (by kernel_rfl) h0 (fun x hx => hlt x (List.mem_append_left _ hx))
  obtain ⟨zz1, hv1, ln1, w1⟩ := struct_ints Try.underlying29 (by kernel_rfl) (by kernel_rfl) (by kernel_rfl) Try.underlying3 (hval 1 29 v1 rfl rfl) h1
  obtain ⟨a1a, a1b, rfl⟩ := list_len2 zz1 ln1
  subst hv1
  refine (walk A0 c0 z0 a1a a1b W n0 m0 w0 hh0 w1).mono fun e W' ⟨he, hb⟩ => ?_
  subst he
  exact ⟨_, rfl, _, _, _, [], _, [], hW', (trodAll_cons_mk (shut_bool Try.underlying4 _) trodAll_mk0), (trodAll_cons_mk (Below.trod laidOut (by kernel_rfl) (of_decide_eq_true (by kernel_rfl)) k0 hb (fun x hx => hlt x (List.mem_append_left _ hx))) (trodAll_cons_mk (Below.trod laidOut (by kernel_rfl) (of_decide_eq_true (by kernel_rfl)) k1 hb (fun x hx => hlt x (List.mem_append_right _ (List.mem_append_left _ hx)))) trodAll_mk0)), rfl, hb.frame _, fun h => by cases h⟩

theorem over : Rows.wordsKindsRow.holds Try.pinned (OpenSpec.ofChange Rows.wordsKindsSpec) :=
  OpenClaim.holds_of_wide 5 Try.f5 rfl rfl rfl rfl rfl rfl rfl ⟨rfl, rfl, rfl, rfl, rfl⟩ rfl rfl rfl rfl rfl (by kernel_rfl) Try.func5 (by kernel_rfl)
    (of_decide_eq_true (by kernel_rfl)) (by unfold Func.isWrapper; first | (rw [if_pos (by decide +kernel)]; kernel_rfl) | (rw [if_neg (by decide +kernel)]; exact ⟨rfl, rfl⟩))
    (fun os started H enc _ => lifted os started H enc)

/-- the statement -/
theorem proved : Rows.WordsKindsSaid :=
  over
#print axioms proved
end Go.Proofs.Ytcplhbafbjpnlaa.wordsKinds
