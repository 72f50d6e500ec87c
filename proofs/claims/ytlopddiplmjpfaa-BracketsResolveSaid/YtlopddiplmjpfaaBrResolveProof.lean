/-
  For every []rune t, []int classes and every level and sos the statement BracketsResolve returns true: Resolve tells what the document's Resolve tells. No condition.
-/
import Derived.Test.YtlopddiplmjpfaaHas
import Derived.Test.YtlopddiplmjpfaaBss
set_option linter.unusedVariables false
namespace Go.Proofs.Ytlopddiplmjpfaa.bracketsResolve
open Go.ChangeShapes Go.WideShapes Go.ChangeAt Go.RowKit Go.Proofs.Ytlopddiplmjpfaa
theorem own : ownKnob Try.prog.godebug = none := by kernel_rfl
theorem laidOut : laidOutB Try.prog = true := by kernel_rfl

set_option maxRecDepth 20000 in
set_option maxHeartbeats 4000000 in
theorem walk (A0 : Option Addr) (c0 : Nat) (z0 : List Int) (A1 : Option Addr) (c1 : Nat) (z1 : List Int) (a2 : Int) (b2 : Bool) (w : World) (n0 : z0.length ≤ 9223372036854775807) (m0 : z0.length ≤ c0) (w0 : ∀ z ∈ z0, (Lit.int .i32 z).wf = true) (h0 : Has w w.heap.size A0 (z0.map (Value.int .i32))) (e0 : A0 = none → c0 = 0) (n1 : z1.length ≤ 9223372036854775807) (m1 : z1.length ≤ c1) (w1 : ∀ z ∈ z1, (Lit.int .i64 z).wf = true) (h1 : Has w w.heap.size A1 (z1.map (Value.int .i64))) (e1 : A1 = none → c1 = 0) (w2 : (Lit.int .i64 a2).wf = true) :
    Calls Try.prog 4 #[.slice A0 z0.length c0, .slice A1 z1.length c1, .agg #[.int .i64 a2, .bool b2]] w fun e w' => e = .returned (.bool true) ∧ Below w.heap.size w w' := by
  have hat0 := at_new w #[.int .i64 a2, .bool b2] 29
  have hU0 : Up w (w.alloc (.cells #[.int .i64 a2, .bool b2] 29)) := (Up.refl w).alloc _
  have k0 := hat0.cell 0 _ rfl
  have k1 := hat0.cell 1 _ rfl
  by_cases hl : 150 < z0.length ∨ 150 < z1.length
  · have hld : decide (150 < z0.length ∨ 150 < z1.length) = true := decide_eq_true hl
    have HL := Lib.hid (fun w => long_ok A0 A1 z0.length z1.length c0 c1 w)
    rw [hld] at HL
    clear w0 m0 h0 w1 h1 m1 hl hld
    go_enter Try.func4, Try.ntmps4
    go_wp2_with (first | (go_at_call 8; (with_reducible refine (HL.out _).mono ?_); rintro e u ⟨rfl, rfl⟩))
    go_ret
    exact ⟨rfl, hU0.1⟩
  have hld : decide (150 < z0.length ∨ 150 < z1.length) = false := decide_eq_false hl
  have HL := Lib.hid (fun w => long_ok A0 A1 z0.length z1.length c0 c1 w)
  rw [hld] at HL
  have H13 := Lib.hid (fun w h h' => resolve_ok A0 A1 c0 c1 z0.length z1.length a2 (sideB b2) z0 z1 w rfl rfl (by omega) (sideB_or b2) h h')
  have H15 := Lib.hid (fun w h h' => rresolve_ok A0 A1 c0 c1 z0.length z1.length a2 (sideB b2) z0 z1 w rfl rfl (by omega) e1 h h')
  have HS := Lib.hid (fun w => side_ok b2 w)
  have HU : Hid (∀ l l2 (h : PairsV z0 z1 l) (k : PairsV z0 z1 l2), l = l2) := Lib.hid (fun l l2 h k => h.unique k)
  have HM : Hid (∀ l, (if z0.length = z1.length then resL z0 (ownB a2) (sideB b2) l z1 else []).length ≤ 1000) := Lib.hid (fun l => by
    split
    · rw [resL_len]; omega
    · exact Nat.zero_le _)
  have HR : ∃ R : List (Nat × Nat) → List Int, ∀ l, (if z0.length = z1.length then resL z0 (ownB a2) (sideB b2) l z1 else []) = R l := ⟨_, fun l => rfl⟩
  obtain ⟨R, HR⟩ := HR
  simp only [HR] at H13 H15 HM
  have g0 := h0.carry hU0.1
  have g1 := h1.carry hU0.1
  generalize sideB b2 = sd at *
  clear w0 m0 w1 m1 hl hld n0 n1 HR
  go_enter Try.func4, Try.ntmps4
  go_wp2_with (first
    | (go_at_call 8; (with_reducible refine (HL.out _).mono ?_); rintro e u0 ⟨rfl, rfl⟩))
  obtain ⟨W0, hW0⟩ : ∃ W0, w.alloc (.cells #[.int .i64 a2, .bool b2] 29) = W0 := ⟨_, rfl⟩
  rw [hW0] at k0 k1 g0 g1 hU0 hat0
  try rw [hW0]
  have hlt := hat0.lt
  have hbd : Below W0.heap.size W0 W0.drew := (Below.refl _ _).drew
  have HG := Lib.hid (fun u (hu : Below W0.heap.size W0 u) => (⟨g0.carry hu, g1.carry hu⟩ : _ ∧ _))
  clear hW0 g0 g1 hat0 h0 h1
  go_region_held3 (fun w' => w'.cell? ⟨w.heap.size, 0, none⟩ = some (.int .i64 a2) ∧ w'.cell? ⟨w.heap.size, 1, none⟩ = some (.bool b2))
    (first
      | go_keep
      | exact ⟨(hbZ.cell (p := ⟨w.heap.size, 0, none⟩) hlt).trans k0, (hbZ.cell (p := ⟨w.heap.size, 1, none⟩) hlt).trans k1⟩
      | exact ⟨(hbY.cell (p := ⟨w.heap.size, 0, none⟩) hlt).trans k0, (hbY.cell (p := ⟨w.heap.size, 1, none⟩) hlt).trans k1⟩
      | exact ⟨(hbX.cell (p := ⟨w.heap.size, 0, none⟩) hlt).trans k0, (hbX.cell (p := ⟨w.heap.size, 1, none⟩) hlt).trans k1⟩)
    (first
      | (go_at_call 14; refine (HS.out _).mono ?_; rintro e wS ⟨rfl, rfl⟩)
      | (go_at_call 13; refine (H13.out _ (HG.out _ hbd).1 (HG.out _ hbd).2).mono ?_; rintro e wX ⟨l, hl, v, rfl, AX, cX, rfl, _, hsX, hbX0⟩; have hbX := below_trans hbd hbX0 hbd.size)
      | (go_at_call 15; refine (H15.out _ (HG.out _ hbX).1 (HG.out _ hbX).2).mono ?_; rintro e wY ⟨l2, hl2, v2, rfl, AY, cY, rfl, _, hsY, hbY0⟩; have hbY := below_trans hbX hbY0 hbX.size; have hsX2 := hsX.carry hbY0; obtain rfl := HU.out _ _ hl hl2; have hln := HM.out l)
      | (go_at_call 12; refine (eqs_ok AX AY cX cY (R l).length (R l) _ rfl (by omega) hsX2 hsY).mono ?_; rintro e wZ ⟨rfl, hbZ0⟩; have hbZ := below_trans hbY hbZ0 hbY.size))
  go_wp2
  go_ret
  exact ⟨rfl, below_trans hU0.1 hbZ hU0.1.size⟩

set_option maxRecDepth 100000 in
theorem lifted (os : Os) (started : os.Started) (H : Type) (enc : TypeId × Value → H) :
    ReturnsInHanded {} Try.checked os 4 .any (Rows.bracketsResolveSpec.pre6 enc Try.prog Try.f4 Rows.bracketsResolveRow.domain false) (Rows.bracketsResolveSpec.post enc Try.prog Try.f4 false true false false) := by
  refine returnsInHanded_of_change (C := Try.checked) own started (by kernel_rfl) Try.func4
    (ChangeSpec.witness6 (enc := enc) (C := Try.checked) false ⟨#[], #[.slice none 0 0, .slice none 0 0, .agg #[.int .i64 0, .bool false]], []⟩ 8 (by kernel_rfl) (by kernel_rfl) (by kernel_rfl) (by kernel_rfl)) ?_
  intro W base args ds gs before hval0 hW hcnd _
  have hval : ∀ (j : Nat) t v, Try.f4.params[j]? = some t → args[j]? = some v → Value.okWide Try.prog W .any base t v := hval0
  have hW' := hW
  obtain ⟨p, q, hA0, hV, rfl, hfz, hnd⟩ := hW
  have hA : DataW.TrodAll enc Try.prog W 0 (fun _ => true) true Try.f4.params.toList args.toList ds p := hA0
  rw [Try.params4] at hA hval
  obtain ⟨v0, vs0, d0, ds0, p0, q0, hargs, rfl, rfl, h0, r0⟩ := trodAll_cons hA
  obtain ⟨v1, vs1, d1, ds1, p1, q1, rfl, rfl, rfl, h1, r1⟩ := trodAll_cons r0
  obtain ⟨v2, vs2, d2, ds2, p2, q2, rfl, rfl, rfl, h2, r2⟩ := trodAll_cons r1
  obtain ⟨rfl, rfl, rfl⟩ := trodAll_nil r2
  obtain rfl : args = #[v0, v1, v2] := by cases args; simp_all
  obtain ⟨rfl, rfl⟩ := trodVars_none hV
  clear hA0 hval0
  have hlt : ∀ x ∈ p0 ++ (p1 ++ (p2 ++ [])), x.block < W.heap.size := fun x hx => by simpa using hW'.lt x (List.mem_append_left _ hx)
  have k0 := h0
  have k1 := h1
  have k2 := h2
  obtain ⟨A0, l0, c0, rfl⟩ := okWide_slice Try.underlying22 (hval 0 22 v0 rfl rfl)
  obtain ⟨z0, rfl, n0, m0, w0, hh0⟩ := has_ints Try.underlying22 Try.underlying21 (by kernel_rfl) h0 (fun x hx => hlt x (List.mem_append_left _ hx))
  have e0 := none_cap Try.underlying22 Try.underlying21 (by kernel_rfl) k0
  obtain ⟨A1, l1, c1, rfl⟩ := okWide_slice Try.underlying23 (hval 1 23 v1 rfl rfl)
  obtain ⟨z1, rfl, n1, m1, w1, hh1⟩ := has_ints Try.underlying23 Try.underlying3 (by kernel_rfl) h1 (fun x hx => hlt x (List.mem_append_right _ (List.mem_append_left _ hx)))
  have e1 := none_cap Try.underlying23 Try.underlying3 (by kernel_rfl) k1
  obtain ⟨a2, b2, hv2, w2⟩ := seen_struct Try.underlying29 (by kernel_rfl) (by kernel_rfl) (by rfl) (by rfl) (by rfl) Try.underlying3 Try.underlying4 (hval 2 29 v2 rfl rfl) h2
  subst hv2
  refine (walk A0 c0 z0 A1 c1 z1 a2 b2 W n0 m0 w0 hh0 e0 n1 m1 w1 hh1 e1 w2).mono fun e W' ⟨he, hb⟩ => ?_
  subst he
  exact ⟨_, rfl, _, _, _, [], _, [], hW', (trodAll_cons_mk (shut_bool Try.underlying4 _) trodAll_mk0), (trodAll_cons_mk (Below.trod laidOut (by kernel_rfl) (of_decide_eq_true (by kernel_rfl)) k0 hb (fun x hx => hlt x (List.mem_append_left _ hx))) (trodAll_cons_mk (Below.trod laidOut (by kernel_rfl) (of_decide_eq_true (by kernel_rfl)) k1 hb (fun x hx => hlt x (List.mem_append_right _ (List.mem_append_left _ hx)))) (trodAll_cons_mk (Below.trod laidOut (by kernel_rfl) (of_decide_eq_true (by kernel_rfl)) k2 hb (fun x hx => hlt x (List.mem_append_right _ (List.mem_append_right _ (List.mem_append_left _ hx))))) trodAll_mk0))), rfl, hb.frame _, fun h => by cases h⟩

theorem over : Rows.bracketsResolveRow.holds Try.pinned (OpenSpec.ofChange Rows.bracketsResolveSpec) :=
  OpenClaim.holds_of_wide 4 Try.f4 rfl rfl rfl rfl rfl rfl rfl ⟨rfl, rfl, rfl, rfl, rfl⟩ rfl rfl rfl rfl rfl (by kernel_rfl) Try.func4 (by kernel_rfl)
    (of_decide_eq_true (by kernel_rfl)) (by unfold Func.isWrapper; first | (rw [if_pos (by decide +kernel)]; kernel_rfl) | (rw [if_neg (by decide +kernel)]; exact ⟨rfl, rfl⟩))
    (fun os started H enc _ => lifted os started H enc)

/-- the statement -/
theorem proved : Rows.BracketsResolveSaid :=
  over
#print axioms proved
end Go.Proofs.Ytlopddiplmjpfaa.bracketsResolve
