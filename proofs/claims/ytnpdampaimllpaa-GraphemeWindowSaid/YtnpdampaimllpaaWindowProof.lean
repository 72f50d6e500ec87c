/-
  For every four []rune the statement GraphemeWindow returns true: whatever stands between two texts, boundaries within the first one, and those of the second one beyond its window, are the same. No condition.
-/
import Derived.Test.YtnpdampaimllpaaHas
import Derived.Test.YtnpdampaimllpaaAlive
import Derived.Test.YtnpdampaimllpaaTog
set_option linter.unusedVariables false
namespace Go.Proofs.Ytnpdampaimllpaa.graphemeWindow
open Go.ChangeShapes Go.WideShapes Go.ChangeAt Go.RowKit Go.Proofs.Ytnpdampaimllpaa
theorem own : ownKnob Try.prog.godebug = none := by kernel_rfl
theorem laidOut : laidOutB Try.prog = true := by kernel_rfl

set_option maxRecDepth 20000 in
set_option maxHeartbeats 4000000 in
theorem walk (A0 : Option Addr) (c0 : Nat) (z0 : List Int) (A1 : Option Addr) (c1 : Nat) (z1 : List Int) (A2 : Option Addr) (c2 : Nat) (z2 : List Int) (A3 : Option Addr) (c3 : Nat) (z3 : List Int) (w : World) (n0 : z0.length ≤ 9223372036854775807) (m0 : z0.length ≤ c0) (w0 : ∀ z ∈ z0, (Lit.int .i32 z).wf = true) (h0 : Has w w.heap.size A0 (z0.map (Value.int .i32))) (n1 : z1.length ≤ 9223372036854775807) (m1 : z1.length ≤ c1) (w1 : ∀ z ∈ z1, (Lit.int .i32 z).wf = true) (h1 : Has w w.heap.size A1 (z1.map (Value.int .i32))) (n2 : z2.length ≤ 9223372036854775807) (m2 : z2.length ≤ c2) (w2 : ∀ z ∈ z2, (Lit.int .i32 z).wf = true) (h2 : Has w w.heap.size A2 (z2.map (Value.int .i32))) (n3 : z3.length ≤ 9223372036854775807) (m3 : z3.length ≤ c3) (w3 : ∀ z ∈ z3, (Lit.int .i32 z).wf = true) (h3 : Has w w.heap.size A3 (z3.map (Value.int .i32))) (e0 : A0 = none → c0 = 0) (e1 : A1 = none → c1 = 0) (e2 : A2 = none → c2 = 0) (e3 : A3 = none → c3 = 0) :
    Calls Try.prog 6 #[.slice A0 z0.length c0, .slice A1 z1.length c1, .slice A2 z2.length c2, .slice A3 z3.length c3] w fun e w' => e = .returned (.bool true) ∧ Below w.heap.size w w' := by
  by_cases hl : 100 < z0.length ∨ 100 < z1.length ∨ 100 < z2.length ∨ 100 < z3.length
  · clear w0 m0 h0 w1 m1 h1 w2 m2 h2 w3 m3 h3 e0 e1 e2 e3
    by_cases l0 : 100 < z0.length
    · go_enter Try.func6, Try.ntmps6
      go_wp2_with (go_at_call 8; refine (alive_ok _).mono ?_; rintro e u ⟨rfl, hu⟩)
      go_ret
      exact ⟨rfl, hu⟩
    have d0 : decide (100 < (z0.length : Int)) = false := decide_eq_false (by omega)
    by_cases l1 : 100 < z1.length
    · go_enter Try.func6, Try.ntmps6
      go_wp2_with (go_at_call 8; refine (alive_ok _).mono ?_; rintro e u ⟨rfl, hu⟩)
      go_ret
      exact ⟨rfl, hu⟩
    have d1 : decide (100 < (z1.length : Int)) = false := decide_eq_false (by omega)
    by_cases l2 : 100 < z2.length
    · go_enter Try.func6, Try.ntmps6
      go_wp2_with (go_at_call 8; refine (alive_ok _).mono ?_; rintro e u ⟨rfl, hu⟩)
      go_ret
      exact ⟨rfl, hu⟩
    have d2 : decide (100 < (z2.length : Int)) = false := decide_eq_false (by omega)
    have l3 : 100 < z3.length := by omega
    clear hl
    go_enter Try.func6, Try.ntmps6
    go_wp2_with (go_at_call 8; refine (alive_ok _).mono ?_; rintro e u ⟨rfl, hu⟩)
    go_ret
    exact ⟨rfl, hu⟩
  have l0 : z0.length ≤ 100 := by omega
  have l1 : z1.length ≤ 100 := by omega
  have l2 : z2.length ≤ 100 := by omega
  have l3 : z3.length ≤ 100 := by omega
  have d0 : decide (100 < (z0.length : Int)) = false := decide_eq_false (by omega)
  have d1 : decide (100 < (z1.length : Int)) = false := decide_eq_false (by omega)
  have d2 : decide (100 < (z2.length : Int)) = false := decide_eq_false (by omega)
  have d3 : decide (100 < (z3.length : Int)) = false := decide_eq_false (by omega)
  have HTa := Lib.hid (fun w g1 g2 g3 => together_ok A0 A1 A3 c0 c1 c3 z0 z1 z3 w e0 e1 e3 (by omega) (by omega) (by omega) g1 g2 g3)
  have HTb := Lib.hid (fun w g1 g2 g3 => together_ok A0 A2 A3 c0 c2 c3 z0 z2 z3 w e0 e2 e3 (by omega) (by omega) (by omega) g1 g2 g3)
  have HF := Lib.hid (fun i h => is_first z0 z1 z2 z3 i h)
  have HS := Lib.hid (fun i a b hw hb h0 hi => is_last z0 z1 z2 z3 i a b hw hb h0 hi)
  have hta : (z0 ++ z1 ++ z3).length = z0.length + z1.length + z3.length := by rw [List.length_append, List.length_append]
  have htb : (z0 ++ z2 ++ z3).length = z0.length + z2.length + z3.length := by rw [List.length_append, List.length_append]
  have HW := Lib.hid (fun w h => win_ok A3 c3 0 z3 w (by omega) m3 h)
  have HWN := Lib.hid (win_nat (cls z3))
  have HL3 := Lib.hid (cls_len z3)
  obtain ⟨ta, hae⟩ : ∃ t, z0 ++ z1 ++ z3 = t := ⟨_, rfl⟩
  obtain ⟨tb, hbe⟩ : ∃ t, z0 ++ z2 ++ z3 = t := ⟨_, rfl⟩
  rw [hae] at HTa hta
  rw [hbe] at HTb htb
  simp only [hae, hbe] at HF HS
  have HTA := Lib.hid hta
  have HTB := Lib.hid htb
  have lta : ta.length ≤ 300 := by omega
  have ltb : tb.length ≤ 300 := by omega
  clear hae hbe hta htb w0 w1 w2 w3 m0 m1 m2 m3 n0 n1 n2 n3 e0 e1 e2 e3 hl
  go_enter Try.func6, Try.ntmps6
  go_wp2_with (first
    | (go_at_call 24; (with_reducible refine (HTa.out _ h0 h1 h3).mono ?_); rintro e u1 ⟨v1, rfl, Aa, ca, rfl, ⟨hca, _⟩, ga, hb1⟩; have k0 := h0.carry hb1; have k2 := h2.carry hb1; have k3 := h3.carry hb1)
    | (go_at_call 24; (with_reducible refine (HTb.out _ k0 k2 k3).mono ?_); rintro e u2 ⟨v2, rfl, Ab, cb, rfl, ⟨hcb, _⟩, gb, hb2⟩; have ga := ga.carry hb2; have r3 := k3.carry hb2; have B2 := below_trans hb1 hb2 hb1.size))
  have HB2 := Lib.hid B2
  clear h0 h1 h2 h3 k0 k2 k3 hb1 hb2 B2 HTa HTb
  have HIa := Lib.hid (fun i w h => is_ok Aa ca i ta w (by omega) hca h)
  have HIb := Lib.hid (fun i w h => is_ok Ab cb i tb w (by omega) hcb h)
  go_loopw [44] (fun i wr => ∃ k : Nat, k ≤ z0.length ∧ i = .int .i64 k ∧ Up u2 wr) (fun i _ => z0.length - (intOf i).toNat)
  case atStart => exact ⟨0, by omega, rfl, Up.refl _⟩
  case round =>
    obtain ⟨k, hk, rfl, hU⟩ := hrel
    by_cases hlt : k < z0.length
    · have xa := ga.up hU
      have hq := HF.out k hlt
      have JA := Lib.hid (fun w h => HIa.out k w h)
      have JB := Lib.hid (fun w h => HIb.out k w h)
      rw [hq] at JA
      generalize isV (cls tb) k = q at JA JB
      clear hq
      have eqq : (q != q) = false := by simp
      have hub := gb.up hU
      go_wp2_with (first
        | (go_at_call 18; (with_reducible refine (JA.out _ xa).mono ?_); rintro e u3 ⟨rfl, hu3⟩; have U3 := hU.trans hu3; have xb := hub.up hu3)
        | (go_at_call 18; (with_reducible refine (JB.out _ xb).mono ?_); rintro e u4 ⟨rfl, hu4⟩; have U4 := U3.trans hu4))
      go_roundw
      case rel => exact ⟨k + 1, by omega, by go_num, U4⟩
      case measure => simp [intOf] <;> omega
    · obtain rfl : k = z0.length := by omega
      have y3 := r3.up hU
      go_wp2_with (go_at_call 16; (with_reducible refine (HW.out _ y3).mono ?_); rintro e u5 ⟨⟨wa, wb, rfl, hw⟩, hu5⟩; have U5 := hU.trans hu5; obtain ⟨t, rfl, ht⟩ := HWN.out _ _ hw; rw [HL3.out] at ht; have HWV := Lib.hid hw; clear hw)
      have HU5 := Lib.hid U5
      clear U5 y3
      go_loopw [14] (fun i wr => ∃ j : Nat, 1 ≤ j ∧ t < j ∧ j ≤ z3.length + 1 ∧ i = .int .i64 j ∧ Up u2 wr) (fun i _ => z3.length + 1 - (intOf i).toNat)
      case atStart => exact ⟨t + 1, by omega, by omega, by omega, by go_num, HU5.out⟩
      case round =>
        clear hU
        obtain ⟨j, hj1, htj, hj, rfl, hU⟩ := hrel
        by_cases hle : j ≤ z3.length
        · have xa := ga.up hU
          have hub := gb.up hU
          have hq := HS.out j _ _ HWV.out (by omega) (by omega) hle
          have ia : (((z0.length + z1.length + j : Nat) : Int)) = (z0.length : Int) + z1.length + j := by omega
          have ib : (((z0.length + z2.length + j : Nat) : Int)) = (z0.length : Int) + z2.length + j := by omega
          rw [ia, ib] at hq
          have JA := Lib.hid (fun w h => HIa.out ((z0.length : Int) + z1.length + j) w h)
          have JB := Lib.hid (fun w h => HIb.out ((z0.length : Int) + z2.length + j) w h)
          rw [hq] at JA
          generalize isV (cls tb) ((z0.length : Int) + z2.length + j) = q at JA JB
          clear hq ia ib
          have eqq : (q != q) = false := by simp
          go_wp2_with (first
            | (go_at_call 18; (with_reducible refine (JA.out _ xa).mono ?_); rintro e u6 ⟨rfl, hu6⟩; have U6 := hU.trans hu6; have xb := hub.up hu6)
            | (go_at_call 18; (with_reducible refine (JB.out _ xb).mono ?_); rintro e u7 ⟨rfl, hu7⟩; have U7 := U6.trans hu7))
          go_roundw
          case rel => exact ⟨j + 1, by omega, by omega, by omega, by go_num, U7⟩
          case measure => simp [intOf] <;> omega
        · have hle2 : ¬ (j : Int) ≤ z3.length := by omega
          go_wp2_with (go_at_call 8; refine (alive_ok _).mono ?_; rintro e u8 ⟨rfl, hb8⟩)
          go_ret
          have B3 := below_trans HB2.out hU.1 HB2.out.size
          exact ⟨rfl, below_trans B3 hb8 B3.size⟩

set_option maxRecDepth 100000 in
theorem lifted (os : Os) (started : os.Started) (H : Type) (enc : TypeId × Value → H) :
    ReturnsInHanded {} Try.checked os 6 .any (Rows.graphemeWindowSpec.pre6 enc Try.prog Try.f6 Rows.graphemeWindowRow.domain false) (Rows.graphemeWindowSpec.post enc Try.prog Try.f6 false true false false) := by
  refine returnsInHanded_of_change (C := Try.checked) own started (by kernel_rfl) Try.func6
    (ChangeSpec.witness6 (enc := enc) (C := Try.checked) false ⟨#[], #[.slice none 0 0, .slice none 0 0, .slice none 0 0, .slice none 0 0], []⟩ 8 (by kernel_rfl) (by kernel_rfl) (by kernel_rfl) (by kernel_rfl)) ?_
  intro W base args ds gs before hval0 hW hcnd _
  have hval : ∀ (j : Nat) t v, Try.f6.params[j]? = some t → args[j]? = some v → Value.okWide Try.prog W .any base t v := hval0
  have hW' := hW
  obtain ⟨p, q, hA0, hV, rfl, hfz, hnd⟩ := hW
  have hA : DataW.TrodAll enc Try.prog W 0 (fun _ => true) true Try.f6.params.toList args.toList ds p := hA0
  rw [Try.params6] at hA hval
  obtain ⟨v0, vs0, d0, ds0, p0, q0, hargs, rfl, rfl, h0, r0⟩ := trodAll_cons hA
  obtain ⟨v1, vs1, d1, ds1, p1, q1, rfl, rfl, rfl, h1, r1⟩ := trodAll_cons r0
  obtain ⟨v2, vs2, d2, ds2, p2, q2, rfl, rfl, rfl, h2, r2⟩ := trodAll_cons r1
  obtain ⟨v3, vs3, d3, ds3, p3, q3, rfl, rfl, rfl, h3, r3⟩ := trodAll_cons r2
  obtain ⟨rfl, rfl, rfl⟩ := trodAll_nil r3
  obtain rfl : args = #[v0, v1, v2, v3] := by cases args; simp_all
  obtain ⟨rfl, rfl⟩ := trodVars_none hV
  clear hA0 hval0
  have hlt : ∀ x ∈ p0 ++ (p1 ++ (p2 ++ (p3 ++ []))), x.block < W.heap.size := fun x hx => by simpa using hW'.lt x (List.mem_append_left _ hx)
  have k0 := h0
  have k1 := h1
  have k2 := h2
  have k3 := h3
  obtain ⟨A0, l0, c0, rfl⟩ := okWide_slice Try.underlying22 (hval 0 22 v0 rfl rfl)
  obtain ⟨z0, rfl, n0, m0, w0, hh0⟩ := has_ints Try.underlying22 Try.underlying21 (by kernel_rfl) h0 (fun x hx => hlt x (List.mem_append_left _ hx))
  have e0 := none_cap Try.underlying22 Try.underlying21 (by kernel_rfl) k0
  obtain ⟨A1, l1, c1, rfl⟩ := okWide_slice Try.underlying22 (hval 1 22 v1 rfl rfl)
  obtain ⟨z1, rfl, n1, m1, w1, hh1⟩ := has_ints Try.underlying22 Try.underlying21 (by kernel_rfl) h1 (fun x hx => hlt x (List.mem_append_right _ (List.mem_append_left _ hx)))
  have e1 := none_cap Try.underlying22 Try.underlying21 (by kernel_rfl) k1
  obtain ⟨A2, l2, c2, rfl⟩ := okWide_slice Try.underlying22 (hval 2 22 v2 rfl rfl)
  obtain ⟨z2, rfl, n2, m2, w2, hh2⟩ := has_ints Try.underlying22 Try.underlying21 (by kernel_rfl) h2 (fun x hx => hlt x (List.mem_append_right _ (List.mem_append_right _ (List.mem_append_left _ hx))))
  have e2 := none_cap Try.underlying22 Try.underlying21 (by kernel_rfl) k2
  obtain ⟨A3, l3, c3, rfl⟩ := okWide_slice Try.underlying22 (hval 3 22 v3 rfl rfl)
  obtain ⟨z3, rfl, n3, m3, w3, hh3⟩ := has_ints Try.underlying22 Try.underlying21 (by kernel_rfl) h3 (fun x hx => hlt x (List.mem_append_right _ (List.mem_append_right _ (List.mem_append_right _ (List.mem_append_left _ hx)))))
  have e3 := none_cap Try.underlying22 Try.underlying21 (by kernel_rfl) k3
  refine (walk A0 c0 z0 A1 c1 z1 A2 c2 z2 A3 c3 z3 W n0 m0 w0 hh0 n1 m1 w1 hh1 n2 m2 w2 hh2 n3 m3 w3 hh3 e0 e1 e2 e3).mono fun e W' ⟨he, hb⟩ => ?_
  subst he
  exact ⟨_, rfl, _, _, _, [], _, [], hW', (trodAll_cons_mk (shut_bool Try.underlying4 _) trodAll_mk0), (trodAll_cons_mk (Below.trod laidOut (by kernel_rfl) (of_decide_eq_true (by kernel_rfl)) k0 hb (fun x hx => hlt x (List.mem_append_left _ hx))) (trodAll_cons_mk (Below.trod laidOut (by kernel_rfl) (of_decide_eq_true (by kernel_rfl)) k1 hb (fun x hx => hlt x (List.mem_append_right _ (List.mem_append_left _ hx)))) (trodAll_cons_mk (Below.trod laidOut (by kernel_rfl) (of_decide_eq_true (by kernel_rfl)) k2 hb (fun x hx => hlt x (List.mem_append_right _ (List.mem_append_right _ (List.mem_append_left _ hx))))) (trodAll_cons_mk (Below.trod laidOut (by kernel_rfl) (of_decide_eq_true (by kernel_rfl)) k3 hb (fun x hx => hlt x (List.mem_append_right _ (List.mem_append_right _ (List.mem_append_right _ (List.mem_append_left _ hx)))))) trodAll_mk0)))), rfl, hb.frame _, fun h => by cases h⟩

theorem over : Rows.graphemeWindowRow.holds Try.pinned (OpenSpec.ofChange Rows.graphemeWindowSpec) :=
  OpenClaim.holds_of_wide 6 Try.f6 rfl rfl rfl rfl rfl rfl rfl ⟨rfl, rfl, rfl, rfl, rfl⟩ rfl rfl rfl rfl rfl (by kernel_rfl) Try.func6 (by kernel_rfl)
    (of_decide_eq_true (by kernel_rfl)) (by unfold Func.isWrapper; first | (rw [if_pos (by decide +kernel)]; kernel_rfl) | (rw [if_neg (by decide +kernel)]; exact ⟨rfl, rfl⟩))
    (fun os started H enc _ => lifted os started H enc)

/-- the statement -/
theorem proved : Rows.GraphemeWindowSaid :=
  over
#print axioms proved
end Go.Proofs.Ytnpdampaimllpaa.graphemeWindow
