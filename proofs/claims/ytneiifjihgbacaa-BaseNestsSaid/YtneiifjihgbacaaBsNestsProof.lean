/-
  For every []int classes the statement BaseNests returns true: matches are each other's, lead from an initiator to a PDI behind it with no B between, and never cross. No condition.
-/
import Derived.Test.YtneiifjihgbacaaHas
import Derived.Test.YtneiifjihgbacaaHas
import Derived.Test.YtneiifjihgbacaaAlb
set_option linter.unusedVariables false
namespace Go.Proofs.Ytneiifjihgbacaa.baseNests
open Go.ChangeShapes Go.WideShapes Go.ChangeAt Go.RowKit Go.Proofs.Ytneiifjihgbacaa
theorem own : ownKnob Try.prog.godebug = none := by kernel_rfl
theorem laidOut : laidOutB Try.prog = true := by kernel_rfl

theorem mat_none (cs : List Int) (i : Nat) (hi : i < cs.length) : (matL cs).getD i 0 = -1 ∨ ∃ k : Nat, (matL cs).getD i 0 = (k : Int) ∧ k < cs.length ∧ (matL cs).getD k 0 = (i : Int) ∧ i ≠ k ∧
    (i < k → opnC (cs.getD i 0) = true ∧ cs.getD k 0 = 23 ∧ ∀ j, i < j → j < k → cs.getD j 0 ≠ 11 ∧ (((matL cs).getD j 0 = -1 ∧ cs.getD j 0 ≠ 23) ∨ ∃ y : Nat, (matL cs).getD j 0 = y ∧ i < y ∧ y < k)) := by
  rcases (inv_mat cs cs.length).vals i hi with h | ⟨k, h1, h2, h3, h4, _, h6⟩
  · exact .inl h
  · refine .inr ⟨k, h1, h2, h3, h6, fun hik => ?_⟩
    obtain ⟨a, b, c⟩ := h4 hik
    refine ⟨a, b, fun j j1 j2 => ?_⟩
    obtain ⟨c1, c2⟩ := c j j1 j2
    refine ⟨c1, ?_⟩
    rcases c2 with ⟨c3, c4, _⟩ | c2
    · exact .inl ⟨c3, c4⟩
    · exact .inr c2
theorem getDM {l : List Int} {k : Nat} (h : k < l.length) : l.getD k 0 = l[k] := by
  rw [List.getD_eq_getElem?_getD, List.getElem?_eq_getElem h]; rfl
theorem opn_three (X : Int) (h : opnC X = true) : X = 20 ∨ X = 21 ∨ X = 22 := by
  unfold opnC at h
  simp only [Bool.or_eq_true, beq_iff_eq] at h
  rcases h with (h | h) | h
  · exact .inl h
  · exact .inr (.inl h)
  · exact .inr (.inr h)
set_option maxRecDepth 20000 in
set_option maxHeartbeats 8000000 in
theorem walk (A0 : Option Addr) (c0 : Nat) (z0 : List Int) (w : World) (n0 : z0.length ≤ 9223372036854775807) (m0 : z0.length ≤ c0) (w0 : ∀ z ∈ z0, (Lit.int .i64 z).wf = true) (h0 : Has w w.heap.size A0 (z0.map (Value.int .i64))) :
    Calls Try.prog 7 #[.slice A0 z0.length c0] w fun e w' => e = .returned (.bool true) ∧ Below w.heap.size w w' := by
  have HAL := Lib.hid (fun w => alive_ok w)
  by_cases hl : 200 < z0.length
  · clear w0 m0 h0
    go_enter Try.func7, Try.ntmps7
    go_wp2_with (go_at_call 9; (with_reducible refine (HAL.out _).mono ?_); rintro e u ⟨rfl, hu⟩)
    go_ret
    exact ⟨rfl, hu⟩
  have hn : z0.length ≤ 200 := by omega
  have H12 := Lib.hid (fun w h => match_ok A0 z0.length c0 z0 w rfl (by omega) h)
  have HM := Lib.hid (mat_none z0)
  have hpl : (matL z0).length = z0.length := mat_len z0
  generalize matL z0 = l at *
  obtain ⟨N, hN⟩ : ∃ N, l.length = N := ⟨_, rfl⟩
  have HPL : Hid (l.length = N ∧ z0.length = N) := Lib.hid ⟨hN, by omega⟩
  have hlb : decide (200 < (z0.length : Int)) = false := decide_eq_false (by omega)
  have hle : ((N : Int) != (z0.length : Int)) = false := by simp; omega
  have hnn : N ≤ 200 := by omega
  clear w0 m0 n0 hl hn hpl
  go_enter Try.func7, Try.ntmps7
  go_wp2_with (go_at_call 12; (with_reducible refine (H12.out _ h0).mono ?_); rintro e u1 ⟨v1, rfl, hM1, hb1⟩; obtain ⟨A1, c1, rfl, hc1l, _, hc1⟩ := hM1.size; have g1 := h0.carry hb1; rw [hN] at hc1l ⊢)
  have HH := Lib.hid (fun W (hu : Below u1.heap.size u1 W) => (⟨g1.carry hu, hc1.carry hu⟩ : _ ∧ _))
  have HB1 := Lib.hid hb1
  clear g1 hc1 h0 hb1 H12 hM1
  go_loopw [21] (fun i wr => ∃ k : Nat, k ≤ N ∧ i = .int .i64 k ∧ ∃ q, wr = u1.drewN q) (fun i _ => N - (intOf i).toNat)
  case atStart => exact ⟨0, by omega, rfl, 0, rfl⟩
  case round =>
    obtain ⟨k, hk, rfl, q, rfl⟩ := hrel
    by_cases hlt : k < N
    · obtain ⟨gt, gl⟩ := HH.out _ (below_drewN (Below.refl _ u1) q)
      obtain ⟨hll, hzl⟩ := HPL.out
      obtain ⟨b, off, rfl, hb, hca⟩ := gl.at_int (k := k) (by omega)
      obtain ⟨bt, ot, rfl, hbt, hct⟩ := gt.at_int (k := k) (by omega)
      rw [← getDM] at hca hct
      rcases HM.out k (by omega) with hm | ⟨K, m1, m2, m3, m4, m5⟩
      · rw [hm] at hca
        clear hct hbt hb gt gl hm hll hzl
        go_wp2
        go_roundw
        case rel => exact ⟨k + 1, by omega, by go_num, _, rfl⟩
        case measure => simp [intOf] <;> omega
      · obtain ⟨b', o', hA, _, hcK⟩ := gl.at_int (k := K) (by omega)
        injection hA with hA
        injection hA with x1 x2
        subst x1; subst x2
        obtain ⟨b', o', hA, _, hcT⟩ := gt.at_int (k := K) (by omega)
        injection hA with hA
        injection hA with x1 x2
        subst x1; subst x2
        rw [← getDM, m3] at hcK
        rw [← getDM] at hcT
        rw [m1] at hca
        have hKN : K < N := by omega
        have d0 : ((K : Int) == -1) = false := by simp
        have d1 : decide ((K : Int) < 0) = false := decide_eq_false (by omega)
        have d2 : decide ((N : Int) ≤ (K : Int)) = false := decide_eq_false (by omega)
        have d3 : ((k : Int) != (k : Int)) = false := by simp
        by_cases hKk : K < k
        · have d4 : decide ((K : Int) < (k : Int)) = true := decide_eq_true (by omega)
          clear hct hbt hb gt gl hll hzl m1 m3 m5 hcT m2 m4
          go_wp2
          go_roundw
          case rel => exact ⟨k + 1, by omega, by go_num, _, rfl⟩
          case measure => simp [intOf] <;> omega
        · have d4 : decide ((K : Int) < (k : Int)) = false := decide_eq_false (by omega)
          have hkK : k < K := by omega
          have hkz : k < z0.length := by omega
          have hKz : K < z0.length := by omega
          obtain ⟨o1, o2, o3⟩ := m5 hkK
          have HP := Lib.hid o3
          have o4 := opn_three _ o1
          rw [o2] at hcT
          generalize z0.getD k 0 = X at hct o4
          clear hbt hb gt gl m1 m3 m5 m2 m4 o1 o2 o3 hll hzl
          rcases o4 with rfl | rfl | rfl
          all_goals
            go_wp2
            clear hct hca hcK hcT
            go_loopw [7] (fun v7 wr => ∃ j : Nat, k < j ∧ j ≤ K ∧ v7 = .int .i64 j ∧ ∃ q, wr = u1.drewN q) (fun v7 _ => K - (intOf v7).toNat)
            case atStart => exact ⟨k + 1, by omega, by omega, by go_num, _, rfl⟩
            case round =>
              obtain ⟨j, hj1, hj2, rfl, q2, rfl⟩ := hrel
              by_cases hjK : j < K
              · obtain ⟨gt, gl⟩ := HH.out _ (below_drewN (Below.refl _ u1) q2)
                obtain ⟨b', o', hA, _, hcj⟩ := gl.at_int (k := j) (by have := HPL.out; omega)
                injection hA with hA
                injection hA with x1 x2
                subst x1; subst x2
                obtain ⟨b', o', hA, _, hct⟩ := gt.at_int (k := j) (by have := HPL.out; omega)
                injection hA with hA
                injection hA with x1 x2
                subst x1; subst x2
                rw [← getDM] at hcj hct
                have hjz : j < z0.length := by omega
                obtain ⟨p1, p2⟩ := HP.out j hj1 hjK
                generalize z0.getD j 0 = X at hct p1 p2
                have e1 : (X == 11) = false := by simpa using p1
                rcases p2 with ⟨p2, p3⟩ | ⟨y, p2, p3, p4⟩
                · have e2 : (X == 23) = false := by simpa using p3
                  rw [p2] at hcj
                  clear gt gl p1 p2 p3
                  go_wp2
                  go_roundw
                  case rel => exact ⟨j + 1, by omega, by omega, by go_num, _, rfl⟩
                  case measure => simp [intOf] <;> omega
                · rw [p2] at hcj
                  have e2 : ((y : Int) == -1) = false := by simp
                  have e5 : ((y : Int) != -1) = true := by simp
                  have e3 : decide ((y : Int) ≤ (k : Int)) = false := decide_eq_false (by omega)
                  have e4 : decide ((K : Int) ≤ (y : Int)) = false := decide_eq_false (by omega)
                  clear gt gl p1 p2
                  go_wp2
                  go_roundw
                  case rel => exact ⟨j + 1, by omega, by omega, by go_num, _, rfl⟩
                  case measure => simp [intOf] <;> omega
              · obtain rfl : j = K := by omega
                go_wp2
                go_roundw
                case rel => exact ⟨k + 1, by omega, by go_num, _, rfl⟩
                case measure => simp [intOf] <;> omega
    · go_wp2_with (go_at_call 9; (with_reducible refine (HAL.out _).mono ?_); rintro e u3 ⟨rfl, hb3⟩)
      go_ret
      exact ⟨rfl, below_trans (below_drewN HB1.out _) hb3 HB1.out.size⟩

set_option maxRecDepth 100000 in
theorem lifted (os : Os) (started : os.Started) (H : Type) (enc : TypeId × Value → H) :
    ReturnsInHanded {} Try.checked os 7 .any (Rows.baseNestsSpec.pre6 enc Try.prog Try.f7 Rows.baseNestsRow.domain false) (Rows.baseNestsSpec.post enc Try.prog Try.f7 false true false false) := by
  refine returnsInHanded_of_change (C := Try.checked) own started (by kernel_rfl) Try.func7
    (ChangeSpec.witness6 (enc := enc) (C := Try.checked) false ⟨#[], #[.slice none 0 0], []⟩ 8 (by kernel_rfl) (by kernel_rfl) (by kernel_rfl) (by kernel_rfl)) ?_
  intro W base args ds gs before hval0 hW hcnd _
  have hval : ∀ (j : Nat) t v, Try.f7.params[j]? = some t → args[j]? = some v → Value.okWide Try.prog W .any base t v := hval0
  have hW' := hW
  obtain ⟨p, q, hA0, hV, rfl, hfz, hnd⟩ := hW
  have hA : DataW.TrodAll enc Try.prog W 0 (fun _ => true) true Try.f7.params.toList args.toList ds p := hA0
  rw [Try.params7] at hA hval
  obtain ⟨v0, vs0, d0, ds0, p0, q0, hargs, rfl, rfl, h0, r0⟩ := trodAll_cons hA
  obtain ⟨rfl, rfl, rfl⟩ := trodAll_nil r0
  obtain rfl : args = #[v0] := by cases args; simp_all
  obtain ⟨rfl, rfl⟩ := trodVars_none hV
  clear hA0 hval0
  have hlt : ∀ x ∈ p0 ++ [], x.block < W.heap.size := fun x hx => by simpa using hW'.lt x (List.mem_append_left _ hx)
  have k0 := h0
  obtain ⟨A0, l0, c0, rfl⟩ := okWide_slice Try.underlying29 (hval 0 29 v0 rfl rfl)
  obtain ⟨z0, rfl, n0, m0, w0, hh0⟩ := has_ints Try.underlying29 Try.underlying3 (by kernel_rfl) h0 (fun x hx => hlt x (List.mem_append_left _ hx))
  refine (walk A0 c0 z0 W n0 m0 w0 hh0).mono fun e W' ⟨he, hb⟩ => ?_
  subst he
  exact ⟨_, rfl, _, _, _, [], _, [], hW', (trodAll_cons_mk (shut_bool Try.underlying4 _) trodAll_mk0), (trodAll_cons_mk (Below.trod laidOut (by kernel_rfl) (of_decide_eq_true (by kernel_rfl)) k0 hb (fun x hx => hlt x (List.mem_append_left _ hx))) trodAll_mk0), rfl, hb.frame _, fun h => by cases h⟩

theorem over : Rows.baseNestsRow.holds Try.pinned (OpenSpec.ofChange Rows.baseNestsSpec) :=
  OpenClaim.holds_of_wide 7 Try.f7 rfl rfl rfl rfl rfl rfl rfl ⟨rfl, rfl, rfl, rfl, rfl⟩ rfl rfl rfl rfl rfl (by kernel_rfl) Try.func7 (by kernel_rfl)
    (of_decide_eq_true (by kernel_rfl)) (by unfold Func.isWrapper; first | (rw [if_pos (by decide +kernel)]; kernel_rfl) | (rw [if_neg (by decide +kernel)]; exact ⟨rfl, rfl⟩))
    (fun os started H enc _ => lifted os started H enc)

/-- the statement -/
theorem proved : Rows.BaseNestsSaid :=
  over
#print axioms proved
end Go.Proofs.Ytneiifjihgbacaa.baseNests
