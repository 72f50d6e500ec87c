/-
  For every []int and every int the statement WeakLeft returns true: behind all rules no weak class is left but EN and AN, there are as many classes as ahead, and what the rules don't speak of stays. No condition.
-/
import Derived.Test.YtlgdogebnopjfaaHas
import Derived.Test.YtlgdogebnopjfaaWkl
set_option linter.unusedVariables false
namespace Go.Proofs.Ytlgdogebnopjfaa.weakLeft
open Go.ChangeShapes Go.WideShapes Go.ChangeAt Go.RowKit Go.Proofs.Ytlgdogebnopjfaa
theorem own : ownKnob Try.prog.godebug = none := by kernel_rfl
theorem laidOut : laidOutB Try.prog = true := by kernel_rfl

set_option maxHeartbeats 4000000 in
theorem walk (A0 : Option Addr) (c0 : Nat) (z0 : List Int) (a1 : Int) (w : World) (n0 : z0.length ≤ 9223372036854775807) (m0 : z0.length ≤ c0) (w0 : ∀ z ∈ z0, (Lit.int .i64 z).wf = true) (h0 : Has w w.heap.size A0 (z0.map (Value.int .i64))) (w1 : (Lit.int .i64 a1).wf = true) :
    Calls Try.prog 4 #[.slice A0 z0.length c0, .int .i64 a1] w fun e w' => e = .returned (.bool true) ∧ Below w.heap.size w w' := by
  have HAL := Lib.hid (fun w => alive_ok w)
  by_cases hl : 300 < z0.length
  · have d0 : decide ((300 : Int) < (z0.length : Int)) = true := decide_eq_true (by omega)
    clear w0 m0 h0 w1
    go_enter Try.func4, Try.ntmps4
    go_wp2_with (go_at_call 8; (with_reducible refine (HAL.out _).mono ?_); rintro e u ⟨rfl, hb⟩)
    go_ret
    exact ⟨rfl, hb⟩
  have d0 : decide ((300 : Int) < (z0.length : Int)) = false := decide_eq_false (by omega)
  have HW := Lib.hid (weak_ok A0 z0.length c0 a1 z0 w rfl (by omega) h0)
  have HL := Lib.hid (weak_len a1 z0)
  have HF := Lib.hid (weak_left a1 z0)
  have HT := Lib.hid (weak_stay a1 z0)
  have H0 := Lib.hid h0
  have HY := Lib.hid (fun c w => stays_ok c w)
  obtain ⟨R, hR⟩ : ∃ R, weakW a1 z0 = R := ⟨_, rfl⟩
  rw [hR] at HW HL HF HT
  obtain ⟨n, hn⟩ : ∃ n, z0.length = n := ⟨_, rfl⟩
  rw [hn] at d0 HW HL m0 n0 hl
  have HN := Lib.hid hn
  rw [hn]
  clear w0 w1 hR h0 hn
  go_enter Try.func4, Try.ntmps4
  go_wp2_with (first
    | (go_at_call 9; (with_reducible refine HW.out.mono ?_); rintro e u1 ⟨v, rfl, hm, hb1⟩; obtain ⟨A5, c5, rfl, hc5, _, hh5⟩ := hm.size; rw [HL.out] at hc5 hm ⊢; have H5 := Lib.hid hh5; have HB1 := Lib.hid hb1; clear hm hh5 hb1))
  go_loopw [6, 7, 22] (fun _ _ i wr => ∃ k : Nat, k ≤ n ∧ i = .int .i64 k ∧ u1 = wr) (fun _ _ i _ => n - (intOf i).toNat)
  case atStart => exact ⟨0, by omega, rfl, rfl⟩
  case round =>
    obtain ⟨k, hk, rfl, rfl⟩ := hrel
    by_cases hlt : k < n
    · have hlt2 : k < z0.length := by rw [HN.out]; exact hlt
      have hlt3 : k < R.length := by rw [HL.out]; exact hlt
      obtain ⟨b, off, rfl, hb, hc⟩ := (H0.out.carry HB1.out).at_int hlt2
      obtain ⟨b5, o5, rfl, hb5, hc5'⟩ := H5.out.at_int hlt3
      have hl5 := HF.out _ (List.getElem_mem hlt3)
      have hst := HT.out.at_ k z0[k] R[k] (List.getElem?_eq_getElem hlt2) (List.getElem?_eq_getElem hlt3)
      have HC := Lib.hid (HY.out z0[k])
      generalize z0[k] = x at hc hst HC
      generalize R[k] = y at hc5' hst hl5
      obtain ⟨h9, h3, h5, h6, h8⟩ := hl5
      have e9 : (y == 9) = false := by simpa using h9
      have e3 : (y == 3) = false := by simpa using h3
      have e5 : (y == 5) = false := by simpa using h5
      have e6 : (y == 6) = false := by simpa using h6
      have e8 : (y == 8) = false := by simpa using h8
      clear h9 h3 h5 h6 h8 hlt2 hlt3
      cases hs : stayW x with
      | true =>
        have hyx := hst hs
        rw [hs] at HC
        subst hyx
        clear hst hs
        go_wp2_with (first | (go_at_call 10; (with_reducible refine (HC.out _).mono ?_); rintro e u ⟨rfl, rfl⟩))
        go_roundw
        case rel => exact ⟨k + 1, by omega, by go_num, trivial⟩
        case measure => simp [intOf] <;> omega
      | false =>
        rw [hs] at HC
        clear hst hs
        go_wp2_with (first | (go_at_call 10; (with_reducible refine (HC.out _).mono ?_); rintro e u ⟨rfl, rfl⟩))
        go_roundw
        case rel => exact ⟨k + 1, by omega, by go_num, trivial⟩
        case measure => simp [intOf] <;> omega
    · obtain rfl : k = n := by omega
      go_wp2_with (go_at_call 8; (with_reducible refine (HAL.out _).mono ?_); rintro e u2 ⟨rfl, hb2⟩)
      go_ret
      exact ⟨rfl, below_trans HB1.out hb2 HB1.out.size⟩

set_option maxRecDepth 100000 in
theorem lifted (os : Os) (started : os.Started) (H : Type) (enc : TypeId × Value → H) :
    ReturnsInHanded {} Try.checked os 4 .any (Rows.weakLeftSpec.pre6 enc Try.prog Try.f4 Rows.weakLeftRow.domain false) (Rows.weakLeftSpec.post enc Try.prog Try.f4 false true false false) := by
  refine returnsInHanded_of_change (C := Try.checked) own started (by kernel_rfl) Try.func4
    (ChangeSpec.witness6 (enc := enc) (C := Try.checked) false ⟨#[], #[.slice none 0 0, .int .i64 0], []⟩ 8 (by kernel_rfl) (by kernel_rfl) (by kernel_rfl) (by kernel_rfl)) ?_
  intro W base args ds gs before hval0 hW hcnd _
  have hval : ∀ (j : Nat) t v, Try.f4.params[j]? = some t → args[j]? = some v → Value.okWide Try.prog W .any base t v := hval0
  have hW' := hW
  obtain ⟨p, q, hA0, hV, rfl, hfz, hnd⟩ := hW
  have hA : DataW.TrodAll enc Try.prog W 0 (fun _ => true) true Try.f4.params.toList args.toList ds p := hA0
  rw [Try.params4] at hA hval
  obtain ⟨v0, vs0, d0, ds0, p0, q0, hargs, rfl, rfl, h0, r0⟩ := trodAll_cons hA
  obtain ⟨v1, vs1, d1, ds1, p1, q1, rfl, rfl, rfl, h1, r1⟩ := trodAll_cons r0
  obtain ⟨rfl, rfl, rfl⟩ := trodAll_nil r1
  obtain rfl : args = #[v0, v1] := by cases args; simp_all
  obtain ⟨rfl, rfl⟩ := trodVars_none hV
  clear hA0 hval0
  have hlt : ∀ x ∈ p0 ++ (p1 ++ []), x.block < W.heap.size := fun x hx => by simpa using hW'.lt x (List.mem_append_left _ hx)
  have k0 := h0
  have k1 := h1
  obtain ⟨A0, l0, c0, rfl⟩ := okWide_slice Try.underlying25 (hval 0 25 v0 rfl rfl)
  obtain ⟨z0, rfl, n0, m0, w0, hh0⟩ := has_ints Try.underlying25 Try.underlying3 (by kernel_rfl) h0 (fun x hx => hlt x (List.mem_append_left _ hx))
  obtain ⟨a1, rfl, rfl, rfl, w1⟩ := open_int Try.underlying3 (hval 1 3 v1 rfl rfl) h1
  refine (walk A0 c0 z0 a1 W n0 m0 w0 hh0 w1).mono fun e W' ⟨he, hb⟩ => ?_
  subst he
  exact ⟨_, rfl, _, _, _, [], _, [], hW', (trodAll_cons_mk (shut_bool Try.underlying4 _) trodAll_mk0), (trodAll_cons_mk (Below.trod laidOut (by kernel_rfl) (of_decide_eq_true (by kernel_rfl)) k0 hb (fun x hx => hlt x (List.mem_append_left _ hx))) (trodAll_cons_mk (Below.trod laidOut (by kernel_rfl) (of_decide_eq_true (by kernel_rfl)) k1 hb (fun x hx => hlt x (List.mem_append_right _ (List.mem_append_left _ hx)))) trodAll_mk0)), rfl, hb.frame _, fun h => by cases h⟩

theorem over : Rows.weakLeftRow.holds Try.pinned (OpenSpec.ofChange Rows.weakLeftSpec) :=
  OpenClaim.holds_of_wide 4 Try.f4 rfl rfl rfl rfl rfl rfl rfl ⟨rfl, rfl, rfl, rfl, rfl⟩ rfl rfl rfl rfl rfl (by kernel_rfl) Try.func4 (by kernel_rfl)
    (of_decide_eq_true (by kernel_rfl)) (by unfold Func.isWrapper; first | (rw [if_pos (by decide +kernel)]; kernel_rfl) | (rw [if_neg (by decide +kernel)]; exact ⟨rfl, rfl⟩))
    (fun os started H enc _ => lifted os started H enc)

/-- the statement -/
theorem proved : Rows.WeakLeftSaid :=
  over
#print axioms proved
end Go.Proofs.Ytlgdogebnopjfaa.weakLeft
