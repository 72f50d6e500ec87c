/-
  For every []rune t the statement GraphemeAlone returns true: behind CR, LF and Control a boundary, but between CR and LF; between two of class Any, too; none before what attaches to a class Any. No condition.
-/
import Derived.Test.YtnpdampaimllpaaHas
import Derived.Test.YtnpdampaimllpaaAlive
set_option linter.unusedVariables false
namespace Go.Proofs.Ytnpdampaimllpaa.graphemeAlone
open Go.ChangeShapes Go.WideShapes Go.ChangeAt Go.RowKit Go.Proofs.Ytnpdampaimllpaa
theorem own : ownKnob Try.prog.godebug = none := by kernel_rfl
theorem laidOut : laidOutB Try.prog = true := by kernel_rfl

theorem joined_tells (x y : Int) (p q : Bool) : hangF x y p q = joinF x y p q := (join_hang x y p q).symm

set_option maxHeartbeats 4000000 in
theorem walk (A0 : Option Addr) (c0 : Nat) (z0 : List Int) (w : World) (n0 : z0.length ≤ 9223372036854775807) (m0 : z0.length ≤ c0) (w0 : ∀ z ∈ z0, (Lit.int .i32 z).wf = true) (h0 : Has w w.heap.size A0 (z0.map (Value.int .i32))) :
    Calls Try.prog 7 #[.slice A0 z0.length c0] w fun e w' => e = .returned (.bool true) ∧ Below w.heap.size w w' := by
  by_cases hl : 200 < z0.length
  · clear w0 m0 h0
    go_enter Try.func7, Try.ntmps7
    go_wp2_with (go_at_call 8; refine (alive_ok _).mono ?_; rintro e u ⟨rfl, hu⟩)
    go_ret
    exact ⟨rfl, hu⟩
  have hn : z0.length ≤ 200 := by omega
  have mixed : Try.prog.follows .mixedOrders = true := by kernel_rfl
  have HL := Lib.hid (cls_len z0)
  have HM := Lib.hid m0
  have hlb : decide (200 < (z0.length : Int)) = false := decide_eq_false (by omega)
  have hlb2 : decide (200 < z0.length) = false := decide_eq_false (by omega)
  clear w0 m0 hl
  go_enter Try.func7, Try.ntmps7
  go_wp2
  go_loopw [3] (fun v wr => ∃ k : Nat, 1 ≤ k ∧ (k ≤ z0.length ∨ k = 1) ∧ v = .int .i64 k ∧ Up w wr) (fun v _ => z0.length - (intOf v).toNat)
  case atStart => exact ⟨1, by omega, .inr rfl, rfl, Up.refl _⟩
  case round =>
    obtain ⟨k, hk1, hk, rfl, hU⟩ := hrel
    by_cases hlt : k < z0.length
    · have hh := h0.up hU
      obtain ⟨b, off, rfl, hb, hc1, hc2⟩ := hh.cells (i := k - 1) (j := k) (by omega) hlt
      have hq : isV (cls z0) k = !hangF (cl z0[k - 1]) (cl z0[k]) (pic (cls z0) (k - 1)) (regs (cls z0) k % 2 == 1) := by
        rw [isV_nat _ _ (by rw [HL.out]; omega), bP_mid _ _ (by omega) (by rw [HL.out]; exact hlt)]
        unfold hang
        rw [g_cls z0 (k - 1) (by omega), g_cls z0 k hlt]
      rw [joined_tells] at hq
      have HC := Lib.hid (fun w h => is_ok (some ⟨b, off, none⟩) c0 k z0 w (by omega) HM.out h)
      generalize pic (cls z0) (k - 1) = p at hq
      generalize (regs (cls z0) k % 2 == 1) = r at hq
      generalize isV (cls z0) k = q at hq HC
      generalize z0[k - 1] = X at hc1 hq
      generalize z0[k] = Y at hc2 hq
      unfold cl at hq
      obtain ⟨P1, hP1⟩ : ∃ P, ofP X = P := ⟨_, rfl⟩
      obtain ⟨P2, hP2⟩ : ∃ P, ofP Y = P := ⟨_, rfl⟩
      rw [hP1, hP2] at hq
      have HX1 := Lib.hid (fun w => of_x X P1 hP1 w)
      have HX2 := Lib.hid (fun w => of_x Y P2 hP2 w)
      have hf1 := fun w => field_cl P1 w
      have hf2 := fun w => field_cl P2 w
      have hl1 : ∀ n os, (Go.Sort.grow (wr.drewN n) os).cell? ⟨b, off + (k - 1), none⟩ = some (.int .i32 X) := fun n os => cell_grown hb hc1 n os
      have hl2 : ∀ n os, (Go.Sort.grow (wr.drewN n) os).cell? ⟨b, off + k, none⟩ = some (.int .i32 Y) := fun n os => cell_grown hb hc2 n os
      have HG1 : Hid (∀ n os, Calls Try.prog 25 #[.int .i32 X] (Go.Sort.grow (wr.drewN n) os) fun e w' => e = .returned (.agg #[.int .i64 P1.bidi, .int .i64 P1.cl, .int .i64 P1.br, .int .i64 P1.sc, .int .i64 P1.jn, .int .i64 P1.wd, .int .i32 P1.mi, .int .i32 P1.pa, .bool P1.op]) ∧ ∃ q os', w' = Go.Sort.grow ((Go.Sort.grow (wr.drewN n) os).drewN q) os') := Lib.hid (fun n os => (HX1.out _).mono fun _ _ ⟨he, hu⟩ => ⟨he, hu.grow⟩)
      have HG2 : Hid (∀ n os, Calls Try.prog 25 #[.int .i32 Y] (Go.Sort.grow (wr.drewN n) os) fun e w' => e = .returned (.agg #[.int .i64 P2.bidi, .int .i64 P2.cl, .int .i64 P2.br, .int .i64 P2.sc, .int .i64 P2.jn, .int .i64 P2.wd, .int .i32 P2.mi, .int .i32 P2.pa, .bool P2.op]) ∧ ∃ q os', w' = Go.Sort.grow ((Go.Sort.grow (wr.drewN n) os).drewN q) os') := Lib.hid (fun n os => (HX2.out _).mono fun _ _ ⟨he, hu⟩ => ⟨he, hu.grow⟩)
      have kw : IntKind.i64.wrap ((k : Int) - 1) = ((k - 1 : Nat) : Int) := by rw [IntWalk.i64_in _ (by omega)]; omega
      have hL1 : k - 1 < z0.length := by omega
      have hUg : ∀ n os, Up w (Go.Sort.grow (wr.drewN n) os) := fun n os => hU.trans (Up.of_grow wr n os)
      have HH := Lib.hid (fun n os => (hh.up (Up.of_grow wr n os)))
      have HQ := Lib.hid hq
      clear hP1 hP2 hq HX1 HX2 h0 hh hc1 hc2
      go_wp2
      go_quiet_grown ((go_at_call 25; first | with_reducible exact Calls.grown_of (HG1.out _ _) | with_reducible exact Calls.grown_of (HG2.out _ _)))
      clear hf1 hf2 HG1 HG2 hl1 hl2 kw hb
      generalize P1.cl = x at HQ ⊢
      generalize P2.cl = y at HQ ⊢
      have hqv := HQ.out
      clear HQ
      by_cases h1 : x = 1
      · subst h1
        by_cases y2 : y = 2
        · subst y2
          have hs : stopB 1 = true := rfl
          have e : q = false := by rw [hqv]; simp [joinF, stopB]
          subst e
          clear hqv
          go_wp2_with (first | (go_at_call 18; (with_reducible refine (HC.out _ (HH.out _ _)).mono ?_); rintro e u ⟨rfl, hu⟩; have hU2 := (hUg _ _).trans hu) | (go_at_call 26; refine (lstops_ok _ _).mono ?_; rintro e u ⟨rfl, rfl⟩; rw [hs]))
          go_roundw
          case rel => exact ⟨k + 1, by omega, .inl (by omega), by go_num, hU2⟩
          case measure => simp [intOf] <;> omega
        · have ey2 : (y == 2) = false := beq_eq_false_iff_ne.2 y2
          have hs : stopB 1 = true := rfl
          have e : q = true := by rw [hqv]; simp [joinF, stopB, ey2]
          subst e
          clear hqv
          go_wp2_with (first | (go_at_call 18; (with_reducible refine (HC.out _ (HH.out _ _)).mono ?_); rintro e u ⟨rfl, hu⟩; have hU2 := (hUg _ _).trans hu) | (go_at_call 26; refine (lstops_ok _ _).mono ?_; rintro e u ⟨rfl, rfl⟩; rw [hs]))
          go_roundw
          case rel => exact ⟨k + 1, by omega, .inl (by omega), by go_num, hU2⟩
          case measure => simp [intOf] <;> omega
      by_cases h2 : x = 2
      · subst h2
        have hs : stopB 2 = true := rfl
        have e : q = true := by rw [hqv]; simp [joinF, stopB]
        subst e
        clear hqv
        go_wp2_with (first | (go_at_call 18; (with_reducible refine (HC.out _ (HH.out _ _)).mono ?_); rintro e u ⟨rfl, hu⟩; have hU2 := (hUg _ _).trans hu) | (go_at_call 26; refine (lstops_ok _ _).mono ?_; rintro e u ⟨rfl, rfl⟩; rw [hs]))
        go_roundw
        case rel => exact ⟨k + 1, by omega, .inl (by omega), by go_num, hU2⟩
        case measure => simp [intOf] <;> omega
      by_cases h3 : x = 3
      · subst h3
        have hs : stopB 3 = true := rfl
        have e : q = true := by rw [hqv]; simp [joinF, stopB]
        subst e
        clear hqv
        go_wp2_with (first | (go_at_call 18; (with_reducible refine (HC.out _ (HH.out _ _)).mono ?_); rintro e u ⟨rfl, hu⟩; have hU2 := (hUg _ _).trans hu) | (go_at_call 26; refine (lstops_ok _ _).mono ?_; rintro e u ⟨rfl, rfl⟩; rw [hs]))
        go_roundw
        case rel => exact ⟨k + 1, by omega, .inl (by omega), by go_num, hU2⟩
        case measure => simp [intOf] <;> omega
      have ex1 : (x == 1) = false := beq_eq_false_iff_ne.2 h1
      have ex2 : (x == 2) = false := beq_eq_false_iff_ne.2 h2
      have ex3 : (x == 3) = false := beq_eq_false_iff_ne.2 h3
      have hsx : stopB x = false := by unfold stopB; rw [ex1, ex2, ex3]; rfl
      by_cases h0 : x = 0
      · subst h0
        by_cases y0 : y = 0
        · subst y0
          have hs : stopB 0 = false := rfl
          have e : q = true := by rw [hqv]; simp [joinF, stopB, attB, syll]
          subst e
          clear hqv
          go_wp2_with (first | (go_at_call 18; (with_reducible refine (HC.out _ (HH.out _ _)).mono ?_); rintro e u ⟨rfl, hu⟩; have hU2 := (hUg _ _).trans hu) | (go_at_call 26; refine (lstops_ok _ _).mono ?_; rintro e u ⟨rfl, rfl⟩; rw [hs]))
          go_roundw
          case rel => exact ⟨k + 1, by omega, .inl (by omega), by go_num, hU2⟩
          case measure => simp [intOf] <;> omega
        by_cases y4 : y = 4
        · subst y4
          have hs : stopB 0 = false := rfl
          have e : q = false := by rw [hqv]; simp [joinF, stopB, attB]
          subst e
          clear hqv
          go_wp2_with (first | (go_at_call 18; (with_reducible refine (HC.out _ (HH.out _ _)).mono ?_); rintro e u ⟨rfl, hu⟩; have hU2 := (hUg _ _).trans hu) | (go_at_call 26; refine (lstops_ok _ _).mono ?_; rintro e u ⟨rfl, rfl⟩; rw [hs]))
          go_roundw
          case rel => exact ⟨k + 1, by omega, .inl (by omega), by go_num, hU2⟩
          case measure => simp [intOf] <;> omega
        by_cases y5 : y = 5
        · subst y5
          have hs : stopB 0 = false := rfl
          have e : q = false := by rw [hqv]; simp [joinF, stopB, attB]
          subst e
          clear hqv
          go_wp2_with (first | (go_at_call 18; (with_reducible refine (HC.out _ (HH.out _ _)).mono ?_); rintro e u ⟨rfl, hu⟩; have hU2 := (hUg _ _).trans hu) | (go_at_call 26; refine (lstops_ok _ _).mono ?_; rintro e u ⟨rfl, rfl⟩; rw [hs]))
          go_roundw
          case rel => exact ⟨k + 1, by omega, .inl (by omega), by go_num, hU2⟩
          case measure => simp [intOf] <;> omega
        by_cases y8 : y = 8
        · subst y8
          have hs : stopB 0 = false := rfl
          have e : q = false := by rw [hqv]; simp [joinF, stopB, attB]
          subst e
          clear hqv
          go_wp2_with (first | (go_at_call 18; (with_reducible refine (HC.out _ (HH.out _ _)).mono ?_); rintro e u ⟨rfl, hu⟩; have hU2 := (hUg _ _).trans hu) | (go_at_call 26; refine (lstops_ok _ _).mono ?_; rintro e u ⟨rfl, rfl⟩; rw [hs]))
          go_roundw
          case rel => exact ⟨k + 1, by omega, .inl (by omega), by go_num, hU2⟩
          case measure => simp [intOf] <;> omega
        have ey0 : (y == 0) = false := beq_eq_false_iff_ne.2 y0
        have ey4 : (y == 4) = false := beq_eq_false_iff_ne.2 y4
        have ey5 : (y == 5) = false := beq_eq_false_iff_ne.2 y5
        have ey8 : (y == 8) = false := beq_eq_false_iff_ne.2 y8
        clear hqv
        have hs := hsx
        cases q with
        | true =>
          go_wp2_with (first | (go_at_call 18; (with_reducible refine (HC.out _ (HH.out _ _)).mono ?_); rintro e u ⟨rfl, hu⟩; have hU2 := (hUg _ _).trans hu) | (go_at_call 26; refine (lstops_ok _ _).mono ?_; rintro e u ⟨rfl, rfl⟩; rw [hs]))
          go_roundw
          case rel => exact ⟨k + 1, by omega, .inl (by omega), by go_num, hU2⟩
          case measure => simp [intOf] <;> omega
        | false =>
          go_wp2_with (first | (go_at_call 18; (with_reducible refine (HC.out _ (HH.out _ _)).mono ?_); rintro e u ⟨rfl, hu⟩; have hU2 := (hUg _ _).trans hu) | (go_at_call 26; refine (lstops_ok _ _).mono ?_; rintro e u ⟨rfl, rfl⟩; rw [hs]))
          go_roundw
          case rel => exact ⟨k + 1, by omega, .inl (by omega), by go_num, hU2⟩
          case measure => simp [intOf] <;> omega
      have ex0 : (x == 0) = false := beq_eq_false_iff_ne.2 h0
      clear hqv
      have hs := hsx
      go_wp2_with (first | (go_at_call 18; (with_reducible refine (HC.out _ (HH.out _ _)).mono ?_); rintro e u ⟨rfl, hu⟩; have hU2 := (hUg _ _).trans hu) | (go_at_call 26; refine (lstops_ok _ _).mono ?_; rintro e u ⟨rfl, rfl⟩; rw [hs]))
      go_roundw
      case rel => exact ⟨k + 1, by omega, .inl (by omega), by go_num, hU2⟩
      case measure => simp [intOf] <;> omega
    · go_wp2_with (go_at_call 8; refine (alive_ok _).mono ?_; rintro e u ⟨rfl, hu⟩)
      go_ret
      exact ⟨rfl, below_trans hU.1 hu hU.1.size⟩

set_option maxRecDepth 100000 in
theorem lifted (os : Os) (started : os.Started) (H : Type) (enc : TypeId × Value → H) :
    ReturnsInHanded {} Try.checked os 7 .any (Rows.graphemeAloneSpec.pre6 enc Try.prog Try.f7 Rows.graphemeAloneRow.domain false) (Rows.graphemeAloneSpec.post enc Try.prog Try.f7 false true false false) := by
  refine returnsInHanded_of_change (C := Try.checked) own started (by kernel_rfl) Try.func7
    (ChangeSpec.witness6 (enc := enc) (C := Try.checked) false ⟨#[], #[.slice none 0 0], []⟩ 8 (by kernel_rfl) (by kernel_rfl) (by kernel_rfl) (by kernel_rfl)) ?_
  intro W base args ds gs before hval0 hW hcnd _
  have hval : ∀ (j : Nat) t v, Try.f7.params[j]? = some t → args[j]? = some v → Value.okWide Try.prog W .any base t v := hval0
  have hW' := hW
  obtain ⟨p, q, hA0, hV, rfl, hfz, hnd⟩ := hW
  have hA : DataW.TrodAll enc Try.prog W 0 (fun _ => true) true Try.f7.params.toList args.toList ds p := hA0
  rw [Try.params7] at hA hval
  obtain ⟨v0, vs0, d0, ds0, p0, q0, hargs, rfl, rfl, h0, r0⟩ := trodAll_cons hA
  obtain ⟨rfl, rfl, rfl⟩ := trodAll_nil r0
  obtain rfl : args = #[v0] := by cases args; simp_all
  obtain ⟨rfl, rfl⟩ := trodVars_none hV
  clear hA0 hval0
  have hlt : ∀ x ∈ p0 ++ [], x.block < W.heap.size := fun x hx => by simpa using hW'.lt x (List.mem_append_left _ hx)
  have k0 := h0
  obtain ⟨A0, l0, c0, rfl⟩ := okWide_slice Try.underlying22 (hval 0 22 v0 rfl rfl)
  obtain ⟨z0, rfl, n0, m0, w0, hh0⟩ := has_ints Try.underlying22 Try.underlying21 (by kernel_rfl) h0 (fun x hx => hlt x (List.mem_append_left _ hx))
  refine (walk A0 c0 z0 W n0 m0 w0 hh0).mono fun e W' ⟨he, hb⟩ => ?_
  subst he
  exact ⟨_, rfl, _, _, _, [], _, [], hW', (trodAll_cons_mk (shut_bool Try.underlying4 _) trodAll_mk0), (trodAll_cons_mk (Below.trod laidOut (by kernel_rfl) (of_decide_eq_true (by kernel_rfl)) k0 hb (fun x hx => hlt x (List.mem_append_left _ hx))) trodAll_mk0), rfl, hb.frame _, fun h => by cases h⟩

theorem over : Rows.graphemeAloneRow.holds Try.pinned (OpenSpec.ofChange Rows.graphemeAloneSpec) :=
  OpenClaim.holds_of_wide 7 Try.f7 rfl rfl rfl rfl rfl rfl rfl ⟨rfl, rfl, rfl, rfl, rfl⟩ rfl rfl rfl rfl rfl (by kernel_rfl) Try.func7 (by kernel_rfl)
    (of_decide_eq_true (by kernel_rfl)) (by unfold Func.isWrapper; first | (rw [if_pos (by decide +kernel)]; kernel_rfl) | (rw [if_neg (by decide +kernel)]; exact ⟨rfl, rfl⟩))
    (fun os started H enc _ => lifted os started H enc)

/-- the statement -/
theorem proved : Rows.GraphemeAloneSaid :=
  over
#print axioms proved
end Go.Proofs.Ytnpdampaimllpaa.graphemeAlone
