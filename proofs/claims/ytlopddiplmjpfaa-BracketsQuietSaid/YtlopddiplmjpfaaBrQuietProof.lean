/-
  For every []rune t, []int l and every level and sos the statement BracketsQuiet returns true: without strong classes Resolve changes nothing. No condition.
-/
import Derived.Test.YtlopddiplmjpfaaHas
import Derived.Test.YtlopddiplmjpfaaBss
set_option linter.unusedVariables false
namespace Go.Proofs.Ytlopddiplmjpfaa.bracketsQuiet
open Go.ChangeShapes Go.WideShapes Go.ChangeAt Go.RowKit Go.Proofs.Ytlopddiplmjpfaa
theorem own : ownKnob Try.prog.godebug = none := by kernel_rfl
theorem laidOut : laidOutB Try.prog = true := by kernel_rfl

theorem tmod3 (x : Int) : x.tmod 3 = 0 ∨ ¬ x.tmod 3 = 0 := Classical.em _
theorem quiet_snoc (xs : List Int) (c : Int) (hc : strongB c = 0) (h : ∀ x ∈ xs, strongB x = 0) : ∀ x ∈ xs ++ [c], strongB x = 0 := fun x hx => by
  rcases List.mem_append.1 hx with hx | hx
  · exact h x hx
  · simp at hx; subst hx; exact hc
set_option maxRecDepth 20000 in
set_option maxHeartbeats 4000000 in
theorem walk (A0 : Option Addr) (c0 : Nat) (z0 : List Int) (A1 : Option Addr) (c1 : Nat) (z1 : List Int) (a2 : Int) (b2 : Bool) (w : World) (n0 : z0.length ≤ 9223372036854775807) (m0 : z0.length ≤ c0) (w0 : ∀ z ∈ z0, (Lit.int .i32 z).wf = true) (h0 : Has w w.heap.size A0 (z0.map (Value.int .i32))) (e0 : A0 = none → c0 = 0) (n1 : z1.length ≤ 9223372036854775807) (m1 : z1.length ≤ c1) (w1 : ∀ z ∈ z1, (Lit.int .i64 z).wf = true) (h1 : Has w w.heap.size A1 (z1.map (Value.int .i64))) (e1 : A1 = none → c1 = 0) (w2 : (Lit.int .i64 a2).wf = true) :
    Calls Try.prog 7 #[.slice A0 z0.length c0, .slice A1 z1.length c1, .agg #[.int .i64 a2, .bool b2]] w fun e w' => e = .returned (.bool true) ∧ Below w.heap.size w w' := by
  have hat0 := at_new w #[.int .i64 a2, .bool b2] 29
  have hU0 : Up w (w.alloc (.cells #[.int .i64 a2, .bool b2] 29)) := (Up.refl w).alloc _
  have k0 := hat0.cell 0 _ rfl
  have k1 := hat0.cell 1 _ rfl
  by_cases hl : 150 < z0.length ∨ 150 < z1.length
  · have hld : decide (150 < z0.length ∨ 150 < z1.length) = true := decide_eq_true hl
    have HL := Lib.hid (fun w => long_ok A0 A1 z0.length z1.length c0 c1 w)
    rw [hld] at HL
    clear w0 m0 h0 w1 h1 m1 hl hld
    go_enter Try.func7, Try.ntmps7
    go_wp2_with (first | (go_at_call 8; (with_reducible refine (HL.out _).mono ?_); rintro e u ⟨rfl, rfl⟩))
    go_ret
    exact ⟨rfl, hU0.1⟩
  have hld : decide (150 < z0.length ∨ 150 < z1.length) = false := decide_eq_false hl
  have HL := Lib.hid (fun w => long_ok A0 A1 z0.length z1.length c0 c1 w)
  rw [hld] at HL
  have hz0 : z0.length ≤ 150 := by omega
  have hz1 : z1.length ≤ 150 := by omega
  have H13 : Hid (∀ (A : Option Addr) (n c : Nat) (xs : List Int) (w : World), n = xs.length → (∀ x ∈ xs, strongB x = 0) → Has w w.heap.size A0 (z0.map (Value.int .i32)) → Has w w.heap.size A (xs.map (Value.int .i64)) → n = z0.length →
      Calls Try.prog 13 #[.slice A0 z0.length c0, .slice A n c, .int .i64 a2, .int .i64 (sideB b2)] w fun e w' => ∃ AX cX, e = .returned (.slice AX n cX) ∧ Has w' w'.heap.size AX (xs.map (Value.int .i64)) ∧ Below w.heap.size w w') := Lib.hid (fun A n c xs w hn hq h h' hnz => by
    refine (resolve_ok A0 A c0 c z0.length n a2 (sideB b2) z0 xs w rfl hn (by omega) (sideB_or b2) h h').mono fun e w' ⟨l, _, hs⟩ => ?_
    rw [if_pos hnz.symm, resL_quiet z0 (ownB a2) (sideB b2) xs (ownB_or a2) hq l] at hs
    obtain ⟨v, hv, AX, cX, hvv, _, hhx, hbx⟩ := hs
    exact ⟨AX, cX, by rw [hv, hvv, hn], hhx, hbx⟩)
  have HS := Lib.hid (fun w => side_ok b2 w)
  have HG0 := Lib.hid (fun u (hu : Below (w.alloc (.cells #[.int .i64 a2, .bool b2] 29)).heap.size (w.alloc (.cells #[.int .i64 a2, .bool b2] 29)) u) => (⟨(h0.carry hU0.1).carry hu, (h1.carry hU0.1).carry hu, (hu.cell (p := ⟨w.heap.size, 0, none⟩) hat0.lt).trans k0, (hu.cell (p := ⟨w.heap.size, 1, none⟩) hat0.lt).trans k1, Nat.lt_of_lt_of_le hat0.lt hu.size⟩ : _ ∧ _ ∧ _ ∧ _ ∧ _))
  have hb0 := hU0.1
  generalize sideB b2 = sd at *
  clear w0 m0 w1 m1 hl hld n0 n1 h0 h1 hat0 k0 k1
  go_enter Try.func7, Try.ntmps7
  go_wp2_with (first
    | (go_at_call 8; (with_reducible refine (HL.out _).mono ?_); rintro e u0 ⟨rfl, rfl⟩))
  obtain ⟨W0, hW0⟩ : ∃ W0, w.alloc (.cells #[.int .i64 a2, .bool b2] 29) = W0 := ⟨_, rfl⟩
  rw [hW0] at HG0 hb0 hU0
  try rw [hW0]
  clear hW0 HL
  go_loopw [7, 8] (fun v7 v8 wr => ∃ (k : Nat) (xs : List Int), v8 = .int .i64 k ∧ k ≤ z0.length ∧ Hid (xs.length = k ∧ (∀ x ∈ xs, strongB x = 0) ∧ Mine .i64 3 wr W0.heap.size v7 xs ∧ Below W0.heap.size W0 wr)) (fun _ v8 _ => z0.length - (intOf v8).toNat)
  case atStart => exact ⟨0, [], rfl, Nat.zero_le _, Lib.hid ⟨rfl, by simp, Mine.nil_ _ _ _ _, Below.refl _ _⟩⟩
  case round =>
    obtain ⟨k, xs, rfl, hk, HX⟩ := hrel
    by_cases hlt : k < z0.length
    · have hown := HX.out.2.2.1
      have hbl := HX.out.2.2.2
      have hB := hbl.size
      have hxl : xs.length ≤ 1000000000 := by have := HX.out.1; omega
      have HX2 := Lib.hid (fun c (hc : strongB c = 0) => (⟨by rw [List.length_append, HX.out.1]; rfl, quiet_snoc xs c hc HX.out.2.1⟩ : (xs ++ [c]).length = k + 1 ∧ _))
      clear HX
      by_cases h1 : k < z1.length
      · have hd1 : decide ((k : Int) < z1.length) = true := decide_eq_true (by omega)
        obtain ⟨bb, off, hA, hbb, hcc⟩ := (HG0.out _ hbl).2.1.at_int h1
        subst hA
        generalize z1[k] = X at hcc
        rcases tmod3 X with h3 | h3
        · go_wp2_with (first
            | (at_builtin; refine wpList_push (k := .i64) (bytes := 8) rfl _ _ 23 rfl Try.underlying23 fullI (by decide) W0.heap.size _ xs 13 W0 wr hown rfl rfl hbl hB hxl ?_; intro v' w5 hm5 hb5))
          go_roundw
          case rel => exact ⟨k + 1, xs ++ [13], by go_num, by omega, Lib.hid ⟨(HX2.out 13 rfl).1, (HX2.out 13 rfl).2, hm5, hb5⟩⟩
          case measure => simp [intOf] <;> omega
        · go_wp2_with (first
            | (at_builtin; refine wpList_push (k := .i64) (bytes := 8) rfl _ _ 23 rfl Try.underlying23 fullI (by decide) W0.heap.size _ xs 14 W0 wr hown rfl rfl hbl hB hxl ?_; intro v' w5 hm5 hb5))
          go_roundw
          case rel => exact ⟨k + 1, xs ++ [14], by go_num, by omega, Lib.hid ⟨(HX2.out 14 rfl).1, (HX2.out 14 rfl).2, hm5, hb5⟩⟩
          case measure => simp [intOf] <;> omega
      · have hd1 : decide ((k : Int) < z1.length) = false := decide_eq_false (by omega)
        go_wp2_with (first
          | (at_builtin; refine wpList_push (k := .i64) (bytes := 8) rfl _ _ 23 rfl Try.underlying23 fullI (by decide) W0.heap.size _ xs 14 W0 wr hown rfl rfl hbl hB hxl ?_; intro v' w5 hm5 hb5))
        go_roundw
        case rel => exact ⟨k + 1, xs ++ [14], by go_num, by omega, Lib.hid ⟨(HX2.out 14 rfl).1, (HX2.out 14 rfl).2, hm5, hb5⟩⟩
        case measure => simp [intOf] <;> omega
    · obtain rfl : k = z0.length := by omega
      obtain ⟨hxl, hq, hown, hbl⟩ := HX.out
      obtain ⟨AC, cC, hv, hhC⟩ := hown.reads
      subst hv
      rw [hxl]
      have HQ := Lib.hid hq
      have HXL := Lib.hid hxl
      obtain ⟨g0, g1, k0, k1, hlt2⟩ := HG0.out _ hbl
      have hbd : Below wr.heap.size wr wr.drew := (Below.refl _ _).drew
      have HH := Lib.hid (fun u (hu : Below wr.heap.size wr u) => (⟨g0.carry hu, hhC.carry hu⟩ : _ ∧ _))
      clear HX hq hxl hown g0 g1 hhC hlt
      go_wp2
      go_region_held3 (fun w' => w'.cell? ⟨w.heap.size, 0, none⟩ = some (.int .i64 a2) ∧ w'.cell? ⟨w.heap.size, 1, none⟩ = some (.bool b2))
        (first
          | go_keep
          | exact ⟨(hbY.cell (p := ⟨w.heap.size, 0, none⟩) hlt2).trans k0, (hbY.cell (p := ⟨w.heap.size, 1, none⟩) hlt2).trans k1⟩
          | exact ⟨(hbX.cell (p := ⟨w.heap.size, 0, none⟩) hlt2).trans k0, (hbX.cell (p := ⟨w.heap.size, 1, none⟩) hlt2).trans k1⟩)
        (first
          | (go_at_call 14; refine (HS.out _).mono ?_; rintro e wS ⟨rfl, rfl⟩)
          | (go_at_call 13; refine (H13.out AC _ cC xs _ HXL.out.symm HQ.out (HH.out _ hbd).1 (HH.out _ hbd).2 rfl).mono ?_; rintro e wX ⟨AX, cX, rfl, hsX, hbX0⟩; have hbX := below_trans hbd hbX0 hbd.size)
          | (go_at_call 12; refine (eqs_ok AX AC cX cC z0.length xs _ HXL.out.symm (by omega) hsX (HH.out _ hbX).2).mono ?_; rintro e wY ⟨rfl, hbY0⟩; have hbY := below_trans hbX hbY0 hbX.size))
      go_wp2
      go_ret
      exact ⟨rfl, hb0.trans ((hbl.trans (hbY.mono hbl.size)).mono hb0.size)⟩

set_option maxRecDepth 100000 in
theorem lifted (os : Os) (started : os.Started) (H : Type) (enc : TypeId × Value → H) :
    ReturnsInHanded {} Try.checked os 7 .any (Rows.bracketsQuietSpec.pre6 enc Try.prog Try.f7 Rows.bracketsQuietRow.domain false) (Rows.bracketsQuietSpec.post enc Try.prog Try.f7 false true false false) := by
  refine returnsInHanded_of_change (C := Try.checked) own started (by kernel_rfl) Try.func7
    (ChangeSpec.witness6 (enc := enc) (C := Try.checked) false ⟨#[], #[.slice none 0 0, .slice none 0 0, .agg #[.int .i64 0, .bool false]], []⟩ 8 (by kernel_rfl) (by kernel_rfl) (by kernel_rfl) (by kernel_rfl)) ?_
  intro W base args ds gs before hval0 hW hcnd _
  have hval : ∀ (j : Nat) t v, Try.f7.params[j]? = some t → args[j]? = some v → Value.okWide Try.prog W .any base t v := hval0
  have hW' := hW
  obtain ⟨p, q, hA0, hV, rfl, hfz, hnd⟩ := hW
  have hA : DataW.TrodAll enc Try.prog W 0 (fun _ => true) true Try.f7.params.toList args.toList ds p := hA0
  rw [Try.params7] at hA hval
  obtain ⟨v0, vs0, d0, ds0, p0, q0, hargs, rfl, rfl, h0, r0⟩ := trodAll_cons hA
  obtain ⟨v1, vs1, d1, ds1, p1, q1, rfl, rfl, rfl, h1, r1⟩ := trodAll_cons r0
  obtain ⟨v2, vs2, d2, ds2, p2, q2, rfl, rfl, rfl, h2, r2⟩ := trodAll_cons r1
  obtain ⟨rfl, rfl, rfl⟩ := trodAll_nil r2
  obtain rfl : args = #[v0, v1, v2] := by cases args; simp_all
  obtain ⟨rfl, rfl⟩ := trodVars_none hV
  clear hA0 hval0
  have hlt : ∀ x ∈ p0 ++ (p1 ++ (p2 ++ [])), x.block < W.heap.size := fun x hx => by simpa using hW'.lt x (List.mem_append_left _ hx)
  have k0 := h0
  have k1 := h1
  have k2 := h2
  obtain ⟨A0, l0, c0, rfl⟩ := okWide_slice Try.underlying22 (hval 0 22 v0 rfl rfl)
  obtain ⟨z0, rfl, n0, m0, w0, hh0⟩ := has_ints Try.underlying22 Try.underlying21 (by kernel_rfl) h0 (fun x hx => hlt x (List.mem_append_left _ hx))
  have e0 := none_cap Try.underlying22 Try.underlying21 (by kernel_rfl) k0
  obtain ⟨A1, l1, c1, rfl⟩ := okWide_slice Try.underlying23 (hval 1 23 v1 rfl rfl)
  obtain ⟨z1, rfl, n1, m1, w1, hh1⟩ := has_ints Try.underlying23 Try.underlying3 (by kernel_rfl) h1 (fun x hx => hlt x (List.mem_append_right _ (List.mem_append_left _ hx)))
  have e1 := none_cap Try.underlying23 Try.underlying3 (by kernel_rfl) k1
  obtain ⟨a2, b2, hv2, w2⟩ := seen_struct Try.underlying29 (by kernel_rfl) (by kernel_rfl) (by rfl) (by rfl) (by rfl) Try.underlying3 Try.underlying4 (hval 2 29 v2 rfl rfl) h2
  subst hv2
  refine (walk A0 c0 z0 A1 c1 z1 a2 b2 W n0 m0 w0 hh0 e0 n1 m1 w1 hh1 e1 w2).mono fun e W' ⟨he, hb⟩ => ?_
  subst he
  exact ⟨_, rfl, _, _, _, [], _, [], hW', (trodAll_cons_mk (shut_bool Try.underlying4 _) trodAll_mk0), (trodAll_cons_mk (Below.trod laidOut (by kernel_rfl) (of_decide_eq_true (by kernel_rfl)) k0 hb (fun x hx => hlt x (List.mem_append_left _ hx))) (trodAll_cons_mk (Below.trod laidOut (by kernel_rfl) (of_decide_eq_true (by kernel_rfl)) k1 hb (fun x hx => hlt x (List.mem_append_right _ (List.mem_append_left _ hx)))) (trodAll_cons_mk (Below.trod laidOut (by kernel_rfl) (of_decide_eq_true (by kernel_rfl)) k2 hb (fun x hx => hlt x (List.mem_append_right _ (List.mem_append_right _ (List.mem_append_left _ hx))))) trodAll_mk0))), rfl, hb.frame _, fun h => by cases h⟩

theorem over : Rows.bracketsQuietRow.holds Try.pinned (OpenSpec.ofChange Rows.bracketsQuietSpec) :=
  OpenClaim.holds_of_wide 7 Try.f7 rfl rfl rfl rfl rfl rfl rfl ⟨rfl, rfl, rfl, rfl, rfl⟩ rfl rfl rfl rfl rfl (by kernel_rfl) Try.func7 (by kernel_rfl)
    (of_decide_eq_true (by kernel_rfl)) (by unfold Func.isWrapper; first | (rw [if_pos (by decide +kernel)]; kernel_rfl) | (rw [if_neg (by decide +kernel)]; exact ⟨rfl, rfl⟩))
    (fun os started H enc _ => lifted os started H enc)

/-- the statement -/
theorem proved : Rows.BracketsQuietSaid :=
  over
#print axioms proved
end Go.Proofs.Ytlopddiplmjpfaa.bracketsQuiet
