/-
  For every []int classes, uint at and []int more the statement BaseHides returns true: other signs between an initiator and its PDI do not change which sign counts first. No condition.
-/
import Derived.Test.YtneiifjihgbacaaHas
import Derived.Test.YtneiifjihgbacaaHas
import Derived.Test.YtneiifjihgbacaaAlb
import Derived.Test.YtneiifjihgbacaaBhd
set_option linter.unusedVariables false
namespace Go.Proofs.Ytneiifjihgbacaa.baseHides
open Go.ChangeShapes Go.WideShapes Go.ChangeAt Go.RowKit Go.Proofs.Ytneiifjihgbacaa
theorem own : ownKnob Try.prog.godebug = none := by kernel_rfl
theorem laidOut : laidOutB Try.prog = true := by kernel_rfl

set_option maxRecDepth 20000 in
set_option maxHeartbeats 8000000 in
theorem walk (A0 : Option Addr) (c0 : Nat) (z0 : List Int) (a1 : Int) (A2 : Option Addr) (c2 : Nat) (z2 : List Int) (w : World) (n0 : z0.length ≤ 9223372036854775807) (m0 : z0.length ≤ c0) (w0 : ∀ z ∈ z0, (Lit.int .i64 z).wf = true) (h0 : Has w w.heap.size A0 (z0.map (Value.int .i64))) (e0 : A0 = none → c0 = 0) (w1 : (Lit.int .u64 a1).wf = true) (n2 : z2.length ≤ 9223372036854775807) (m2 : z2.length ≤ c2) (w2 : ∀ z ∈ z2, (Lit.int .i64 z).wf = true) (h2 : Has w w.heap.size A2 (z2.map (Value.int .i64))) (e2 : A2 = none → c2 = 0) (hz : z0.length ≤ 17592186044416) :
    Calls Try.prog 8 #[.slice A0 z0.length c0, .int .u64 a1, .slice A2 z2.length c2] w fun e w' => e = .returned (.bool true) ∧ Below w.heap.size w w' := by
  have HAL := Lib.hid (fun w => alive_ok w)
  have H13 := Lib.hid (fun w h => rmatch_big A0 z0.length c0 z0 w rfl hz h)
  have HMS := Lib.hid (fun i h => mat_some z0 i h)
  have HFS := Lib.hid (fun i k h1 h2 h3 => hide_fst z0 z2 i k h1 h2 h3)
  have hpl : (matL z0).length = z0.length := mat_len z0
  have HML := Lib.hid (show matL z0 = matL z0 from rfl)
  generalize hl : matL z0 = l at *
  have HPL := Lib.hid hpl
  have hbig : 200 < z0.length ∨ z0.length ≤ 200 ∧ 50 < z2.length ∨ z0.length ≤ 200 ∧ z2.length ≤ 50 ∧ z0.length = 0 ∨ z0.length ≤ 200 ∧ z2.length ≤ 50 ∧ 0 < z0.length := by omega
  have hll : l.length ≤ 17592186044416 := by omega
  rcases hbig with hb | ⟨hb1, hb2⟩ | ⟨hb1, hb2, hb3⟩ | ⟨hb1, hb2, hb3⟩
  · have d1 : decide (200 < (z0.length : Int)) = true := decide_eq_true (by omega)
    clear w0 m0 n0 w1 w2 m2 n2 h2 e0 e2
    go_enter Try.func8, Try.ntmps8
    go_wp2_with (first
      | (go_at_call 13; (with_reducible refine (H13.out _ h0).mono ?_); rintro e u1 ⟨v1, rfl, hM1, hu1⟩; obtain ⟨A1, c1, rfl, hc1l, _, hc1⟩ := hM1.size)
      | (go_at_call 9; (with_reducible refine (HAL.out _).mono ?_); rintro e u2 ⟨rfl, hu2⟩))
    go_ret
    exact ⟨rfl, below_trans hu1 hu2 hu1.size⟩
  · have d1 : decide (200 < (z0.length : Int)) = false := decide_eq_false (by omega)
    have d2 : decide (50 < (z2.length : Int)) = true := decide_eq_true (by omega)
    clear w0 m0 n0 w1 w2 m2 n2 h2 e0 e2
    go_enter Try.func8, Try.ntmps8
    go_wp2_with (first
      | (go_at_call 13; (with_reducible refine (H13.out _ h0).mono ?_); rintro e u1 ⟨v1, rfl, hM1, hu1⟩; obtain ⟨A1, c1, rfl, hc1l, _, hc1⟩ := hM1.size)
      | (go_at_call 9; (with_reducible refine (HAL.out _).mono ?_); rintro e u2 ⟨rfl, hu2⟩))
    go_ret
    exact ⟨rfl, below_trans hu1 hu2 hu1.size⟩
  · have d1 : decide (200 < (z0.length : Int)) = false := decide_eq_false (by omega)
    have d2 : decide (50 < (z2.length : Int)) = false := decide_eq_false (by omega)
    have d3 : ((z0.length : Int) == 0) = true := by rw [hb3]; rfl
    clear hb3
    clear w0 m0 n0 w1 w2 m2 n2 h2 e0 e2
    go_enter Try.func8, Try.ntmps8
    go_wp2_with (first
      | (go_at_call 13; (with_reducible refine (H13.out _ h0).mono ?_); rintro e u1 ⟨v1, rfl, hM1, hu1⟩; obtain ⟨A1, c1, rfl, hc1l, _, hc1⟩ := hM1.size)
      | (go_at_call 9; (with_reducible refine (HAL.out _).mono ?_); rintro e u2 ⟨rfl, hu2⟩))
    go_ret
    exact ⟨rfl, below_trans hu1 hu2 hu1.size⟩
  · have d1 : decide (200 < (z0.length : Int)) = false := decide_eq_false (by omega)
    have d2 : decide (50 < (z2.length : Int)) = false := decide_eq_false (by omega)
    have d3 : ((z0.length : Int) == 0) = false := beq_eq_false_iff_ne.2 (by omega)
    obtain ⟨U, rfl⟩ : ∃ U : Nat, a1 = (U : Int) := ⟨a1.toNat, by simp only [Lit.wf, Bool.and_eq_true, decide_eq_true_eq] at w1; have h1 : IntKind.u64.min = 0 := rfl; omega⟩
    obtain ⟨I, hI⟩ : ∃ I, U % z0.length = I := ⟨_, rfl⟩
    have hIn : I < z0.length := by rw [← hI]; exact Nat.mod_lt _ hb3
    have hw : wrap64 ((U : Int) % (z0.length : Int)) = (I : Int) := by
      have e1 : (U : Int) % (z0.length : Int) = (I : Int) := by rw [← hI]; simp
      rw [e1]
      unfold wrap64
      omega
    have HZ0 := Lib.hid (fun W (hb : Below w.heap.size w W) => h0.carry hb)
    have HZ2 := Lib.hid (fun W (hb : Below w.heap.size w W) => h2.carry hb)
    have hmI := HMS.out I hIn
    have hIl : I < l.length := by omega
    rcases hmI with hmI | ⟨K, hmI, hKn⟩
    · rw [getDH hIl] at hmI
      have d4 : decide ((-1 : Int) ≤ (I : Int)) = true := decide_eq_true (by omega)
      clear w0 m0 n0 w1 w2 m2 n2 h2 e0 e2 hI
      go_enter Try.func8, Try.ntmps8
      go_wp2_with (first
        | (go_at_call 13; (with_reducible refine (H13.out _ h0).mono ?_); rintro e u1 ⟨v1, rfl, hM1, hu1⟩; obtain ⟨A1, c1, rfl, hc1l, _, hc1⟩ := hM1.size; obtain ⟨b1, o1, rfl, _, hcI⟩ := hc1.at_int hIl; rw [hmI] at hcI)
        | (go_at_call 9; (with_reducible refine (HAL.out _).mono ?_); rintro e u2 ⟨rfl, hu2⟩))
      go_ret
      exact ⟨rfl, below_trans hu1 hu2 hu1.size⟩
    rw [getDH hIl] at hmI
    by_cases hKI : K ≤ I
    · have d4 : decide ((K : Int) ≤ (I : Int)) = true := decide_eq_true (by omega)
      clear w0 m0 n0 w1 w2 m2 n2 h2 e0 e2 hI
      go_enter Try.func8, Try.ntmps8
      go_wp2_with (first
        | (go_at_call 13; (with_reducible refine (H13.out _ h0).mono ?_); rintro e u1 ⟨v1, rfl, hM1, hu1⟩; obtain ⟨A1, c1, rfl, hc1l, _, hc1⟩ := hM1.size; obtain ⟨b1, o1, rfl, _, hcI⟩ := hc1.at_int hIl; rw [hmI] at hcI)
        | (go_at_call 9; (with_reducible refine (HAL.out _).mono ?_); rintro e u2 ⟨rfl, hu2⟩))
      go_ret
      exact ⟨rfl, below_trans hu1 hu2 hu1.size⟩
    have d4 : decide ((K : Int) ≤ (I : Int)) = false := decide_eq_false (by omega)
    have HE2 := Lib.hid e2
    obtain ⟨b0, o0, rfl, _, _⟩ := h0.at_int (k := 0) hb3
    have HMA : Hid ((matL z0).getD I 0 = (K : Int)) := Lib.hid (by rw [hl, getDH hIl]; exact hmI)
    have hIK : I < K := by omega
    have hf := HFS.out I K hIn (by rw [getDH hIl]; exact hmI) hIK
    obtain ⟨P, hP⟩ : ∃ P, hideL z0 z2 I K = P := ⟨_, rfl⟩
    have hPl : P.length ≤ 1000 := by have := hide_len z0 z2 I K; rw [hP] at this; omega
    rw [hP] at hf
    have HP := Lib.hid hP
    have H14 := Lib.hid (fun w h => level_ok (some ⟨b0, o0, none⟩) z0.length c0 z0 w rfl (by omega) h)
    have H14b := Lib.hid (fun A c w h => level_ok A P.length c P w rfl hPl h)
    have H16 := Lib.hid (fun w h => first_ok (some ⟨b0, o0, none⟩) z0.length c0 z0 0 z0.length w rfl (by omega) h)
    have H16b := Lib.hid (fun A c w h => first_ok A P.length c P 0 P.length w rfl hPl h)
    rw [firstV_full _ _ rfl] at H16 H16b
    unfold lvlV at H14 H14b
    rw [hf] at H14b H16b
    generalize lvl0 (fst0 0 z0) = p at *
    generalize strC (fst0 0 z0) = q at *
    generalize fst0 0 z0 = r at *
    have c1 : ((I : Int) + 1).toNat = I + 1 := by omega
    clear w0 n0 w1 w2 m2 n2 h2 e0 e2 hI hP hf HMS HFS
    go_enter Try.func8, Try.ntmps8
    go_wp2_with (first
      | (go_at_call 13; (with_reducible refine (H13.out _ h0).mono ?_); rintro e u1 ⟨v1, rfl, hM1, hu1⟩; obtain ⟨A1, c1, rfl, hc1l, _, hc1⟩ := hM1.size; obtain ⟨b1, o1, rfl, _, hcI⟩ := hc1.at_int hIl; rw [hmI] at hcI; have hh0 := HZ0.out _ hu1; have hh1 := (hh0.carry ((Below.refl _ u1).alloc (Nat.le_refl _) (.cells #[] 3))).front (I + 1); rw [← List.map_take] at hh1; clear hM1)
      | (at_builtin; (refine wpList_pushall (k := .i64) (bytes := 8) rfl _ _ 29 rfl Try.underlying29 fullI (by decide) u1.heap.size (.slice (some ⟨u1.heap.size, 0, none⟩) 0 0) [] (z0.take (I + 1)) u1 _ (some ⟨b0, o0, none⟩) (I + 1) c0 (by rw [List.length_take]; omega) (fun e => by cases e) hh1 (mine_empty u1 _ (Nat.le_refl _)) rfl rfl ((Below.refl _ _).alloc (Nat.le_refl _) _) (by simp) (by simp) (by rw [List.length_take]; omega) ?_; intro v9 w1 hM9 hb9 _; rw [List.nil_append] at hM9)))
    have HH1 := Lib.hid (fun W (hu : Below u1.heap.size u1 W) => (⟨hh0.carry hu, hc1.carry hu⟩ : _ ∧ _))
    have HU1 := Lib.hid hu1
    clear hh0 hh1 hc1 hcI hu1 H13 h0 HZ0
    go_loopw [9, 53] (fun v9 v53 wr => ∃ j : Nat, j ≤ z2.length ∧ v53 = .int .i64 j ∧ Hid (Mine .i64 3 wr u1.heap.size v9 (z0.take (I + 1) ++ betwL (z2.take j)) ∧ Below u1.heap.size u1 wr)) (fun _ v53 _ => z2.length - (intOf v53).toNat)
    case atStart => exact ⟨0, by omega, rfl, Lib.hid ⟨by simpa [betwL] using hM9, hb9⟩⟩
    case round =>
      clear hM9 hb9
      obtain ⟨j, hj, rfl, HS⟩ := hrel
      by_cases hlt : j < z2.length
      · obtain ⟨hM, hB⟩ := HS.out
        have hz2 := HZ2.out _ (below_trans HU1.out hB HU1.out.size)
        obtain ⟨b2, o2, rfl, _, hcj⟩ := hz2.at_int hlt
        have HX := Lib.hid (betw_snoc z2 j _ (List.getElem?_eq_getElem hlt))
        have HLN : Hid ((z0.take (I + 1) ++ betwL (z2.take j)).length ≤ 1000) := Lib.hid (by
          have := betw_len (z2.take j)
          simp only [List.length_append, List.length_take] at this ⊢
          omega)
        generalize z2[j] = X at *
        have hX : (betw X = false ∧ (X = 11 ∨ X = 20 ∨ X = 21 ∨ X = 22 ∨ X = 23)) ∨ (betw X = true ∧ (X != 11) = true ∧ (X != 20) = true ∧ (X != 21) = true ∧ (X != 22) = true ∧ (X != 23) = true) := by
          cases hq : betw X with
          | true =>
            refine .inr ⟨rfl, ?_⟩
            unfold betw at hq
            simpa only [Bool.and_eq_true] using hq
          | false =>
            refine .inl ⟨rfl, ?_⟩
            unfold betw at hq
            simp only [Bool.and_eq_false_iff, bne_eq_false_iff_eq] at hq
            exact hq
        clear hz2
        rcases hX with ⟨hX, hX5⟩ | ⟨hX, x1, x2, x3, x4, x5⟩
        · have HN : Hid (z0.take (I + 1) ++ betwL (z2.take (j + 1)) = z0.take (I + 1) ++ betwL (z2.take j)) := Lib.hid (by rw [HX.out, if_neg (by rw [hX]; decide), List.append_nil])
          clear hX HX hM hB
          rcases hX5 with rfl | rfl | rfl | rfl | rfl
          all_goals
            go_wp2
            go_roundw
            case rel => exact ⟨j + 1, by omega, by go_num, Lib.hid (by rw [HN.out]; exact HS.out)⟩
            case measure => simp [intOf] <;> omega
        · have HN : Hid (z0.take (I + 1) ++ betwL (z2.take (j + 1)) = (z0.take (I + 1) ++ betwL (z2.take j)) ++ [X]) := Lib.hid (by rw [HX.out, if_pos hX, List.append_assoc])
          clear hX HX
          go_wp2_with (at_builtin; (refine wpList_push (k := .i64) (bytes := 8) rfl _ _ 29 rfl Try.underlying29 fullI (by decide) u1.heap.size _ (z0.take (I + 1) ++ betwL (z2.take j)) X u1 _ hM rfl rfl hB hB.size (by have := HLN.out; omega) ?_; intro v' w' hM' hb'))
          go_roundw
          case rel => exact ⟨j + 1, by omega, by go_num, Lib.hid ⟨by rw [HN.out]; exact hM', hb'⟩⟩
          case measure => simp [intOf] <;> omega
      · obtain rfl : j = z2.length := by omega
        obtain ⟨hM, hB⟩ := HS.out
        rw [List.take_of_length_le (Nat.le_refl _)] at hM
        obtain ⟨hh0, hc1⟩ := HH1.out _ hB
        obtain ⟨b', o', hA, _, hcI⟩ := hc1.at_int hIl
        injection hA with hA
        injection hA with x1 x2
        subst x1; subst x2
        rw [hmI] at hcI
        have HLN : Hid ((z0.take (I + 1) ++ betwL z2).length ≤ 1000) := Lib.hid (by
          have := betw_len z2
          simp only [List.length_append, List.length_take] at this ⊢
          omega)
        clear hc1 HS
        go_wp2_with (first
          | (at_builtin; (refine wpList_pushall (k := .i64) (bytes := 8) rfl _ _ 29 rfl Try.underlying29 fullI (by decide) u1.heap.size _ (z0.take (I + 1) ++ betwL z2) (z0.drop K) u1 _ (some ⟨b0, o0 + K, none⟩) (z0.length - K) (c0 - K) (by rw [List.length_drop]) (fun e => by cases e) (by rw [List.map_drop]; exact hh0.drop K) hM rfl rfl hB hB.size (by have := HLN.out; omega) (by rw [List.length_drop]; omega) ?_; intro v9 w2 hM9 hb9 _; have hM10 : Mine .i64 3 w2 u1.heap.size v9 P := (by rw [← HP.out]; exact hM9); obtain ⟨A9, c9, rfl, _, _, h9⟩ := hM10.size; have g0 := (HH1.out _ hb9).1; have B2 := below_trans HU1.out hb9 HU1.out.size; clear hM9 hM10 hM hh0 hb9))
          | (go_at_call 14; (with_reducible refine (H14.out _ g0).mono ?_); rintro e u3 ⟨rfl, rfl⟩)
          | (go_at_call 14; (with_reducible refine (H14b.out _ _ _ h9).mono ?_); rintro e u4 ⟨rfl, rfl⟩)
          | (go_at_call 16; (with_reducible refine (H16.out _ g0).mono ?_); rintro e u5 ⟨rfl, rfl⟩)
          | (go_at_call 16; (with_reducible refine (H16b.out _ _ _ h9).mono ?_); rintro e u6 ⟨rfl, rfl⟩)
          | (go_at_call 9; (with_reducible refine (HAL.out _).mono ?_); rintro e u7 ⟨rfl, hu7⟩))
        go_ret
        exact ⟨rfl, below_trans B2 hu7 B2.size⟩

set_option maxRecDepth 100000 in
theorem lifted (os : Os) (started : os.Started) (H : Type) (enc : TypeId × Value → H) :
    ReturnsInHanded {} Try.checked os 8 .any (Rows.baseHidesSpec.pre6 enc Try.prog Try.f8 Rows.baseHidesRow.domain false) (Rows.baseHidesSpec.post enc Try.prog Try.f8 false true false false) := by
  refine returnsInHanded_of_change_sized (C := Try.checked) own started (by kernel_rfl) Try.func8
    (ChangeSpec.witness6 (enc := enc) (C := Try.checked) false ⟨#[], #[.slice none 0 0, .int .u64 0, .slice none 0 0], []⟩ 8 (by kernel_rfl) (by kernel_rfl) (by kernel_rfl) (by kernel_rfl)) ?_
  intro W base args ds gs before hval0 hW hcnd hsz _
  have hval : ∀ (j : Nat) t v, Try.f8.params[j]? = some t → args[j]? = some v → Value.okWide Try.prog W .any base t v := hval0
  have hW' := hW
  obtain ⟨p, q, hA0, hV, rfl, hfz, hnd⟩ := hW
  have hA : DataW.TrodAll enc Try.prog W 0 (fun _ => true) true Try.f8.params.toList args.toList ds p := hA0
  rw [Try.params8] at hA hval
  obtain ⟨v0, vs0, d0, ds0, p0, q0, hargs, rfl, rfl, h0, r0⟩ := trodAll_cons hA
  obtain ⟨v1, vs1, d1, ds1, p1, q1, rfl, rfl, rfl, h1, r1⟩ := trodAll_cons r0
  obtain ⟨v2, vs2, d2, ds2, p2, q2, rfl, rfl, rfl, h2, r2⟩ := trodAll_cons r1
  obtain ⟨rfl, rfl, rfl⟩ := trodAll_nil r2
  obtain rfl : args = #[v0, v1, v2] := by cases args; simp_all
  obtain ⟨rfl, rfl⟩ := trodVars_none hV
  clear hA0 hval0
  have hlt : ∀ x ∈ p0 ++ (p1 ++ (p2 ++ [])), x.block < W.heap.size := fun x hx => by simpa using hW'.lt x (List.mem_append_left _ hx)
  have k0 := h0
  have k1 := h1
  have k2 := h2
  obtain ⟨A0, l0, c0, rfl⟩ := okWide_slice Try.underlying29 (hval 0 29 v0 rfl rfl)
  obtain ⟨z0, rfl, n0, m0, w0, hh0⟩ := has_ints Try.underlying29 Try.underlying3 (by kernel_rfl) h0 (fun x hx => hlt x (List.mem_append_left _ hx))
  have e0 := none_cap Try.underlying29 Try.underlying3 (by kernel_rfl) k0
  obtain ⟨a1, rfl, rfl, rfl, w1⟩ := open_int Try.underlying39 (hval 1 39 v1 rfl rfl) h1
  obtain ⟨A2, l2, c2, rfl⟩ := okWide_slice Try.underlying29 (hval 2 29 v2 rfl rfl)
  obtain ⟨z2, rfl, n2, m2, w2, hh2⟩ := has_ints Try.underlying29 Try.underlying3 (by kernel_rfl) h2 (fun x hx => hlt x (List.mem_append_right _ (List.mem_append_right _ (List.mem_append_left _ hx))))
  have e2 := none_cap Try.underlying29 Try.underlying3 (by kernel_rfl) k2
  have hz : z0.length ≤ 17592186044416 := by
    have h8 := ints_sized Try.underlying29 Try.underlying3 (by kernel_rfl) k0 hsz (j := 0) rfl rfl
    have hby : Try.prog.bytesOf 3 = 8 := by kernel_rfl
    rw [hby] at h8
    unfold reachBytes at h8
    omega
  refine (walk A0 c0 z0 a1 A2 c2 z2 W n0 m0 w0 hh0 e0 w1 n2 m2 w2 hh2 e2 hz).mono fun e W' ⟨he, hb⟩ => ?_
  subst he
  exact ⟨_, rfl, _, _, _, [], _, [], hW', (trodAll_cons_mk (shut_bool Try.underlying4 _) trodAll_mk0), (trodAll_cons_mk (Below.trod laidOut (by kernel_rfl) (of_decide_eq_true (by kernel_rfl)) k0 hb (fun x hx => hlt x (List.mem_append_left _ hx))) (trodAll_cons_mk (Below.trod laidOut (by kernel_rfl) (of_decide_eq_true (by kernel_rfl)) k1 hb (fun x hx => hlt x (List.mem_append_right _ (List.mem_append_left _ hx)))) (trodAll_cons_mk (Below.trod laidOut (by kernel_rfl) (of_decide_eq_true (by kernel_rfl)) k2 hb (fun x hx => hlt x (List.mem_append_right _ (List.mem_append_right _ (List.mem_append_left _ hx))))) trodAll_mk0))), rfl, hb.frame _, fun h => by cases h⟩

theorem over : Rows.baseHidesRow.holds Try.pinned (OpenSpec.ofChange Rows.baseHidesSpec) :=
  OpenClaim.holds_of_wide 8 Try.f8 rfl rfl rfl rfl rfl rfl rfl ⟨rfl, rfl, rfl, rfl, rfl⟩ rfl rfl rfl rfl rfl (by kernel_rfl) Try.func8 (by kernel_rfl)
    (of_decide_eq_true (by kernel_rfl)) (by unfold Func.isWrapper; first | (rw [if_pos (by decide +kernel)]; kernel_rfl) | (rw [if_neg (by decide +kernel)]; exact ⟨rfl, rfl⟩))
    (fun os started H enc _ => lifted os started H enc)

/-- the statement -/
theorem proved : Rows.BaseHidesSaid :=
  over
#print axioms proved
end Go.Proofs.Ytneiifjihgbacaa.baseHides
