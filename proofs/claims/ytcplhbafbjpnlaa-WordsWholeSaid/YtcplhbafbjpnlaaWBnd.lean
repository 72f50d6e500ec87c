/-
  Contracts of the program's Bounds and Is (of words). Condition: at most 1000 code points.
-/
import Derived.Test.YtcplhbafbjpnlaaWKinds
import Derived.Test.YtcplhbafbjpnlaaWJoin
import Derived.Test.YtcplhbafbjpnlaaWNear
set_option linter.unusedVariables false
set_option linter.unusedSimpArgs false
namespace Go.Proofs.Ytcplhbafbjpnlaa
open Go.ChangeShapes Go.WideShapes Go.ChangeAt Go.RowKit Go.Sort

theorem four_at (K : List Int) (i j : Nat) (hi : i < K.length) (hj : j < 4) : ((0 :: K) ++ [0, 0])[i + j]? = some (gk K (i + 1 + j)) := by
  unfold gk
  rw [show i + 1 + j = (i + j) + 1 by omega, List.getD_cons_succ, List.getD_eq_getElem?_getD]
  rcases Nat.lt_or_ge (i + j) (0 :: K).length with h | h
  · rw [List.getElem?_append_left h, List.getElem?_eq_getElem h]; rfl
  · rw [List.getElem?_append_right h, List.getElem?_eq_none h]
    rw [List.length_cons] at h ⊢
    have : i + j - (K.length + 1) = 0 ∨ i + j - (K.length + 1) = 1 := by omega
    rcases this with e | e <;> rw [e] <;> rfl

set_option maxHeartbeats 4000000 in
theorem wbounds_ok (A : Option Addr) (c : Nat) (zs : List Int) (w : World) (hn : zs.length ≤ 1000) (hc : zs.length ≤ c) (h : Has w w.heap.size A (zs.map (Value.int .i32))) :
    Calls Try.prog 10 #[.slice A zs.length c] w fun e w' => SliceOf .i64 w w' e (zb (wbs zs)) := by
  have hL := cls_len zs
  rcases Nat.eq_zero_or_pos zs.length with hz | hz
  · rw [wbs_nil _ hz, hz]
    go_enter Try.func10, Try.ntmps10
    go_wp2
    go_ret
    exact ⟨_, rfl, sliceV_nil .i64 w w (Below.refl _ _)⟩
  have HC := Lib.hid (fun w h => cuts_ok A c zs w hn hc h)
  have HKO := Lib.hid (fun A1 c1 w h h1 => kindsOf_ok A A1 c c1 zs w hn hc h h1)
  have hbn : (bnds (cls zs)).length ≤ 1001 := by have := Bs_len (cls zs) ((cls zs).length + 1); unfold bnds; omega
  have hcl := count_len (cls zs)
  have hbp : 0 < (bnds (cls zs)).length := List.length_pos_of_mem (mem_bnds.2 ⟨Nat.zero_le _, bP_zero _ (by omega)⟩)
  have hb0 := bnds_zero (cls zs) (by omega)
  have hall := wbk_all zs
  have hfst : wbk zs 1 = [0] := by rw [wbk_step zs 0 0 hb0, wbk_zero, cutAt_zero]; rfl
  have hstep : ∀ k X Y, (cutsL (cls zs))[k]? = some (X, Y) → wbk zs (k + 1 + 1) = wbk zs (k + 1) ++ (if cutAt (KL zs) (k + 1) = true then [Y] else []) := fun k X Y hk => wbk_step zs (k + 1) Y (cuts_get' _ _ _ hk).2.1
  have hlenk : ∀ k, k ≤ 1002 → (zb (wbk zs k)).length ≤ 1002 := fun k hk => by rw [zb_len]; have := wbk_len zs k; omega
  have hkl := KL_len zs
  rw [← hall]
  rw [show (bnds (cls zs)).length = (cutsL (cls zs)).length + 1 by omega]
  have hcn : (cutsL (cls zs)).length ≤ 1000 := by omega
  have hkn : (KL zs).length = (cutsL (cls zs)).length := by omega
  have HST := Lib.hid hstep
  have HLK := Lib.hid hlenk
  have H4 := Lib.hid (four_at (KL zs))
  have hql : ((0 :: KL zs) ++ [0, 0]).length = (cutsL (cls zs)).length + 3 := by simp [hkn]
  have HKN := Lib.hid hkn
  clear hL hstep hlenk hcl hbn hbp hb0 hall hkl hkn
  generalize cutsL (cls zs) = cs at *
  generalize KL zs = K at *
  generalize (0 :: K) ++ [0, 0] = Q at *
  have HB0 := Lib.hid (show zb (wbk zs 1) = [(0 : Int)] by rw [hfst]; rfl)
  clear hfst
  have hzb : ((zs.length : Int) == 0) = false := beq_eq_false_iff_ne.2 (by omega)
  have hU0 : Below w.heap.size w (w.alloc (.cells #[.int .i64 0] 3)) := (Below.refl _ _).alloc (Nat.le_refl _) _
  have hh0 := h.carry hU0
  have hm0 : Mine .i64 3 (w.alloc (.cells #[.int .i64 0] 3)) w.heap.size (.slice (some ⟨w.heap.size, 0, none⟩) 1 1) [0] := Mine.one _ _ _ _ _ (Nat.le_refl _)
  go_enter Try.func10, Try.ntmps10
  go_wp2_with (first
    | (go_at_call 22; refine (HC.out _ hh0).mono ?_; rintro e u ⟨v, rfl, A1, c1, rfl, ⟨hc1, hf1⟩, hh1, hb1⟩; have hM0 := hm0.below hb1; have hU1 := below_trans hU0 hb1 hU0.size; have hhu := hh0.carry hb1)
    | (go_at_call 23; refine (HKO.out _ _ _ hhu hh1).mono ?_; rintro e u2 ⟨v2, rfl, A2, c2, rfl, ⟨hc2, hf2⟩, hh2, hb2⟩; have hM2 := hM0.below hb2; have hU2 := below_trans hU1 hb2 hU1.size; have hh1 := hh1.carry hb2))
  rw [World.size_alloc] at hf1
  have hsu := hU0.size
  have hsu1 := hb1.size
  rw [World.size_alloc] at hsu1
  clear hh0 hm0 hU0 h hM0 hU1 hhu hsu
  go_loopw [3, 19] (fun v i wr => ∃ k : Nat, k ≤ cs.length ∧ i = .int .i64 k ∧ Mine .i64 3 wr w.heap.size v (zb (wbk zs (k + 1))) ∧ (HasC wr wr.heap.size A1 cs ∧ ∀ a, A1 = some a → v.ownBlock ≠ some a.block) ∧ (Has wr wr.heap.size A2 (Q.map (Value.int .i64)) ∧ ∀ a, A2 = some a → v.ownBlock ≠ some a.block) ∧ Below w.heap.size w wr) (fun _ i _ => cs.length - (intOf i).toNat)
  case atStart =>
    refine ⟨0, by omega, rfl, by rw [HB0.out]; exact hM2, ⟨hh1, fun a ha he => ?_⟩, ⟨hh2, fun a ha he => ?_⟩, hU2⟩
    · have := hf1 a ha
      have e2 : w.heap.size = a.block := Option.some.inj he
      omega
    · have := hf2 a ha
      have e2 : w.heap.size = a.block := Option.some.inj he
      omega
  case round =>
    clear hM2 hU2 hh1 hh2 hb1 hb2
    obtain ⟨k, hk, rfl, hown, ⟨hh1, hne1⟩, ⟨hh2, hne2⟩, hbw⟩ := hrel
    have hlen := HLK.out (k + 1) (by omega)
    by_cases hlt : k < cs.length
    · obtain ⟨b, off, rfl, hb, hcc1, hcc2⟩ := id hh1.at_ hlt
      obtain ⟨⟨X, Y⟩, hXY⟩ : ∃ p, cs[k] = p := ⟨_, rfl⟩
      rw [hXY] at hcc1 hcc2
      simp only at hcc1 hcc2
      have hst := HST.out k X Y (by rw [List.getElem?_eq_getElem hlt, hXY])
      have hQ0 : 0 < Q.length := by omega
      obtain ⟨b2, off2, rfl, hb2, hq⟩ := id hh2 (fun e => by rw [List.map_eq_nil_iff] at e; subst e; simp at hQ0)
      have hkK : k < K.length := by rw [HKN.out]; exact hlt
      have q0 : wr.cell? ⟨b2, off2 + k, none⟩ = some (.int .i64 (gk K (k + 1 + 0))) := hq (k + 0) _ (by rw [List.getElem?_map, H4.out k 0 hkK (by omega)]; rfl)
      have q1 : wr.cell? ⟨b2, off2 + k + 1, none⟩ = some (.int .i64 (gk K (k + 1 + 1))) := hq (k + 1) _ (by rw [List.getElem?_map, H4.out k 1 hkK (by omega)]; rfl)
      have q2 : wr.cell? ⟨b2, off2 + k + 2, none⟩ = some (.int .i64 (gk K (k + 1 + 2))) := hq (k + 2) _ (by rw [List.getElem?_map, H4.out k 2 hkK (by omega)]; rfl)
      have q3 : wr.cell? ⟨b2, off2 + k + 3, none⟩ = some (.int .i64 (gk K (k + 1 + 3))) := hq (k + 3) _ (by rw [List.getElem?_map, H4.out k 3 hkK (by omega)]; rfl)
      have hJ : Hid ((!J (gk K (k + 1 + 0)) (gk K (k + 1 + 1)) (gk K (k + 1 + 2)) (gk K (k + 1 + 3))) = cutAt K (k + 1)) := Lib.hid rfl
      generalize gk K (k + 1 + 0) = x0 at q0 hJ
      generalize gk K (k + 1 + 1) = x1 at q1 hJ
      generalize gk K (k + 1 + 2) = x2 at q2 hJ
      generalize gk K (k + 1 + 3) = x3 at q3 hJ
      have HJ := Lib.hid (fun w => wjoined_ok x0 x1 x2 x3 w)
      generalize J x0 x1 x2 x3 = z at hJ HJ
      have hlen2 : 4 ≤ 4 := Nat.le_refl 4
      have harr := fun W => arr4_run (some ⟨b2, off2 + k, none⟩) 4 (c2 - k) (by omega) W
      have hne1' := Lib.hid (hne1 _ rfl)
      have hne2' := Lib.hid (hne2 _ rfl)
      have HH1 := Lib.hid hh1
      have HH2 := Lib.hid hh2
      have hsz := hbw.size
      have hB1 : Below w.heap.size w (wr.alloc (.cells #[.int .i64 X, .int .i64 Y] 29)) := hbw.alloc hsz _
      have hM1 := hown.alloc (.cells #[.int .i64 X, .int .i64 Y] 29)
      have hUa : Up wr (wr.alloc (.cells #[.int .i64 X, .int .i64 Y] 29)) := (Up.refl wr).alloc _
      have hg1 : k + 4 ≤ c2 := by omega
      have hg2 : (k : Int) + 4 ≤ c2 := by omega
      have hg3 : ¬ c2 = k := by omega
      have kw : IntKind.i64.wrap ((k : Int) + 4) = ((k + 4 : Nat) : Int) := IntWalk.i64_in ((k : Int) + 4) (by omega)
      have HQL := Lib.hid hql
      cases z with
      | true =>
        have HN := Lib.hid (show zb (wbk zs (k + 1 + 1)) = zb (wbk zs (k + 1)) by rw [hst, ← hJ.out]; simp)
        generalize zb (wbk zs (k + 1)) = acc at hown hlen HN hM1
        clear hXY hst hh1 hh2 hq hne1 hne2 hf1 hf2 hQ0 hql
        go_wp2_with (go_at_call 24; refine (HJ.out _).mono ?_; rintro e u5 ⟨rfl, hu⟩; have hM2 := hM1.below hu.1; have hB2 := below_trans hB1 hu.1 hB1.size; have hU5 := hUa.trans hu)
        go_roundw
        case rel => exact ⟨k + 1, by omega, by go_num, by rw [HN.out]; exact hM2, ⟨HH1.out.carry hU5.1, fun a ha => by cases ha; exact hne1'.out⟩, ⟨HH2.out.up hU5, fun a ha => by cases ha; exact hne2'.out⟩, hB2⟩
        case measure => simp [intOf] <;> omega
      | false =>
        have HN := Lib.hid (show zb (wbk zs (k + 1 + 1)) = zb (wbk zs (k + 1)) ++ [(Y : Int)] by rw [hst, ← hJ.out]; exact zb_snoc _ _)
        generalize zb (wbk zs (k + 1)) = acc at hown hlen HN hM1
        clear hXY hst hh1 hh2 hq hne1 hne2 hf1 hf2 hQ0 hql
        go_wp2_with (first
          | (go_at_call 24; refine (HJ.out _).mono ?_; rintro e u5 ⟨rfl, hu⟩; have hM2 := hM1.below hu.1; have hB2 := below_trans hB1 hu.1 hB1.size; have hU5 := hUa.trans hu; have y1 := hu.cell (p := ⟨wr.heap.size, 1, none⟩) (v := .int .i64 Y) (by simp))
          | (at_builtin; refine wpList_push_far rfl _ _ 25 rfl Try.underlying25 Try.full3 (by omega) w.heap.size _ acc Y _ hM2 rfl rfl hB2.size (by omega) ?_; intro v' w1 hown' hbl' hfar; have hfar1 := Lib.hid (hfar b (by have := hU5.1.size; omega) hne1'.out); have hfar2 := Lib.hid (hfar b2 (by have := hU5.1.size; omega) hne2'.out); clear hfar))
        go_roundw
        case rel =>
          have hsz1 := hbl'.size
          have hsz5 := hU5.1.size
          have hsB := hB2.size
          exact ⟨k + 1, by omega, by go_num, by rw [HN.out]; exact hown', ⟨(HH1.out.carry hU5.1).stays (by omega) (fun a ha hlt2 => by cases ha; exact hfar1.out.2), fun a ha => by cases ha; exact hfar1.out.1⟩, ⟨(HH2.out.up hU5).stays (by omega) (fun a ha hlt2 => by cases ha; exact hfar2.out.2), fun a ha => by cases ha; exact hfar2.out.1⟩, hB2.trans hbl'⟩
        case measure => simp [intOf] <;> omega
    · obtain rfl : k = cs.length := by omega
      go_wp2
      go_ret
      exact ⟨_, rfl, hown.sliceV hbw⟩

set_option maxHeartbeats 2000000 in
theorem wis_ok (A : Option Addr) (c : Nat) (i : Int) (zs : List Int) (w : World) (hn : zs.length ≤ 1000) (hc : zs.length ≤ c) (h : Has w w.heap.size A (zs.map (Value.int .i32))) :
    Calls Try.prog 12 #[.slice A zs.length c, .int .i64 i] w fun e w' => e = .returned (.bool (isW zs i)) ∧ Up w w' := by
  have HI := Lib.hid (is_ok A c i zs w hn hc h)
  cases hv : isV (cls zs) i with
  | false =>
    have hw : isW zs i = false := by unfold isW; rw [hv]; rfl
    rw [hw]
    rw [hv] at HI
    clear hv hw
    go_enter Try.func12, Try.ntmps12
    go_wp2_with (go_at_call 20; refine HI.out.mono ?_; rintro e u ⟨rfl, hu⟩)
    go_ret
    exact ⟨rfl, hu⟩
  | true =>
    rw [hv] at HI
    have hv2 := hv
    unfold isV at hv2
    simp only [Bool.and_eq_true, decide_eq_true_eq] at hv2
    obtain ⟨⟨h1, h2⟩, h3⟩ := hv2
    rw [cls_len] at h2
    obtain ⟨m, rfl⟩ : ∃ m : Nat, i = m := ⟨i.toNat, by omega⟩
    rw [Int.toNat_natCast] at h3
    have hn0 : 0 < zs.length := by
      rcases Nat.eq_zero_or_pos zs.length with h0 | h0
      · rw [bP_nil _ (by rw [cls_len]; exact h0)] at h3; cases h3
      · exact h0
    have hw : isW zs m = !J (gk (KL zs) (ix zs m)) (gk (KL zs) (ix zs m + 1)) (gk (KL zs) (ix zs m + 2)) (gk (KL zs) (ix zs m + 3)) := by
      unfold isW wf cutAt
      rw [hv, Int.toNat_natCast]; rfl
    rw [hw]
    have HN := Lib.hid (fun w h => near_ok A c m zs w hn0 hn (by omega) h3 hc h)
    generalize gk (KL zs) (ix zs m) = x0 at HN
    generalize gk (KL zs) (ix zs m + 1) = x1 at HN
    generalize gk (KL zs) (ix zs m + 2) = x2 at HN
    generalize gk (KL zs) (ix zs m + 3) = x3 at HN
    have HJ := Lib.hid (fun w => wjoined_ok x0 x1 x2 x3 w)
    generalize J x0 x1 x2 x3 = z at HJ
    clear hw hv h1 h2 h3
    have HH := Lib.hid h
    clear h
    go_enter Try.func12, Try.ntmps12
    go_wp2_with (first
      | (go_at_call 20; refine HI.out.mono ?_; rintro e u ⟨rfl, hu⟩)
      | (go_at_call 28; refine (HN.out _ (HH.out.up hu)).mono ?_; rintro e u2 ⟨rfl, hu2⟩; have hU2 := hu.trans hu2)
      | (go_at_call 24; refine (HJ.out _).mono ?_; rintro e u3 ⟨rfl, hu3⟩; have hU3 := hU2.trans hu3))
    go_ret
    exact ⟨rfl, hU3⟩
end Go.Proofs.Ytcplhbafbjpnlaa
