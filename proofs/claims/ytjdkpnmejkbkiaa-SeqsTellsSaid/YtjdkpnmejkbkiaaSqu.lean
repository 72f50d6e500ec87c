/-
  Contract of the document's Of. Condition: at most 1000 classes, a base of at most 1, the levels that these classes have.
-/
import Derived.Test.YtjdkpnmejkbkiaaSqx
import Derived.Test.YtjdkpnmejkbkiaaRmch
import Derived.BigQuiet
set_option linter.unusedVariables false
set_option linter.unusedSimpArgs false
namespace Go.Proofs.Ytjdkpnmejkbkiaa
open Go.ChangeShapes Go.WideShapes Go.ChangeAt Go.RowKit Go.Sort

theorem infoRq : (Try.prog.info? 37).map (·.size) = some 4 := by kernel_rfl
theorem fullRq : (Try.prog.info? 37).map (fun i => (i.zero, i.size, i.bytes)) = some (some (.agg #[.slice none 0 0, .int .i64 0, .int .i64 0, .int .i64 0]), LQ.C, 48) := by kernel_rfl
theorem run_few (b : Nat) (cs : List Int) (k : Nat) : ((rsL b cs).getD k []).length ≤ cs.length := by
  have h8 := sorted_len _ 0 cs.length ((rs_x b cs).sort k) (fun y hy => ⟨Nat.zero_le _, (in_kept hy).1⟩)
  rcases h8 with h8 | h8
  · omega
  · rw [h8]; simp
/-- where a followed sequence stands: at a run, or at its end -/
def Foll (b : Nat) (cs : List Int) (ch : List Nat) (rows : List Rsl) (v : Value) (q : Nat) (T : List Nat) : Prop :=
  (∃ pre k r, ChS (nxR cs (rsL b cs)) (rsL b cs).length ch pre k ∧ q = pre.length ∧ rows[k]? = some r ∧ v = .slice r.A r.n r.c ∧ T = atS (rsL b cs) pre) ∨
  (∃ pre k, ch = pre ++ [k] ∧ nxR cs (rsL b cs) k = none ∧ k < (rsL b cs).length ∧ v = .slice none 0 0 ∧ T = atS (rsL b cs) ch ∧ q ≤ (rsL b cs).length)

set_option maxRecDepth 20000 in
set_option maxHeartbeats 8000000 in
theorem rof_ok (A AL : Option Addr) (n c cL b : Nat) (cs : List Int) (w : World) (hn : n = cs.length) (hmax : n ≤ 1000) (hb : b ≤ 1) (h : Has w w.heap.size A (cs.map (Value.int .i64))) (hL : Has w w.heap.size AL ((lvs (lvF b cs) n).map (Value.int .i64))) :
    Calls Try.prog 11 #[.slice A n c, .slice AL n cL, .int .i64 (b : Int)] w fun e w' => ∃ v, e = .returned v ∧ ReadsQ w' v (seqL b cs) ∧ Below w.heap.size w w' := by
  have HN := Lib.hid hn
  have HH := Lib.hid (fun (W : World) (hb : Below w.heap.size w W) => (h.below hb).more hb.size)
  have HHL := Lib.hid (fun (W : World) (hb : Below w.heap.size w W) => (hL.below hb).more hb.size)
  have HRU := Lib.hid (rruns_ok A AL n c cL (lvF b cs) cs w hn hmax h hL)
  have HMA := Lib.hid (fun (W : World) (hb : Below w.heap.size w W) => rmatch_ok A n c cs W hn hmax ((h.below hb).more hb.size))
  have hrs : runsF (lvF b cs) (keptL cs n) = rsL b cs := by rw [hn]; rfl
  rw [hrs] at HRU
  have hml : (matL cs).length = n := by rw [mat_len, hn]
  clear hn h hL hrs
  go_enter Try.func11, Try.ntmps11
  go_wp2_with (first
    | (go_at_call 34; (with_reducible refine HRU.out.mono ?_); rintro e w1 ⟨V8, rows, rfl, hN, hb1⟩)
    | (go_at_call 18; (with_reducible refine (HMA.out w1 hb1).mono ?_); rintro e W2 ⟨V9, rfl, hM9, hb2⟩))
  have hA := HH.out W2 (hb1.trans (hb2.mono hb1.size))
  have hAL := HHL.out W2 (hb1.trans (hb2.mono hb1.size))
  obtain ⟨A9, c9, rfl, hc9, _, hM⟩ := hM9.size
  rw [hml] at hc9
  simp only [hml]
  have HBL := Lib.hid (below_trans hb1 hb2 hb1.size)
  have hN2 := hN.below hb2
  have hRl : (rsL b cs).length ≤ n := by have := runs_len (lvF b cs) cs cs.length; rw [HN.out]; exact this
  obtain ⟨A8, c8, hv8, hc8, _, _⟩ := hN2.own.has
  obtain ⟨R, hR⟩ : ∃ R, (rsL b cs).length = R := ⟨_, rfl⟩
  rw [hN2.len, hR] at hv8
  subst hv8
  rw [hR] at hRl
  have HR := Lib.hid hR
  have HA := Lib.hid (fun (u : World) (hb : Below W2.heap.size W2 u) => hA.carry hb)
  have HAL := Lib.hid (fun (u : World) (hb : Below W2.heap.size W2 u) => hAL.carry hb)
  have HM := Lib.hid (fun (u : World) (hb : Below W2.heap.size W2 u) => hM.carry hb)
  have HN8 := Lib.hid (fun (u : World) (hb : Below W2.heap.size W2 u) => hN2.below hb)
  have HML := Lib.hid hml
  have HX := Lib.hid (rs_x b cs)
  have HLK := Lib.hid (links b cs)
  have HINI := Lib.hid (fun (c : Int) (w : World) => rinitiator_ok c w)
  have HWAY := Lib.hid (fun (a b : Int) (w : World) ha hb => way_ok a b w ha hb)
  have hI : SqM 37 W2 W2.heap.size (.slice none 0 0) [] (seqD b cs 0) := SqM.nil _ _ _
  clear hA hAL hM hml hR hN hN2 hM9 hb1 hb2 HRU HMA HH HHL hc8
  go_loopw [7, 10] (fun v7 v10 wr => ∃ i : Nat, i ≤ R ∧ v10 = .int .i64 i ∧ Hid (∃ rq, SqM 37 wr W2.heap.size v7 rq (seqD b cs i) ∧ Below W2.heap.size W2 wr)) (fun _ v10 _ => R - (intOf v10).toNat)
  case atStart => exact ⟨0, by omega, rfl, Lib.hid ⟨[], hI, Below.refl _ _⟩⟩
  case round =>
    clear hI
    obtain ⟨i, hi, rfl, HS⟩ := hrel
    obtain ⟨rq, hQ, hbr⟩ := HS.out
    clear HS
    by_cases hlt : i < R
    · have hk : i < (rsL b cs).length := by rw [HR.out]; exact hlt
      obtain ⟨g8, cg8, r, hv, hr, hg1, hg2, k1, k2, k3, k4⟩ := (HN8.out _ hbr).row hk
      injection hv with e1 e2 e3
      subst e1; subst e3
      clear e2
      rw [← getD_at hk] at k2 k4
      have hne := HX.out.ne i hk
      obtain ⟨m, hm⟩ : ∃ m, ((rsL b cs).getD i []).length = m + 1 := ⟨((rsL b cs).getD i []).length - 1, by have := List.length_pos_iff.2 hne; omega⟩
      have hm1 : m < 1000 := by have := run_few b cs i; have := HN.out; omega
      obtain ⟨A', n', c'⟩ := r
      simp only at k1 k2 k3 k4
      rw [hm] at k2
      subst k2
      obtain ⟨bi, oi, rfl, hbi, f1⟩ := k4.at_int (k := 0) (by rw [ints_len]; omega)
      rw [ints_head] at f1
      have f1' : wr.cell? ⟨bi, oi, none⟩ = some (.int .i64 (hdR (rsL b cs) i : Int)) := f1
      have hhd : hdR (rsL b cs) i < n := by rw [HN.out]; exact hd_lt hk
      have hLb := lvF_bnd b cs (by omega) _ (hd_lt hk)
      obtain ⟨b1, o1, rfl, hb1, x1⟩ := (HA.out _ hbr).at_int (k := hdR (rsL b cs) i) (by have := HN.out; omega)
      obtain ⟨b9, o9, rfl, hb9, x9⟩ := (HM.out _ hbr).at_int (k := hdR (rsL b cs) i) (by have := HML.out; omega)
      obtain ⟨bL, oL, rfl, hbL, l1⟩ := (HAL.out _ hbr).at_int (k := hdR (rsL b cs) i) (by rw [lvs_len]; exact hhd)
      rw [lvs_get] at l1
      rw [← getD_get] at x1 x9
      have hpv := pv_cases hk
      have hst1 := fun j hj => starts_no (pv := pvR cs (rsL b cs)) (i := i) (j := j) hj
      have i0 : (0 : Int) ≤ (i : Int) := by omega
      have i1 : (i : Int) < (R : Int) := by omega
      have p7 : (0 : Int) < (m : Int) + 1 := by omega
      obtain ⟨X, hX⟩ : ∃ X, cs.getD (hdR (rsL b cs) i) 0 = X := ⟨_, rfl⟩
      obtain ⟨M, hM⟩ : ∃ M, (matL cs).getD (hdR (rsL b cs) i) 0 = M := ⟨_, rfl⟩
      obtain ⟨L, hLE⟩ : ∃ L, lvF b cs (hdR (rsL b cs) i) = L := ⟨_, rfl⟩
      obtain ⟨hd, hhE⟩ : ∃ hd, hdR (rsL b cs) i = hd := ⟨_, rfl⟩
      rw [hX, hM] at hpv
      rw [hX] at x1
      rw [hM] at x9
      rw [hLE] at l1 hLb
      rw [hhE] at f1' hhd x1 x9 l1
      clear f1 hX hM
      rcases hpv with ⟨hX, hM, j, hj⟩ | ⟨hX, hM, hj⟩ | ⟨hX, hj⟩
      · -- it goes on with an earlier one
        have hMb : (M == -1) = false := by simpa using hM
        have hD : seqD b cs (i + 1) = seqD b cs i := by unfold seqD; rw [hst1 j hj]
        subst hX
        clear hM hst1 k4 hj
        go_wp2
        go_roundw
        case rel => exact ⟨i + 1, by omega, by go_num, Lib.hid ⟨rq, by rw [hD]; exact hQ, hbr⟩⟩
        case measure => simp [intOf] <;> omega
      case' inr.inl =>
        subst hX; subst hM
        clear hst1
        go_wp2_with (refine wpList_store_at rfl 37 _ _ rfl wr.heap.size _ rfl rfl 37 _ (at_new _ _ _) (by exact infoRq) (by rfl) (by simp [Value.oneCell']) wr ((Up.refl wr).alloc _) (Nat.le_refl _) ?_; intro w4 hat hk4 hs4 hu4; have k1' := hu4.cell k1)
      case' inr.inr =>
        have hXb : (X == 23) = false := by simpa using hX
        clear hst1 hX
        go_wp2_with (refine wpList_store_at rfl 37 _ _ rfl wr.heap.size _ rfl rfl 37 _ (at_new _ _ _) (by exact infoRq) (by rfl) (by simp [Value.oneCell']) wr ((Up.refl wr).alloc _) (Nat.le_refl _) ?_; intro w4 hat hk4 hs4 hu4; have k1' := hu4.cell k1)
      all_goals
        obtain ⟨W0, hW0⟩ : ∃ W0, W0 = wr := ⟨wr, rfl⟩
        subst hW0
        obtain ⟨ch, hch⟩ : ∃ ch, chainG (nxR cs (rsL b cs)) ((rsL b cs).length + 1) i = ch := ⟨_, rfl⟩
        have hcs : ChS (nxR cs (rsL b cs)) (rsL b cs).length ch [] i := by rw [← hch]; exact ChS.start HLK.out hk
        have hD2 : seqD b cs (i + 1) = seqD b cs i ++ [sqN b cs ch] := by unfold seqD; rw [starts_yes hj, List.map_append, ← hch]; rfl
        have hmem : ch ∈ grpN b cs (rsL b cs).length := by
          have h1 := sq_chain b cs ((rsL b cs).length + 1) (by omega)
          show ch ∈ sqG b cs
          rw [h1]
          exact List.mem_map.2 ⟨i, List.mem_filter.2 ⟨List.mem_range.2 hk, by rw [hj]; rfl⟩, hch⟩
        have hchd : ch.headD 0 = i := by rw [← hch]; exact chain_hd _ _ _
        have hcl := (grp_len (Nat.le_refl _) hmem).2
        rw [← HN.out] at hcl
        have hB0 : BoxS W0 W0.heap.size (.slice none 0 0) L 0 0 [] w4 := ⟨hat, Mine.nil_ _ _ _ _, Nat.le_refl _, (fun e => by cases e), hu4.1⟩
        have hF0 : Foll b cs ch rows (.slice (some ⟨bi, oi, none⟩) (m + 1) c') 0 [] := .inl ⟨[], i, _, hcs, rfl, hr, rfl, rfl⟩
        obtain ⟨A7, c7, hv7, _, _, _⟩ := hQ.nest.own.has
        subst hv7
        have hrq : rq.length ≤ 1000000 := by have h1 := hQ.len; have h2 := seqD_few b cs i; omega
        have HQ0 := Lib.hid hQ
        clear hQ
        have HMEM := Lib.hid hmem
        have HD2 := Lib.hid hD2
        have HCHD := Lib.hid hchd
        clear hat hk4 hs4 hu4 hcs hD2 hmem hch hr k1 k1' k4 f1' x1 x9 l1 hj hchd
        go_loopw [12, 13] (fun v12 v13 wx => ∃ q : Nat, v13 = .int .i64 q ∧ Hid (∃ AX nX cX T, BoxS W0 W0.heap.size (.slice AX nX cX) L 0 0 T wx ∧ Foll b cs ch rows v12 q T)) (fun _ v13 _ => R + 2 - (intOf v13).toNat)
        case atStart => exact ⟨0, rfl, Lib.hid ⟨none, 0, 0, [], hB0, hF0⟩⟩
        case round =>
          clear hB0 hF0
          obtain ⟨q, rfl, HS⟩ := hrel
          obtain ⟨AX, nX, cX, T, hX, hF⟩ := HS.out
          clear HS
          have hbx : Below W2.heap.size W2 wr := hbr.trans (hX.below.mono hbr.size)
          rcases hF with ⟨pre, k, r, hC, hq, hr, rfl, hT⟩ | ⟨pre, k, hC, hn, hkR, rfl, hT, hq⟩
          · have hkR := hC.kR
            have hqR : q ≤ R := by rw [hq]; have := hC.lt; have := HR.out; omega
            obtain ⟨gz, cz, r', hv, hr', _, _, _, k2, k3, _⟩ := (HN8.out _ hbx).row hkR
            rw [hr] at hr'
            injection hr' with hr'
            subst hr'
            clear hv
            rw [← getD_at hkR] at k2
            have hne2 := HX.out.ne k hkR
            obtain ⟨mk, hmk⟩ : ∃ mk, ((rsL b cs).getD k []).length = mk + 1 := ⟨((rsL b cs).getD k []).length - 1, by have := List.length_pos_iff.2 hne2; omega⟩
            have hmk1 : mk < 1000 := by have := run_few b cs k; have := HN.out; omega
            obtain ⟨rA, rn, rc⟩ := r
            simp only at k2 k3 ⊢
            rw [hmk] at k2
            subst k2
            have HRUN : Hid (∀ u, Below W2.heap.size W2 u → Has u u.heap.size rA ((ints ((rsL b cs).getD k [])).map (Value.int .i64))) := Lib.hid fun u hu => by
              have h1 := (HN8.out u hu).inn k ⟨rA, mk + 1, rc⟩ ((rsL b cs).getD k []) hr (by rw [getD_at hkR]; exact List.getElem?_eq_getElem hkR)
              obtain ⟨A2, c2, hv2, _, _, hh2⟩ := h1.size
              unfold Rsl.sl at hv2
              injection hv2 with e1 e2 e3
              subst e1
              exact hh2
            have HQ := Lib.hid hq
            clear hq
            have hal := hC.atS_len (rs := rsL b cs)
            rw [← hT] at hal
            have hd1 : decide ((q : Int) ≤ (R : Int)) = true := decide_eq_true (by omega)
            have hd2 : decide ((0 : Int) < (mk : Int) + 1) = true := decide_eq_true (by omega)
            have HRU2 := Lib.hid (rfl : (rsL b cs).getD k [] = (rsL b cs).getD k [])
            have hX0 : BoxS W0 W0.heap.size (.slice AX nX cX) L 0 0 (T ++ ((rsL b cs).getD k []).take 0) wr := by rw [List.take_zero, List.append_nil]; exact hX
            clear hX hr hbx
            go_wp2
            go_loopw [14] (fun v14 wx => ∃ j : Nat, j ≤ mk + 1 ∧ v14 = .int .i64 j ∧ Hid (∃ AX nX cX, BoxS W0 W0.heap.size (.slice AX nX cX) L 0 0 (T ++ ((rsL b cs).getD k []).take j) wx)) (fun v14 _ => mk + 1 - (intOf v14).toNat)
            case atStart => exact ⟨0, by omega, rfl, Lib.hid ⟨_, _, _, hX0⟩⟩
            case round =>
              clear hX0
              obtain ⟨j, hj, rfl, HS⟩ := hrel
              obtain ⟨AX, nX, cX, hX⟩ := HS.out
              clear HS
              have hbx : Below W2.heap.size W2 wr := hbr.trans (hX.below.mono hbr.size)
              have hBs := hX.below.size
              by_cases hlt2 : j < mk + 1
              · have hjl : j < ((rsL b cs).getD k []).length := by omega
                obtain ⟨p, hp⟩ : ∃ p, ((rsL b cs).getD k [])[j]? = some p := ⟨((rsL b cs).getD k [])[j], List.getElem?_eq_getElem hjl⟩
                obtain ⟨br, or', rfl, hbr', f1⟩ := (HRUN.out _ hbx).at_int (k := j) (by rw [ints_len]; exact hjl)
                rw [ints_get _ j p hp] at f1
                have htk := take_snoc _ j p hp
                obtain ⟨e0, _, _, _, fz0⟩ := hX.cells
                have e0b : (wr.alloc (.cells #[.int .i64 (p : Int)] 3)).cell? ⟨W0.heap.size, 0, none⟩ = some (.slice AX nX cX) := (hX.same ((Below.refl _ _).alloc (Nat.le_refl _) _)).cells.1
                have e0a : ∀ z, ((wr.drewN z).alloc (.cells #[.int .i64 (p : Int)] 3)).cell? ⟨W0.heap.size, 0, none⟩ = some (.slice AX nX cX) := fun z => (hX.same ((below_drewN (Below.refl _ _) z).alloc (Nat.le_refl _) _)).cells.1
                have hTl : (ints (T ++ ((rsL b cs).getD k []).take j)).length ≤ 1000000000 := by rw [ints_len, List.length_append, List.length_take]; omega
                have hXm := hX.mine
                have HGR : Hid (∀ w0, Below wr.heap.size wr w0 → ∀ w1 A n c, Mine .i64 3 w1 W0.heap.size (.slice A n c) (ints (T ++ ((rsL b cs).getD k []).take j) ++ [(p : Int)]) → Below W0.heap.size w0 w1 → FarV w0 w1 (.slice AX nX cX) (.slice A n c) → w1.cell? ⟨W0.heap.size, 0, none⟩ = some (.slice AX nX cX) ∧ (∀ j, w1.frozen? ⟨W0.heap.size, j, none⟩ = false) ∧ ∀ w2, w1.setCell ⟨W0.heap.size, 0, none⟩ (.slice A n c) = w2 → BoxS W0 W0.heap.size (.slice A n c) L 0 0 (T ++ ((rsL b cs).getD k []).take (j + 1)) w2) := Lib.hid fun w0 g0 w1 A n c g1 g2 g3 => by
                  rw [← ints_snoc, List.append_assoc, ← htk] at g1
                  exact (hX.same g0).grown g1 g3 g2
                generalize ints (T ++ ((rsL b cs).getD k []).take j) = TT at *
                have q0 : (0 : Int) ≤ (j : Int) := by omega
                have q1 : (j : Int) < (mk : Int) + 1 := by omega
                clear hX hp htk hjl
                go_wp2
                go_region_law ((refine step_push_far (k := .i64) (bytes := 8) (by rfl) _ _ 22 (by rfl) Try.underlying22 fullI (by decide) W0.heap.size (.slice AX nX cX) TT (p : Int) wr.heap.size (hXm.alloc _) (by rfl) (by rfl) (push_cell wr (.int .i64 (p : Int)) 3 0 _ rfl) (by simp; omega) hTl ?_; intro v' w3 hM4 hb4 hfar; obtain ⟨A6, c6', rfl, _, _, _⟩ := hM4.size; obtain ⟨n6, hn6⟩ : ∃ n6, (TT ++ [(p : Int)]).length = n6 := ⟨_, rfl⟩; simp only [hn6] at hM4 hfar ⊢; obtain ⟨d6, fz6, hnx6⟩ := HGR.out _ (((Below.refl _ _).alloc (by simp) _).drew) _ _ _ _ hM4 hb4 hfar))
                all_goals
                  have hS := hnx6 _ rfl
                  clear hnx6 d6 fz6 hM4 hb4 hfar HGR
                  go_wp2
                  go_roundw
                  case rel => exact ⟨j + 1, by omega, by go_num, Lib.hid ⟨_, _, _, hS⟩⟩
                  case measure => simp [intOf] <;> omega
              · obtain rfl : j = mk + 1 := by omega
                have hfull : ((rsL b cs).getD k []).take (mk + 1) = (rsL b cs).getD k [] := by rw [← hmk, List.take_length]
                rw [hfull, hT, ← atS_snoc] at hX
                obtain ⟨br, or', rfl, hbr', f2⟩ := (HRUN.out _ hbx).at_int (k := mk) (by rw [ints_len]; omega)
                rw [ints_last _ mk hmk] at f2
                have f2' : wr.cell? ⟨br, or' + mk, none⟩ = some (.int .i64 (laR (rsL b cs) k : Int)) := f2
                have hla : laR (rsL b cs) k < n := by rw [HN.out]; exact la_lt hkR
                obtain ⟨b1', o1', hA1, _, x1⟩ := (HA.out _ hbx).at_int (k := laR (rsL b cs) k) (by have := HN.out; omega)
                injection hA1 with hA1
                injection hA1 with e1 e2
                subst e1; subst e2
                obtain ⟨b9', o9', hA9, _, x9⟩ := (HM.out _ hbx).at_int (k := laR (rsL b cs) k) (by have := HML.out; omega)
                injection hA9 with hA9
                injection hA9 with e1 e2
                subst e1; subst e2
                rw [← getD_get] at x1 x9
                have hnx := nx_cases hkR
                have p2 : (mk : Int) + 1 - 1 = mk := by omega
                have p3 : (mk : Int) < (mk : Int) + 1 := by omega
                have p4 : (0 : Int) ≤ (mk : Int) := by omega
                have p5 : IntKind.i64.wrap (mk : Int) = mk := Go.IntWalk.i64_in _ (by omega)
                obtain ⟨X2, hX2⟩ : ∃ X2, cs.getD (laR (rsL b cs) k) 0 = X2 := ⟨_, rfl⟩
                obtain ⟨M2, hM2⟩ : ∃ M2, (matL cs).getD (laR (rsL b cs) k) 0 = M2 := ⟨_, rfl⟩
                obtain ⟨la, hlaE⟩ : ∃ la, laR (rsL b cs) k = la := ⟨_, rfl⟩
                rw [hX2, hM2] at hnx
                rw [hX2] at x1
                rw [hM2] at x9
                rw [hlaE] at f2' hla x1 x9
                clear f2 hX2 hM2 hlaE
                rcases hnx with ⟨ho, hn⟩ | ⟨ho, rfl, hn⟩ | ⟨ho, k2', hn, hk2, hkk, hk2R⟩
                · have HXI : Hid (∀ u, Calls Try.prog 17 #[.int .i64 X2] u fun e w' => e = .returned (.bool false) ∧ u = w') := Lib.hid fun u => by have := HINI.out X2 u; rwa [ho] at this
                  have hce := hC.stop hn
                  have HS2 : Hid (Foll b cs ch rows (.slice none 0 0) (q + 1) (atS (rsL b cs) (pre ++ [k]))) := Lib.hid (.inr ⟨pre, k, hce, hn, hkR, rfl, by rw [hce], by have := hC.few; have := HQ.out; omega⟩)
                  have HX3 := Lib.hid hX
                  clear hX ho hn hce hT hC
                  go_wp2_with (go_at_call 17; refine (HXI.out _).mono ?_; rintro e z ⟨rfl, rfl⟩)
                  go_roundw
                  case rel => exact ⟨q + 1, by go_num, Lib.hid ⟨_, _, _, _, HX3.out, HS2.out⟩⟩
                  case measure => simp [intOf] <;> omega
                · have HXI : Hid (∀ u, Calls Try.prog 17 #[.int .i64 X2] u fun e w' => e = .returned (.bool true) ∧ u = w') := Lib.hid fun u => by have := HINI.out X2 u; rwa [ho] at this
                  have hce := hC.stop hn
                  have HS2 : Hid (Foll b cs ch rows (.slice none 0 0) (q + 1) (atS (rsL b cs) (pre ++ [k]))) := Lib.hid (.inr ⟨pre, k, hce, hn, hkR, rfl, by rw [hce], by have := hC.few; have := HQ.out; omega⟩)
                  have HX3 := Lib.hid hX
                  clear hX ho hn hce hT hC
                  go_wp2_with (go_at_call 17; refine (HXI.out _).mono ?_; rintro e z ⟨rfl, rfl⟩)
                  go_roundw
                  case rel => exact ⟨q + 1, by go_num, Lib.hid ⟨_, _, _, _, HX3.out, HS2.out⟩⟩
                  case measure => simp [intOf] <;> omega
                · have HXI : Hid (∀ u, Calls Try.prog 17 #[.int .i64 X2] u fun e w' => e = .returned (.bool true) ∧ u = w') := Lib.hid fun u => by have := HINI.out X2 u; rwa [ho] at this
                  have hC2 := hC.next HLK.out hn
                  obtain ⟨r2, hr2⟩ : ∃ r2, rows[k2']? = some r2 := by obtain ⟨_, _, r2, _, hr2, _⟩ := (HN8.out _ hbx).row hk2R; exact ⟨r2, hr2⟩
                  have HWI := Lib.hid (with_ok _ rows k2' (hdR (rsL b cs) k2') w.heap.size (lvF b cs) (keptL cs cs.length) (rsL b cs) r2 wr (by rw [HR.out]; omega) (fun x hx => by obtain ⟨y, hy, rfl⟩ := List.getElem_of_mem hx; have := run_few b cs y; rw [getD_at hy] at this; have := HN.out; omega) HX.out (head_in HX.out hk2R) hr2 (HN8.out _ hbx))
                  have HS2 : Hid (Foll b cs ch rows (.slice r2.A r2.n r2.c) (q + 1) (atS (rsL b cs) (pre ++ [k]))) := Lib.hid (.inl ⟨pre ++ [k], k2', r2, hC2, by rw [List.length_append, HQ.out]; rfl, hr2, rfl, rfl⟩)
                  have HX3 := Lib.hid hX
                  have hM0 : ((hdR (rsL b cs) k2' : Int) == -1) = false := by simp <;> omega
                  rw [hk2] at x9
                  generalize hdR (rsL b cs) k2' = H2 at *
                  clear hX ho hn hC2 hT hC hr2 hk2
                  go_wp2_with (first
                    | (go_at_call 17; refine (HXI.out _).mono ?_; rintro e z ⟨rfl, rfl⟩)
                    | (go_at_call 35; (with_reducible refine HWI.out.mono ?_); rintro e z ⟨rfl, rfl⟩))
                  go_roundw
                  case rel => exact ⟨q + 1, by go_num, Lib.hid ⟨_, _, _, _, HX3.out, HS2.out⟩⟩
                  case measure => simp [intOf] <;> omega
          · have hne2 := HX.out.ne k hkR
            have hqR : q ≤ R := by rw [← HR.out]; exact hq
            have hTl : T.length ≤ n := by rw [hT]; exact hcl
            obtain ⟨tl, htl⟩ : ∃ tl, ch = i :: tl := by
              have h1 := HCHD.out
              cases ch with
              | nil => simp at hC
              | cons a tl => exact ⟨tl, by rw [show a = i from h1]⟩
            have hThd : T.headD 0 = hdR (rsL b cs) i := by rw [hT, htl]; exact atS_head _ _ _ hne
            have hTla : T.getLastD 0 = laR (rsL b cs) k := by rw [hT, hC]; exact atS_last _ _ _ hne2
            have hTne : T ≠ [] := fun e => by
              rw [hT, hC, atS_snoc] at e
              exact hne2 (List.append_eq_nil_iff.1 e).2
            obtain ⟨mT, hmT⟩ : ∃ mT, T.length = mT + 1 := ⟨T.length - 1, by have := List.length_pos_iff.2 hTne; omega⟩
            obtain ⟨e0, e1, e2, e3, fz⟩ := hX.cells
            obtain ⟨A2, c2, hv2, _, _, hT2⟩ := hX.mine.size
            injection hv2 with g1 g2 g3
            subst g1; subst g3
            rw [ints_len, hmT] at g2
            subst g2
            obtain ⟨bT, oT, rfl, hbT, t1⟩ := hT2.at_int (k := 0) (by rw [ints_len]; omega)
            obtain ⟨bT', oT', hA9, _, t2⟩ := hT2.at_int (k := mT) (by rw [ints_len]; omega)
            injection hA9 with hA9
            injection hA9 with e5 e6
            subst e5; subst e6
            rw [ints_head, hThd, hhE] at t1
            rw [ints_last _ mT hmT, hTla] at t2
            have t1' : wr.cell? ⟨bT, oT, none⟩ = some (.int .i64 (hd : Int)) := t1
            have hSQ : (sqN b cs ch).pl = T ∧ (sqN b cs ch).lv = L ∧ (sqN b cs ch).sos = dirC L (befR (lvF b cs) b (rsL b cs) i) ∧ (sqN b cs ch).eos = dirC L (if opnC (cs.getD (laR (rsL b cs) k) 0) = true then (b : Int) else aftR (lvF b cs) b (rsL b cs) k) := by
              have h1 := HCHD.out
              have h2 : ch.getLastD 0 = k := by rw [hC]; simp
              refine ⟨hT.symm, ?_, ?_, ?_⟩
              · show lvF b cs (hdR (rsL b cs) (ch.headD 0)) = L
                rw [h1]; exact hLE
              · show dirC (lvF b cs (hdR (rsL b cs) (ch.headD 0))) (befR (lvF b cs) b (rsL b cs) (ch.headD 0)) = _
                rw [h1, hLE]
              · show (if (nxR cs (rsL b cs) (ch.getLastD 0)).isSome = true then (0 : Int) else eosN b cs (ch.headD 0) (ch.getLastD 0)) = _
                rw [h2, hn, if_neg (by simp)]
                unfold eosN
                rw [h1, hLE]
            have HSQ := Lib.hid hSQ
            have hbx : Below W2.heap.size W2 wr := hbr.trans (hX.below.mono hbr.size)
            have hbb := bef_bnd b cs hb hk
            have hab := aft_bnd b cs hb hkR
            have HB1 : Hid (∀ u, Below W2.heap.size W2 u → Calls Try.prog 37 #[.slice (some ⟨b1, o1, none⟩) n c, .slice (some ⟨bL, oL, none⟩) n cL, .int .i64 (hd : Int), .int .i64 (-1), .int .i64 (b : Int)] u fun e w' => e = .returned (.int .i64 (befR (lvF b cs) b (rsL b cs) i)) ∧ u = w') := Lib.hid fun u hu2 => by
              have := beside_bef (some ⟨b1, o1, none⟩) (some ⟨bL, oL, none⟩) n c cL b i cs u HN.out hmax hk (HA.out u hu2) (HAL.out u hu2)
              rwa [hhE] at this
            have HB2 : Hid (∀ u, Below W2.heap.size W2 u → Calls Try.prog 37 #[.slice (some ⟨b1, o1, none⟩) n c, .slice (some ⟨bL, oL, none⟩) n cL, .int .i64 (laR (rsL b cs) k : Int), .int .i64 1, .int .i64 (b : Int)] u fun e w' => e = .returned (.int .i64 (aftR (lvF b cs) b (rsL b cs) k)) ∧ u = w') := Lib.hid fun u hu2 => by
              exact beside_aft (some ⟨b1, o1, none⟩) (some ⟨bL, oL, none⟩) n c cL b k cs u HN.out hmax hkR (HA.out u hu2) (HAL.out u hu2)
            have HW1 : Hid (∀ u, Calls Try.prog 36 #[.int .i64 L, .int .i64 (befR (lvF b cs) b (rsL b cs) i)] u fun e w' => e = .returned (.int .i64 (dirC L (befR (lvF b cs) b (rsL b cs) i))) ∧ u = w') := Lib.hid fun u => HWAY.out _ _ u ⟨hLb.1, by omega⟩ hbb
            have hla : laR (rsL b cs) k < n := by rw [HN.out]; exact la_lt hkR
            have HX4 := Lib.hid hX
            have HFIN : Hid (∀ (EO : Int) w6, BoxS W0 W0.heap.size (.slice (some ⟨bT, oT, none⟩) (mT + 1) cX) L (dirC L (befR (lvF b cs) b (rsL b cs) i)) EO T w6 → EO = (sqN b cs ch).eos → ∀ w7 v', MineN LQ 37 w7 W2.heap.size v' (rq ++ [⟨some ⟨bT, oT, none⟩, mT + 1, cX, L, dirC L (befR (lvF b cs) b (rsL b cs) i), EO⟩]) → Below W2.heap.size w6 w7 → FarV w6 w7 (.slice A7 rq.length c7) v' → ∃ rq', SqM 37 w7 W2.heap.size v' rq' (seqD b cs (i + 1)) ∧ Below W2.heap.size W2 w7) := Lib.hid fun EO w6 g1 g2 w7 v' g3 g4 g5 => by
              have hQ6 := HQ0.out.below g1.below
              have hown := g1.mine.own_lt bT rfl
              rw [HD2.out]
              refine ⟨_, hQ6.more (y := ⟨some ⟨bT, oT, none⟩, mT + 1, cX, L, dirC L (befR (lvF b cs) b (rsL b cs) i), EO⟩) g3 g5 (sqN b cs ch) (by rw [HSQ.out.1]; exact g1.mine.low hbr.size) (fun z hz e => ?_) (fun j r hr z hz e => ?_) ⟨HSQ.out.2.1.symm, HSQ.out.2.2.1.symm, g2⟩, (hbr.trans (g1.below.mono hbr.size)).trans g4⟩
              · have hz2 : some bT = some z := hz
                injection hz2 with hz2
                subst hz2
                have := (HQ0.out.nest.own.own_lt _ e).2
                omega
              · have hz2 : some bT = some z := hz
                injection hz2 with hz2
                subst hz2
                have := (HQ0.out.nest.lt hr _ e).2
                omega
            generalize befR (lvF b cs) b (rsL b cs) i = BF at *
            generalize laR (rsL b cs) k = la at *
            generalize aftR (lvF b cs) b (rsL b cs) k = AF at *
            generalize dirC L BF = SOS at *
            have p2 : (mT : Int) + 1 - 1 = mT := by omega
            have p3 : (mT : Int) < (mT : Int) + 1 := by omega
            have p4 : (0 : Int) ≤ (mT : Int) := by omega
            have p5 : IntKind.i64.wrap (mT : Int) = mT := Go.IntWalk.i64_in _ (by omega)
            have p6 : (0 : Int) < (mT : Int) + 1 := by omega
            have hd1 : decide ((q : Int) ≤ (R : Int)) = true := decide_eq_true (by omega)
            clear hT hThd hTla hTne hSQ hC hX t1 hT2 htl hn hq
            go_wp2
            go_region_law (first
              | (go_simp; go_at_call 37; refine (HB1.out _ (by exact hbx.drew)).mono ?_; rintro e z ⟨rfl, rfl⟩)
              | (go_simp; go_at_call 36; refine (HW1.out _).mono ?_; rintro e z ⟨rfl, rfl⟩))
            all_goals
              have hX5 := (HX4.out.sos_ SOS).same ((Below.refl _ _).drew)
              obtain ⟨w5, hw5⟩ : ∃ w5, (wr.setCell ⟨W0.heap.size, 2, none⟩ (.int .i64 SOS)).drew = w5 := ⟨_, rfl⟩
              have hX6 : BoxS W0 W0.heap.size (.slice (some ⟨bT, oT, none⟩) (mT + 1) cX) L SOS 0 T w5 := by rw [← hw5]; exact hX5
              simp only [hw5]
              clear hX5 hw5 e0 e1 e2 e3 fz t1' t2
              have hb5 : Below W2.heap.size W2 w5 := hbr.trans (hX6.below.mono hbr.size)
              obtain ⟨e0, e1, e2, e3, fz⟩ := hX6.cells
              obtain ⟨b1', o1', hA1, _, x1⟩ := (HA.out _ hb5).at_int (k := la) (by have := HN.out; omega)
              injection hA1 with hA1
              injection hA1 with g1 g2
              subst g1; subst g2
              rw [← getD_get] at x1
              have hEO := HSQ.out.2.2.2
              have HX7 := Lib.hid (fun x => hX6.eos_ x)
              generalize cs.getD la 0 = X5 at *
              cases ho : opnC X5 with
              | true =>
                rw [ho, if_pos rfl] at hEO
                have HXI : Hid (∀ u, Calls Try.prog 17 #[.int .i64 X5] u fun e w' => e = .returned (.bool true) ∧ u = w') := Lib.hid fun u => by have := HINI.out X5 u; rwa [ho] at this
                have HW2 : Hid (∀ u, Calls Try.prog 36 #[.int .i64 L, .int .i64 (b : Int)] u fun e w' => e = .returned (.int .i64 (dirC L (b : Int))) ∧ u = w') := Lib.hid fun u => HWAY.out _ _ u ⟨hLb.1, by omega⟩ (by omega)
                have hX8 := HX7.out (dirC L (b : Int))
                have hM6 := (HQ0.out.below hX8.below).nest.own
                have HF2 := Lib.hid (fun w7 v' g1 g2 g3 => HFIN.out _ _ hX8 hEO.symm w7 v' g1 g2 g3)
                have hsz := hX8.below.size
                generalize dirC L (b : Int) = EO at *
                clear hX6 hX8 ho hEO HSQ HX4 HX7 HFIN
                go_wp2_with (first
                  | (go_at_call 37; refine (HB2.out _ hb5).mono ?_; rintro e z ⟨rfl, rfl⟩)
                  | (go_at_call 17; refine (HXI.out _).mono ?_; rintro e z ⟨rfl, rfl⟩)
                  | (go_at_call 36; refine (HW2.out _).mono ?_; rintro e z ⟨rfl, rfl⟩)
                  | (at_builtin; (refine wpList_pushN (R := LQ) rfl _ _ 29 rfl _ Try.underlying29 fullRq rfl (by decide) (by decide) W2.heap.size _ rq ⟨some ⟨bT, oT, none⟩, mT + 1, cX, L, SOS, EO⟩ _ _ rfl hM6 rfl (by show Value.slice (some ⟨w5.heap.size, 0, none⟩) 1 1 = _; simp) (by have := hbr.size; omega) hrq ?_; intro v' w7 hM7 hb7 hfar7)))
                go_roundw
                case rel => exact ⟨i + 1, by omega, by go_num, Lib.hid (HF2.out _ _ hM7 hb7 hfar7)⟩
                case measure => simp [intOf] <;> omega
              | false =>
                rw [ho, if_neg (by decide)] at hEO
                have HXI : Hid (∀ u, Calls Try.prog 17 #[.int .i64 X5] u fun e w' => e = .returned (.bool false) ∧ u = w') := Lib.hid fun u => by have := HINI.out X5 u; rwa [ho] at this
                have HW2 : Hid (∀ u, Calls Try.prog 36 #[.int .i64 L, .int .i64 AF] u fun e w' => e = .returned (.int .i64 (dirC L AF)) ∧ u = w') := Lib.hid fun u => HWAY.out _ _ u ⟨hLb.1, by omega⟩ hab
                have hX8 := HX7.out (dirC L AF)
                have hM6 := (HQ0.out.below hX8.below).nest.own
                have HF2 := Lib.hid (fun w7 v' g1 g2 g3 => HFIN.out _ _ hX8 hEO.symm w7 v' g1 g2 g3)
                have hsz := hX8.below.size
                generalize dirC L AF = EO at *
                clear hX6 hX8 ho hEO HSQ HX4 HX7 HFIN
                go_wp2_with (first
                  | (go_at_call 37; refine (HB2.out _ hb5).mono ?_; rintro e z ⟨rfl, rfl⟩)
                  | (go_at_call 17; refine (HXI.out _).mono ?_; rintro e z ⟨rfl, rfl⟩)
                  | (go_at_call 36; refine (HW2.out _).mono ?_; rintro e z ⟨rfl, rfl⟩)
                  | (at_builtin; (refine wpList_pushN (R := LQ) rfl _ _ 29 rfl _ Try.underlying29 fullRq rfl (by decide) (by decide) W2.heap.size _ rq ⟨some ⟨bT, oT, none⟩, mT + 1, cX, L, SOS, EO⟩ _ _ rfl hM6 rfl (by show Value.slice (some ⟨w5.heap.size, 0, none⟩) 1 1 = _; simp) (by have := hbr.size; omega) hrq ?_; intro v' w7 hM7 hb7 hfar7)))
                go_roundw
                case rel => exact ⟨i + 1, by omega, by go_num, Lib.hid (HF2.out _ _ hM7 hb7 hfar7)⟩
                case measure => simp [intOf] <;> omega
    · obtain rfl : i = R := by omega
      have hq := hQ.reads
      have hD : seqD b cs i = seqL b cs := by rw [← HR.out]; exact seqD_end b cs
      rw [hD] at hq
      go_wp2
      go_ret
      exact ⟨_, rfl, hq, below_trans HBL.out hbr HBL.out.size⟩
end Go.Proofs.Ytjdkpnmejkbkiaa
