/-
  Contract of the program's Of. Condition: at most 1000 classes, a base of at most 1, the levels that these classes have.
-/
import Derived.Test.YtjdkpnmejkbkiaaSqo
import Derived.Deep.RegionLaw
set_option linter.unusedVariables false
set_option linter.unusedSimpArgs false
namespace Go.Proofs.Ytjdkpnmejkbkiaa
open Go.ChangeShapes Go.WideShapes Go.ChangeAt Go.RowKit Go.Sort

theorem fullQ : (Try.prog.info? 36).map (fun i => (i.zero, i.size, i.bytes)) = some (some (.agg #[.slice none 0 0, .int .i64 0, .int .i64 0, .int .i64 0]), LQ.C, 48) := by kernel_rfl
theorem infoCu : (Try.prog.info? 41).map (·.size) = some 2 := by kernel_rfl
theorem OfI.start (b : Nat) (cs : List Int) {W w : World} {V : Value} (hV : Mine .i64 3 w W.heap.size V (List.replicate cs.length (-1))) (hb : Below W.heap.size W w) : OfI W b cs V 0 (.slice none 0 0) w [] (List.replicate cs.length (-1)) :=
  ⟨SqM.nil _ _ _, hV, aw_start, ⟨(apart_nil _).symm, fun i r h => by simp at h⟩, hb⟩
set_option maxRecDepth 20000 in
set_option maxHeartbeats 8000000 in
theorem sof_ok (A AL : Option Addr) (n c cL b : Nat) (cs : List Int) (w : World) (hn : n = cs.length) (hmax : n ≤ 1000) (hb : b ≤ 1) (h : Has w w.heap.size A (cs.map (Value.int .i64))) (hL : Has w w.heap.size AL ((lvs (lvF b cs) n).map (Value.int .i64))) :
    Calls Try.prog 10 #[.slice A n c, .slice AL n cL, .int .i64 (b : Int)] w fun e w' => ∃ v, e = .returned v ∧ ReadsQ w' v (seqL b cs) ∧ Below w.heap.size w w' := by
  have mixed : Try.prog.follows .mixedOrders = true := by kernel_rfl
  have HN := Lib.hid hn
  have HH := Lib.hid (fun (W : World) (hb : Below w.heap.size w W) => (h.below hb).more hb.size)
  have HHL := Lib.hid (fun (W : World) (hb : Below w.heap.size w W) => (hL.below hb).more hb.size)
  have HRU := Lib.hid (sruns_ok A AL n c cL (lvF b cs) cs w hn hmax h hL)
  have HMA := Lib.hid (fun (W : World) (hb : Below w.heap.size w W) => smatches_ok A n c cs W hn hmax ((h.below hb).more hb.size))
  have HRE := Lib.hid (fun (W : World) => repeat_ok W.heap.size n (-1) (W.alloc (.cells #[.int .i64 (-1)] 3)) hmax (by simp) (push_cell W (.int .i64 (-1)) 3 0 _ rfl))
  have hrs : runsF (lvF b cs) (keptL cs n) = rsL b cs := by rw [hn]; rfl
  rw [hrs] at HRU
  have hml : (matL cs).length = n := by rw [mat_len, hn]
  clear hn h hL hrs
  go_enter Try.func10, Try.ntmps10
  go_wp2_with (first
    | (go_at_call 13; (with_reducible refine HRU.out.mono ?_); rintro e w1 ⟨V8, rfl, hM8, hb1⟩)
    | (go_at_call 27; (with_reducible refine (HMA.out w1 hb1).mono ?_); rintro e W2 ⟨V9, rfl, hM9, hb2⟩)
    | (go_at_call 28; (with_reducible refine (HRE.out W2).mono ?_); rintro e w3 ⟨V10, rfl, hV, hb3⟩; obtain ⟨A8, c8, rfl, hc8, _, hh8⟩ := hM8.has; rw [cutsR_len]))
  have hA := HH.out W2 (hb1.trans (hb2.mono hb1.size))
  have hAL := HHL.out W2 (hb1.trans (hb2.mono hb1.size))
  have hC := hh8.carry hb2
  obtain ⟨A9, c9, rfl, hc9, _, hM⟩ := hM9.size
  rw [hml] at hc9
  simp only [hml]
  have hI := OfI.start b cs (W := W2) (w := w3) (V := V10) (by rw [← HN.out]; exact hV.low (by simp)) (((Below.refl _ _).alloc (Nat.le_refl _) _).trans (hb3.mono (by simp)))
  have HBL := Lib.hid (below_trans hb1 hb2 hb1.size)
  clear hh8 hM8 hc8 hM9 hV hb3 HRU HMA HRE HH HHL hb1 hb2
  have hRl : (rsL b cs).length ≤ n := by have := runs_len (lvF b cs) cs cs.length; rw [HN.out]; exact this
  obtain ⟨R, hR⟩ : ∃ R, (rsL b cs).length = R := ⟨_, rfl⟩
  rw [hR] at hRl
  simp only [hR]
  have HR := Lib.hid hR
  have HA := Lib.hid (fun (u : World) (hb : Below W2.heap.size W2 u) => hA.below hb)
  have HAL := Lib.hid (fun (u : World) (hb : Below W2.heap.size W2 u) => hAL.below hb)
  have HC := Lib.hid (fun (u : World) (hb : Below W2.heap.size W2 u) => hC.below hb)
  have HM := Lib.hid (fun (u : World) (hb : Below W2.heap.size W2 u) => hM.below hb)
  have HML := Lib.hid hml
  have HINI := Lib.hid (fun (c : Int) (w : World) => sinitiates_ok c w)
  have HDIR := Lib.hid (fun (a b : Int) (w : World) ha hb => direction_ok a b w ha hb)
  have hC1 := Lib.hid hC
  have hA1 := Lib.hid hA
  have hAL1 := Lib.hid hAL
  clear hA hAL hC hM hml hR
  go_loopw [7, 28] (fun v7 v28 wr => ∃ k : Nat, k ≤ R ∧ v28 = .int .i64 k ∧ Hid (∃ rows aw, OfI W2 b cs V10 k v7 wr rows aw)) (fun _ v28 _ => R - (intOf v28).toNat)
  case atStart => exact ⟨0, by omega, rfl, Lib.hid ⟨_, _, hI⟩⟩
  case round =>
    clear hI
    obtain ⟨k, hkR, rfl, HS⟩ := hrel
    obtain ⟨rows, aw, hI⟩ := HS.out
    clear HS
    by_cases hlt : k < R
    · have hk : k < (rsL b cs).length := by rw [HR.out]; exact hlt
      have hhd : hdR (rsL b cs) k < n := by rw [HN.out]; exact hd_lt hk
      have hla : laR (rsL b cs) k < n := by rw [HN.out]; exact la_lt hk
      have hkep := run_kept (b := b) (cs := cs) hk
      have hhl : hdR (rsL b cs) k ≤ laR (rsL b cs) k := ((rs_x b cs).into k _ (head_in (rs_x b cs) hk)).2
      have hLb := lvF_bnd b cs (by omega) _ (hd_lt hk)
      have hawl : aw.length = n := by rw [hI.awi.len, HN.out]
      have hcells := fun (u : World) (hu : Below W2.heap.size W2 u) => (HC.out u hu).two (cutsR_get (rsL b cs) k hk)
      have HBE : Hid (∀ u, Below W2.heap.size W2 u → Calls Try.prog 30 #[.slice AL n cL, .int .i64 (b : Int), .slice A8 R c8, .int .i64 k] u fun e w' => e = .returned (.int .i64 (befR (lvF b cs) b (rsL b cs) k)) ∧ u = w') := Lib.hid fun u hu =>
        before_ok AL A8 n cL R c8 k b (lvF b cs) (rsL b cs) u HR.out.symm hmax (by omega) hlt (fun j hj => by rw [HN.out]; exact la_lt (by rw [HR.out]; exact hj)) ((HAL.out u hu).more hu.size) ((HC.out u hu).more hu.size)
      have HAF : Hid (∀ u, Below W2.heap.size W2 u → Calls Try.prog 33 #[.slice AL n cL, .int .i64 (b : Int), .slice A8 R c8, .int .i64 k] u fun e w' => e = .returned (.int .i64 (aftR (lvF b cs) b (rsL b cs) k)) ∧ u = w') := Lib.hid fun u hu =>
        after_ok AL A8 n cL R c8 k b (lvF b cs) (rsL b cs) u HR.out.symm hmax (by omega) hlt (fun j hj => by rw [HN.out]; exact hd_lt (by rw [HR.out]; exact hj)) ((HAL.out u hu).more hu.size) ((HC.out u hu).more hu.size)
      obtain ⟨hd, hhdE⟩ : ∃ hd, hdR (rsL b cs) k = hd := ⟨_, rfl⟩
      obtain ⟨la, hlaE⟩ : ∃ la, laR (rsL b cs) k = la := ⟨_, rfl⟩
      obtain ⟨L, hLE⟩ : ∃ L, lvF b cs hd = L := ⟨_, rfl⟩
      rw [hhdE] at hhd hhl hLb hkep hcells
      rw [hlaE] at hla hhl hkep hcells
      rw [hLE] at hLb
      obtain ⟨g10, c10, rfl, hc10, hg10, hg10b⟩ := hI.awm.formB (by omega)
      rw [hawl] at hc10
      simp only [hawl]
      rw [hawl] at hI
      obtain ⟨b8, o8, rfl, hb8, r1, r2⟩ := hcells wr hI.below
      obtain ⟨bL, oL, rfl, hbL, l1⟩ := (HAL.out wr hI.below).at_int (k := hd) (by rw [lvs_len]; exact hhd)
      rw [lvs_get, hLE] at l1
      have a1 := hI.awm.cellAt hd (by omega)
      obtain ⟨z, hz⟩ : ∃ z, aw[hd]'(by omega) = z := ⟨_, rfl⟩
      rw [hz] at a1
      clear hcells
      go_wp2_with (refine wpList_store_at rfl 41 _ _ rfl wr.heap.size _ rfl rfl 41 _ (at_new _ _ _) (by exact infoCu) (by rfl) (by simp [Value.oneCell']) wr ((Up.refl wr).alloc _) (Nat.le_refl _) ?_; intro w4 hat hk4 hs4 hu4)
      have hI4 := hI.same hu4.1
      have l1' := hu4.cell l1
      have a1' := hu4.cell a1
      have c0 : w4.cell? ⟨wr.heap.size, 0, none⟩ = some (.int .i64 (hd : Int)) := hat.cell 0 _ rfl
      have c1 : w4.cell? ⟨wr.heap.size, 1, none⟩ = some (.int .i64 ((la : Int) + 1)) := hat.cell 1 _ rfl
      obtain ⟨A7, c7, hv7, hc7, _, _⟩ := hI.sq.nest.own.has
      have hown7 : u7.ownBlock ≠ some wr.heap.size := fun e => by have := (hI.sq.nest.own.own_lt _ e).2; omega
      have hgz : aw.getD (hdR (rsL b cs) k) 0 = z := by rw [hhdE, List.getD_eq_getElem?_getD, List.getElem?_eq_getElem (by omega), ← hz]; rfl
      have hrl := hI.few (by omega)
      clear hI l1 a1 r1 r2 hz hs4 hk4
      by_cases hz1 : z = -1
      case' pos =>
        subst hz1
        have hbb := bef_bnd b cs hb hk
        subst hv7
        have HD1 : Hid (∀ u, Calls Try.prog 29 #[.int .i64 L, .int .i64 (befR (lvF b cs) b (rsL b cs) k)] u fun e w' => e = .returned (.int .i64 (dirC L (befR (lvF b cs) b (rsL b cs) k))) ∧ u = w') := Lib.hid fun u => HDIR.out _ _ u ⟨hLb.1, by omega⟩ hbb
        have HBG := Lib.hid (fun (w w' : World) (v' : Value) (hIx : OfI W2 b cs (.slice (some ⟨g10, 0, none⟩) n c10) k (.slice A7 rows.length c7) w rows aw) hM hf hbx => hIx.begin (w' := w') (v' := v') hk hgz (y := ⟨none, 0, 0, L, dirC L (befR (lvF b cs) b (rsL b cs) k), 0⟩) (by rw [hhdE, hLE]) hM hf hbx)
        generalize befR (lvF b cs) b (rsL b cs) k = BF at *
        generalize dirC L BF = SOS at *
        have hsz4 : W2.heap.size ≤ w4.heap.size := hI4.below.size
        go_quiet (fail)
        go_wp2_with (first
          | (go_at_call 30; refine (HBE.out _ (below_drewN hI4.below _)).mono ?_; rintro e q ⟨rfl, rfl⟩)
          | (go_at_call 29; refine (HD1.out _).mono ?_; rintro e q ⟨rfl, rfl⟩)
          | (at_builtin; (refine wpList_pushN (R := LQ) rfl _ _ 27 rfl _ Try.underlying27 fullQ rfl (by decide) (by decide) W2.heap.size _ rows ⟨none, 0, 0, L, SOS, 0⟩ _ _ rfl (hI4.sq.nest.own.drewN _) rfl rfl hsz4 (by omega) ?_; intro v' w5 hM5 hb5 hfar5)))
        obtain ⟨g7, c7', hv', hc7', _, _, _⟩ := hM5.form (by simp)
        subst hv'
        obtain ⟨sM, r, x, hOM⟩ := HBG.out _ _ _ (hI4.same (below_drewN (Below.refl _ _) _)) hM5 hfar5 hb5
        have hat5 := At.far (w := w4.drewN nq) hat hfar5 hown7
        clear hM5 hb5 hfar5 hI4 HBG HD1 HBE hat c0 c1
        have hml5 : (rows ++ [(⟨none, 0, 0, L, SOS, 0⟩ : SqR)]).length = rows.length + 1 := by simp
        rw [hml5] at hOM
        simp only [hml5]
        obtain ⟨i, hi⟩ : ∃ i, rows.length = i := ⟨_, rfl⟩
        obtain ⟨m, hm⟩ : ∃ m, rows.length + 1 = m := ⟨_, rfl⟩
        have him : i < m := by omega
        obtain ⟨rows5, hr5⟩ : ∃ rows5, rows ++ [(⟨none, 0, 0, L, SOS, 0⟩ : SqR)] = rows5 := ⟨_, rfl⟩
        obtain ⟨c5, hc5⟩ : ∃ c5, ([] : List Nat) = c5 := ⟨_, rfl⟩
        rw [hm, hi, hr5, hc5] at hOM
        simp only [hm]
        simp only [hi]
        clear hm hi hr5 hc5 hml5 hc7' hc7 hown7 hrl
      case' neg =>
        obtain ⟨i, rfl, him, sM, r, x, c5, hOM⟩ := hI4.found hk hgz hz1
        obtain ⟨g7, c7', hv', _⟩ := hI4.sq.nest.own.form (fun e => by subst e; simp at him)
        rw [hv'] at hv7
        injection hv7 with e1 e2 e3
        subst e1; subst e3
        subst hv'
        have hz1' : ((i : Int) == -1) = false := by simp
        clear hI4 HBE
        go_quiet (fail)
        go_wp2
        have hOM := hOM.same (below_drewN (Below.refl w4.heap.size w4) nq)
        have hat5 : At (w4.drewN nq) wr.heap.size 41 #[.int .i64 (hd : Int), .int .i64 ((la : Int) + 1)] := hat
        clear hat c0 c1
        obtain ⟨m, hm⟩ : ∃ m, rows.length = m := ⟨_, rfl⟩
        rw [hm] at hOM him
        simp only [hm]
        obtain ⟨w5, hw5⟩ : ∃ w5, w4.drewN nq = w5 := ⟨_, rfl⟩
        rw [hw5] at hOM hat5
        simp only [hw5]
        clear hm hw5 hc7 hown7 hrl
      all_goals
        obtain ⟨d0, hI5, hxl⟩ := hOM.here hk
        have c0 : w5.cell? ⟨wr.heap.size, 0, none⟩ = some (.int .i64 (hd : Int)) := hat5.cell 0 _ rfl
        have c1 : w5.cell? ⟨wr.heap.size, 1, none⟩ = some (.int .i64 ((la : Int) + 1)) := hat5.cell 1 _ rfl
        have hb5 := hOM.below
        have HAP : Hid (∀ u, Below w5.heap.size w5 u → Calls Try.prog 31 #[.slice r.A r.n r.c, .slice A n c, .agg #[.int .i64 (hd : Int), .int .i64 ((la : Int) + 1)]] u fun e w' => ∃ v', e = .returned v' ∧ Mine .i64 3 w' W2.heap.size v' (ints (x.pl ++ (rsL b cs).getD k [])) ∧ Below W2.heap.size u w' ∧ FarV u w' r.sl v') := Lib.hid fun u hu => by
          have := appendKept_ok W2.heap.size r.sl x.pl A n c hd (la + 1) cs u HN.out hmax (by omega) (by omega) (by have := HN.out; omega) (by have := hb5.size; have := hu.size; omega) (hI5.below hu) (HA.out u (hb5.trans (hu.mono hb5.size)))
          rw [hkep] at this
          have e1 : ((la + 1 : Nat) : Int) = (la : Int) + 1 := by omega
          rw [e1] at this
          exact this
        have HOM := Lib.hid (fun u (hu : Below w5.heap.size w5 u) => hOM.same hu)
        have i0 : (0 : Int) ≤ (i : Int) := by omega
        have i1 : (i : Int) < (m : Int) := by omega
        have hla2 : (la : Int) + 1 - 1 = la := by omega
        clear hOM hI5 hkep
        go_quiet (fail)
        go_wp2
        go_region_law ((go_simp; go_at_call 31; refine (HAP.out _ (below_drewN (Below.refl _ _) _)).mono ?_; rintro e w6 ⟨v', rfl, hI6, hb6, hf6⟩; obtain ⟨A6, c6, rfl, _, _, _⟩ := hI6.size; obtain ⟨n6, hn6⟩ : ∃ n6, (ints (x.pl ++ (rsL b cs).getD k [])).length = n6 := ⟨_, rfl⟩; simp only [hn6] at hI6 hf6 ⊢; obtain ⟨d6, fz6, hnx6⟩ := (HOM.out _ (below_drewN (Below.refl _ _) _)).next hI6 hf6 hb6))
        all_goals
          obtain ⟨rows7, l7, r7, x7, hG⟩ := hnx6 _ rfl
          clear hnx6 hI6 hb6 hf6 d6 fz6 HAP HOM d0 c0 c1
          obtain ⟨w7, hw7⟩ : ∃ w7, w6.setCell ⟨g7, i * 4, none⟩ (.slice A6 n6 c6) = w7 := ⟨_, rfl⟩
          rw [hw7] at hG
          simp only [hw7]
          clear hw7 hn6
          have hb7 := hG.below
          obtain ⟨e3, fz7⟩ := hG.here
          have hla3 : la < cs.length := by have := HN.out; omega
          obtain ⟨b1, o1, rfl, hb1, k1⟩ := (HA.out _ hb7).at_int hla3
          obtain ⟨b9, o9, rfl, hb9, k9⟩ := (HM.out _ hb7).at_int (k := la) (by rw [HML.out]; exact hla)
          rw [← getD_get] at k1 k9
          have hnx := nx_cases hk
          rw [hlaE] at hnx
          have HEO := Lib.hid (fun hn E hE => hG.eos_ hn (E := E) hE)
          rw [hhdE, hlaE, hLE] at HEO
          generalize cs.getD la 0 = X at *
          generalize (matL cs).getD la 0 = M at *
          rcases hnx with ⟨hX, hn⟩ | ⟨hX, rfl, hn⟩ | ⟨hX, k', hn, rfl, hkk, hkR'⟩
          · have HX : Hid (∀ u, Calls Try.prog 32 #[.int .i64 X] u fun e w' => e = .returned (.bool false) ∧ u = w') := Lib.hid fun u => by have := HINI.out X u; rwa [hX] at this
            have hab := aft_bnd b cs hb hk
            have HE2 := HEO.out hn (dirC L (aftR (lvF b cs) b (rsL b cs) k)) (by rw [hX, if_neg (by decide)])
            have HD2 : Hid (∀ u, Calls Try.prog 29 #[.int .i64 L, .int .i64 (aftR (lvF b cs) b (rsL b cs) k)] u fun e w' => e = .returned (.int .i64 (dirC L (aftR (lvF b cs) b (rsL b cs) k))) ∧ u = w') := Lib.hid fun u => HDIR.out _ _ u ⟨hLb.1, by omega⟩ hab
            generalize aftR (lvF b cs) b (rsL b cs) k = AF at *
            generalize dirC L AF = EO at *
            obtain ⟨rows9, hI9⟩ := HE2
            clear HEO hG hX
            go_wp2_with (first
              | (go_at_call 32; refine (HX.out _).mono ?_; rintro e q ⟨rfl, rfl⟩)
              | (go_at_call 33; refine (HAF.out _ hb7).mono ?_; rintro e q ⟨rfl, rfl⟩)
              | (go_at_call 29; refine (HD2.out _).mono ?_; rintro e q ⟨rfl, rfl⟩))
            go_roundw
            case rel => exact ⟨k + 1, by omega, by go_num, Lib.hid ⟨_, _, hI9⟩⟩
            case measure => simp [intOf] <;> omega
          · have HX : Hid (∀ u, Calls Try.prog 32 #[.int .i64 X] u fun e w' => e = .returned (.bool true) ∧ u = w') := Lib.hid fun u => by have := HINI.out X u; rwa [hX] at this
            have HE2 := HEO.out hn (dirC L (b : Int)) (by rw [hX, if_pos rfl])
            have HD2 : Hid (∀ u, Calls Try.prog 29 #[.int .i64 L, .int .i64 (b : Int)] u fun e w' => e = .returned (.int .i64 (dirC L (b : Int))) ∧ u = w') := Lib.hid fun u => HDIR.out _ _ u ⟨hLb.1, by omega⟩ (by omega)
            generalize dirC L (b : Int) = EO at *
            obtain ⟨rows9, hI9⟩ := HE2
            clear HEO hG hX
            go_wp2_with (first
              | (go_at_call 32; refine (HX.out _).mono ?_; rintro e q ⟨rfl, rfl⟩)
              | (go_at_call 29; refine (HD2.out _).mono ?_; rintro e q ⟨rfl, rfl⟩))
            go_roundw
            case rel => exact ⟨k + 1, by omega, by go_num, Lib.hid ⟨_, _, hI9⟩⟩
            case measure => simp [intOf] <;> omega
          · have HX : Hid (∀ u, Calls Try.prog 32 #[.int .i64 X] u fun e w' => e = .returned (.bool true) ∧ u = w') := Lib.hid fun u => by have := HINI.out X u; rwa [hX] at this
            have hh' : hdR (rsL b cs) k' < aw.length := by rw [hawl, HN.out]; exact hd_lt hkR'
            have hI9 := hG.wait hn hh'
            obtain ⟨z9, a9⟩ : ∃ z9, w7.cell? ⟨g10, hdR (rsL b cs) k', none⟩ = some (.int .i64 z9) := ⟨_, hG.awm.cellAt _ hh'⟩
            have fa9 := hG.awm.free (hdR (rsL b cs) k')
            obtain ⟨h', hh⟩ : ∃ h', hdR (rsL b cs) k' = h' := ⟨_, rfl⟩
            simp only [hh] at hI9 a9 fa9 hh' k9 ⊢
            have hh2 : h' < n := by omega
            have hm1 : ((h' : Int) == -1) = false := by simp <;> omega
            clear HEO hG hX hh hn
            go_wp2_with (go_at_call 32; refine (HX.out _).mono ?_; rintro e q ⟨rfl, rfl⟩)
            go_roundw
            case rel => exact ⟨k + 1, by omega, by go_num, Lib.hid ⟨_, _, hI9⟩⟩
            case measure => simp [intOf] <;> omega
    · obtain rfl : k = R := by omega
      have hq := hI.sq.reads
      go_wp2
      go_ret
      refine ⟨_, rfl, ?_, ?_⟩
      · unfold seqL; rw [HR.out]; exact hq
      · exact below_trans HBL.out hI.below HBL.out.size
end Go.Proofs.Ytjdkpnmejkbkiaa
