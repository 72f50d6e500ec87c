/-
  What a text is shown in: the spans are whole, each begins at a cluster, a cluster of which a font has all is in one that has it; for any spans (at most 20), at most four fonts of at most 100 mappings each and every text of at most 30 code points (of others it says nothing); the arguments stay as they were.
-/
import Derived.Test.YtnpcakeagpbgiaaGreatAza
import Derived.Test.YtnpcakeagpbgiaaGreatZFont
import Derived.Test.YtnpcakeagpbgiaaGreatFya
import Derived.Test.YtnpcakeagpbgiaaGreatZFbq
import Derived.Test.YtnpcakeagpbgiaaGreatFyb
import Derived.Deep.RegionHeld3
set_option linter.unusedVariables false
namespace Go.Proofs.YtnpcakeagpbgiaaGreat.fallbackParts
open Go.ChangeShapes Go.WideShapes Go.ChangeAt Go.RowKit Go.Proofs.YtnpcakeagpbgiaaGreat
theorem own : ownKnob Tryz.prog.godebug = none := by kernel_rfl
theorem laidOut : laidOutB Tryz.prog = true := by kernel_rfl

open Go.Sort
/-- what the program's Has answers of a font among many -/
theorem pfont_facts (A T : Option Addr) (c d m : Nat) (F : List fontS.Dat) (t : List Int) (w : World) (hML : ∀ x ∈ F, (mapsOf x).length ≤ 1000000) (hml : m = t.length) (hm : m ≤ 1000000) (hwf : ∀ z ∈ t, (Lit.int .i32 z).wf = true) (h : Lies w w.heap.size (.sl fontS) ⟨A, c, F⟩) (ht : Has w w.heap.size T (t.map (Value.int .i32))) (k : Nat) (hk : k < F.length) :
    ∃ (b off : Nat) (v0 v1 v2 v3 v4 v5 : Value), A = some ⟨b, off, none⟩ ∧ b < w.heap.size ∧
      (w.cell? ⟨b, off + k * 6, none⟩ = some v0 ∧ w.cell? ⟨b, off + k * 6 + 1, none⟩ = some v1 ∧ w.cell? ⟨b, off + k * 6 + 2, none⟩ = some v2 ∧ w.cell? ⟨b, off + k * 6 + 3, none⟩ = some v3 ∧ w.cell? ⟨b, off + k * 6 + 4, none⟩ = some v4 ∧ w.cell? ⟨b, off + k * 6 + 5, none⟩ = some v5) ∧
      Hid (∀ W, Below w.heap.size w W → Calls Tryz.prog 14 #[.agg #[v0, v1, v2, v3, v4, v5], .slice T m d] W fun e w' => e = .returned (.bool (hasB ((allMaps F).getD k []) t)) ∧ Below W.heap.size W w') := by
  obtain ⟨_, h2, h3⟩ := h
  obtain ⟨b, off, e, hb, hc⟩ := HasN.at_ h2 hk
  have hL := h3 _ (List.getElem_mem hk)
  obtain ⟨v0, v1, v3, v4, v5, A', c', hrow, ⟨g0, g1, g3, g4, g5⟩, _, _⟩ := font_row hL
  have hq : ∀ (q : Nat) (u : Value), [v0, v1, .slice A' (mapsOf F[k]).length c', v3, v4, v5][q]? = some u → w.cell? ⟨b, off + k * 6 + q, none⟩ = some u := fun q u hu => hc q u (by rw [← hrow] at hu; exact hu)
  rw [allMaps_getD F k hk]
  exact ⟨b, off, v0, v1, _, v3, v4, v5, e, hb, ⟨hq 0 _ rfl, hq 1 _ rfl, hq 2 _ rfl, hq 3 _ rfl, hq 4 _ rfl, hq 5 _ rfl⟩,
    Lib.hid (fun W hu => phas_ok F[k] v0 v1 v3 v4 v5 A' T c' _ d m t W hrow (hML _ (List.getElem_mem hk)) hml hm hwf (hL.carry hu) (ht.carry hu) g0 g1 g3 g4 g5)⟩
/-- has one of the first k fonts the cluster? -/
def anyK (G : List (List mapS.Dat)) (us : List Int) (k : Nat) : Bool := (G.take k).any (fun M => hasB M us)
theorem anyK_succ (G : List (List mapS.Dat)) (us : List Int) (k : Nat) (h : k < G.length) : anyK G us (k + 1) = (anyK G us k || hasB (G.getD k []) us) := by
  unfold anyK
  rw [List.take_succ_eq_append_getElem h, List.any_append, List.getD_eq_getElem?_getD, List.getElem?_eq_getElem h]
  simp
theorem anyK_pick {G : List (List mapS.Dat)} {us : List Int} {k : Nat} (h : anyK G us k = true) (p a : Int) : ∃ q : Nat, pickF G p us a = (q : Int) ∧ q < G.length ∧ hasB (G.getD q []) us = true := by
  obtain ⟨M, hM, hh⟩ := List.any_eq_true.1 h
  obtain ⟨j, hj, rfl⟩ := List.getElem_of_mem (List.mem_of_mem_take hM)
  have h2 := pick_has G p us a j hj hh
  rw [hasAt, Bool.and_eq_true] at h2
  obtain ⟨q, hq, hql⟩ := isB_nat h2.1
  exact ⟨q, hq, hql, by have := h2.2; rwa [hq, Int.toNat_natCast] at this⟩
set_option maxRecDepth 20000 in
set_option maxHeartbeats 8000000 in
theorem walk (A0 : Option Addr) (c0 : Nat) (z0 : List (Shp.Dat fontS)) (A1 : Option Addr) (c1 : Nat) (z1 : List Int) (A2 : Option Addr) (c2 : Nat) (z2 : List (Shp.Dat S5.spanS)) (w : World) (h0 : Lies w w.heap.size (.sl fontS) ⟨A0, c0, z0⟩) (n1 : z1.length ≤ 9223372036854775807) (m1 : z1.length ≤ c1) (w1 : ∀ z ∈ z1, (Lit.int .i32 z).wf = true) (h1 : Has w w.heap.size A1 (z1.map (Value.int .i32))) (e1 : A1 = none → c1 = 0) (h2 : Lies w w.heap.size (.sl S5.spanS) ⟨A2, c2, z2⟩) :
    Calls Tryz.prog 4 #[.slice A0 z0.length c0, .slice A1 z1.length c1, .slice A2 z2.length c2] w fun e w' => e = .returned (.bool true) ∧ Below w.heap.size w w' := by
  have mixed : Tryz.prog.follows .mixedOrders = true := by kernel_rfl
  have HMany := Lib.hid (many_ok A0 c0 z0.length z0 w rfl h0.1.1 h0)
  obtain ⟨m, hm⟩ : ∃ m, z1.length = m := ⟨_, rfl⟩
  have hm' := hm.symm
  have hs := S5.HasN.spans h2.2.1
  have hsl : z2.length = (z2.map S5.spOf).length := by simp
  generalize z2.map S5.spOf = sp at *
  have hn2 := h2.1.1
  generalize z2.length = np at *
  clear h2
  cases hb : manyB z0 with
  | true =>
    rw [hb] at HMany
    generalize z0.length = n at *
    rw [hm]
    clear hb hm hm' h0 h1 e1 w1 hs hsl n1 m1
    go_enter Tryz.func4, Tryz.ntmps4
    go_wp2_with (go_at_call 6; (with_reducible refine HMany.out.mono ?_); rintro e w1 ⟨rfl, hu1⟩)
    go_ret
    exact ⟨rfl, hu1.1⟩
  | false =>
    rw [hb] at HMany
    obtain ⟨hn4, hML⟩ := many_no hb
    by_cases hb2 : 30 < m
    · generalize z0.length = n at *
      rw [hm]
      rw [hm] at n1
      clear hb hm hm' h0 h1 e1 w1 hML hs hsl m1
      go_enter Tryz.func4, Tryz.ntmps4
      go_wp2_with (go_at_call 6; (with_reducible refine HMany.out.mono ?_); rintro e w1 ⟨rfl, hu1⟩)
      go_ret
      exact ⟨rfl, hu1.1⟩
    · by_cases hb3 : 20 < np
      · generalize z0.length = n at *
        rw [hm]
        rw [hm] at n1
        clear hb hm hm' h0 h1 e1 w1 hML hs hsl m1
        go_enter Tryz.func4, Tryz.ntmps4
        go_wp2_with (go_at_call 6; (with_reducible refine HMany.out.mono ?_); rintro e w1 ⟨rfl, hu1⟩)
        go_ret
        exact ⟨rfl, hu1.1⟩
      · have HP := Lib.hid (fun W (hu : Below w.heap.size w W) => hm ▸ pof_ok A0 A1 A2 c0 z0.length c1 z1.length c2 np z0 z1 sp W rfl (by omega) hML rfl (by omega) m1 w1 hsl (by omega) (h0.carry hu) (h1.carry hu) (hs.carry hu))
        have HI := Lib.hid (fun W (hu : Below w.heap.size w W) i => hm ▸ is_ok A1 c1 i z1 W (by omega) m1 (h1.carry hu))
        have HB := Lib.hid (fun W (hu : Below w.heap.size w W) => hm ▸ bounds_ok A1 c1 z1 W (by omega) m1 (h1.carry hu))
        have HF := Lib.hid (fun W (hu : Below w.heap.size w W) S d q us (hq : q = us.length) (hq2 : q ≤ 1000000) (hwf : ∀ z ∈ us, (Lit.int .i32 z).wf = true) (hS : Has W W.heap.size S (us.map (Value.int .i32))) k (hk : k < z0.length) => pfont_facts A0 S c0 d q z0 us W hML hq hq2 hwf (h0.carry hu) hS k hk)
        have HWF : Hid (∀ z ∈ z1, (Lit.int .i32 z).wf = true) := Lib.hid w1
        have HT := Lib.hid (fun W (hu : Below w.heap.size w W) => h1.carry hu)
        have hGl : (allMaps z0).length = z0.length := allMaps_len z0
        have HW0 : Hid (S5.wholeB (ofF (allMaps z0) sp z1) (m : Int) = true) := Lib.hid (by have := ofF_whole (allMaps z0) sp z1; rwa [hm] at this)
        have HST := Lib.hid (fun s hs => ofF_start (allMaps z0) sp z1 s hs)
        have HAT := Lib.hid (fun i h => ofF_at (allMaps z0) sp z1 i h)
        have HLO := Lib.hid (ofF_len (allMaps z0) sp z1 30 (by omega))
        have HR := Lib.hid (bnds_rise (cls z1))
        have HBL : Hid (∀ i, i < (bnds (cls z1)).length → (bnds (cls z1)).getD i 0 ≤ m) := Lib.hid (fun i h => by have := bnd_le (cls z1) i h; rwa [cls_len, hm] at this)
        have HM := Lib.hid hm
        have HDF : Hid (∀ i, ahF (allMaps z0) sp z1 (bnds (cls z1)) (i + 1) = pickF (allMaps z0) (S5.atP sp ((bnds (cls z1)).getD i 0 : Nat)) ((z1.take ((bnds (cls z1)).getD (i + 1) 0)).drop ((bnds (cls z1)).getD i 0)) (ahF (allMaps z0) sp z1 (bnds (cls z1)) i)) := Lib.hid (fun i => rfl)
        generalize ahF (allMaps z0) sp z1 (bnds (cls z1)) = AH at *
        generalize ofF (allMaps z0) sp z1 = V at *
        generalize bnds (cls z1) = bl at *
        generalize allMaps z0 = G at *
        generalize z0.length = n at *
        rw [hm]
        have hmc : m ≤ c1 := by omega
        clear hb hm hm' h0 h1 e1 w1 hML hs hsl m1 n1
        have HGL := Lib.hid hGl
        clear hGl
        go_enter Tryz.func4, Tryz.ntmps4
        go_wp2_with (first
          | (go_at_call 6; (with_reducible refine HMany.out.mono ?_); rintro e w1 ⟨rfl, hu1⟩; have q1 := hu1.1)
          | (go_at_call 8; (with_reducible refine (HP.out _ q1).mono ?_); rintro e w2 ⟨v2, rfl, A3, c3, rfl, k2, H2, hq2⟩; have hs2 := q1.trans (hq2.mono q1.size))
          | (go_at_call 10; (refine (S5.whole_ok A3 c3 _ V _ _ rfl (by have := HLO.out; omega) H2).mono ?_); rintro e w3 ⟨rfl, hu3⟩; rw [HW0.out]))
        have HH2 := Lib.hid (fun W (hb : Below w2.heap.size w2 W) => H2.carry hb)
        have HQ := Lib.hid (fun W (hb : Below w2.heap.size w2 W) => hs2.trans (hb.mono hs2.size))
        have hq3 := hu3.1
        obtain ⟨nv, hnv⟩ : ∃ nv, V.length = nv := ⟨_, rfl⟩
        have HNV := Lib.hid hnv
        have hnv30 : nv ≤ 30 := by have := HLO.out; omega
        rw [hnv]
        rw [hnv] at k2
        clear H2 hs2 hq2 hu3 hu1 q1 hnv HP HMany HW0 HLO
        go_loopw [8] (fun v8 wr => ∃ k : Nat, k ≤ nv ∧ v8 = .int .i64 k ∧ Below w2.heap.size w2 wr) (fun v8 _ => nv - (intOf v8).toNat)
        case atStart => exact ⟨0, by omega, rfl, hq3⟩
        case round =>
          clear hq3
          obtain ⟨k, hk, rfl, hbr⟩ := hrel
          by_cases hlt : k < nv
          · have hk1 : k < V.length := by rw [HNV.out]; exact hlt
            obtain ⟨b, off, hA, hb, f0, f1, f2⟩ := (HH2.out wr hbr).at_ hk1
            have HIs := Lib.hid (HST.out _ (List.getElem_mem hk1))
            subst hA
            generalize V[k] = X at *
            have HIk := Lib.hid (HI.out wr (HQ.out wr hbr) X.f)
            obtain ⟨xf, xt, xv⟩ := X
            simp only at f0 f1 f2 HIs HIk
            rw [HIs.out] at HIk
            clear hk1 HIs f1 f2 hb
            go_wp2_with (first
              | (go_at_call 11; (with_reducible refine HIk.out.mono ?_); rintro e w4 ⟨rfl, hu4⟩; have q4 := hbr.trans (hu4.1.mono hbr.size)))
            go_roundw
            case rel => exact ⟨k + 1, by omega, by go_num, q4⟩
            case measure => simp [intOf]; omega
          · have HBw := Lib.hid (HB.out wr (HQ.out wr hbr))
            clear HST HI HB
            go_wp2_with (first
              | (go_at_call 12; (with_reducible refine HBw.out.mono ?_); rintro e w5 ⟨v5, rfl, A5, c5, rfl, ⟨k5, _⟩, H5, hq5⟩))
            rw [zb_len] at k5 ⊢
            have HQ5 : Hid (∀ W, Below w5.heap.size w5 W → Below w2.heap.size w2 W) := Lib.hid (fun W hb => hbr.trans ((hq5.trans (hb.mono hq5.size)).mono hbr.size))
            have HB5 := Lib.hid (fun W (hb : Below w5.heap.size w5 W) => H5.carry hb)
            obtain ⟨nb, hnb⟩ : ∃ nb, bl.length = nb := ⟨_, rfl⟩
            have HNB := Lib.hid hnb
            have hnb1 : nb ≤ 31 := by
              rcases Nat.eq_zero_or_pos nb with h0 | h0
              · omega
              · have h6 : ∀ i, i < nb → i ≤ bl.getD i 0 := fun i => by
                  induction i with
                  | zero => intro _; omega
                  | succ i ih => intro hi; have := ih (by omega); have := HR.out.2 i (by omega); omega
                have h7 := h6 (nb - 1) (by omega)
                have h8 := HBL.out (nb - 1) (by omega)
                omega
            rw [hnb] at k5 ⊢
            clear H5 hq5 hnb hbr HBw hlt hk
            go_loopw [10] (fun v10 wr => ∃ j : Nat, (j < nb ∨ (nb = 0 ∧ j = 0)) ∧ v10 = .int .i64 ((j : Int) + 1) ∧ Below w5.heap.size w5 wr) (fun v10 _ => nb + 1 - (intOf v10).toNat)
            case atStart => exact ⟨0, by omega, rfl, Below.refl _ _⟩
            case round =>
              obtain ⟨j, hj, rfl, hbr⟩ := hrel
              by_cases hlt : j + 1 < nb
              · have hl0 : j < bl.length := by rw [HNB.out]; omega
                have hl1 : j + 1 < bl.length := by rw [HNB.out]; omega
                obtain ⟨b, off, hA1, hb1, hc0⟩ := (HB5.out w5 (Below.refl _ _)).at_int (k := j) (by rw [zb_len]; exact hl0)
                obtain ⟨b', off', hA2, hb2', hc2⟩ := (HB5.out w5 (Below.refl _ _)).at_int (k := j + 1) (by rw [zb_len]; exact hl1)
                subst hA1
                cases hA2
                rw [zb_getD bl j hl0] at hc0
                rw [zb_getD bl (j + 1) hl1] at hc2
                have hXY := HR.out.2 j hl1
                have hYm := HBL.out (j + 1) hl1
                have hATj := HAT.out j hl1
                have hDFj := HDF.out j
                obtain ⟨X, hX⟩ : ∃ X, bl.getD j 0 = X := ⟨_, rfl⟩
                obtain ⟨Y, hY⟩ : ∃ Y, bl.getD (j + 1) 0 = Y := ⟨_, rfl⟩
                rw [hX] at hc0 hXY hATj hDFj
                rw [hY] at hc2 hXY hYm hDFj
                obtain ⟨a1, ha1⟩ : ∃ a1, AH (j + 1) = a1 := ⟨_, rfl⟩
                rw [ha1] at hATj hDFj
                have HC0 : Hid (∀ W, Below w5.heap.size w5 W → W.cell? ⟨b, off + j, none⟩ = some (.int .i64 (X : Int))) := Lib.hid (fun W hb => (hb.cell (p := ⟨b, off + j, none⟩) hb1).trans hc0)
                have HC2 : Hid (∀ W, Below w5.heap.size w5 W → W.cell? ⟨b, off + (j + 1), none⟩ = some (.int .i64 (Y : Int))) := Lib.hid (fun W hb => (hb.cell (p := ⟨b, off + (j + 1), none⟩) hb1).trans hc2)
                have hQ0 := HQ.out w5 (HQ5.out w5 (Below.refl _ _))
                obtain ⟨bt, offt, hTe, hbt, ht0⟩ := (HT.out w5 hQ0).at_int (k := 0) (by rw [HM.out]; omega)
                subst hTe
                have hsl := fun W => slice32 bt offt m c1 X Y hXY (by omega) W
                have HPH := Lib.hid (fun W (hb : Below w.heap.size w W) => part_has (HT.out W hb) X Y)
                have hql : Y - X = ((z1.take Y).drop X).length := (part_len z1 X Y (by rw [HM.out]; exact hYm)).symm
                have HWU : Hid (∀ z ∈ (z1.take Y).drop X, (Lit.int .i32 z).wf = true) := Lib.hid (fun z hz => HWF.out z (List.mem_of_mem_take (List.mem_of_mem_drop hz)))
                generalize (z1.take Y).drop X = us at *
                have HQL := Lib.hid hql
                have HDFj := Lib.hid hDFj
                have hAtC := fun W (hb : Below w5.heap.size w5 W) => S5.at_ok A3 c3 nv V (X : Int) W (by rw [HNV.out]) (by omega) (HH2.out W (HQ5.out W hb))
                rw [hATj] at hAtC
                have HAtC := Lib.hid hAtC
                have hbb := Nat.lt_of_lt_of_le hb1 hbr.size
                have k0 := HC0.out wr hbr
                have k2' := HC2.out wr hbr
                have hbr1 := hbr
                have ks : IntKind.i64.wrap ((j : Int) + 1 - 1) = (j : Int) := by rw [IntWalk.i64_in _ (by omega)]; omega
                have ks2 : IntKind.i64.wrap (j : Int) = (j : Int) := IntWalk.i64_in _ (by omega)
                have kt : ((j : Int) + 1).toNat = j + 1 := by omega
                have kz : (0 : Int) ≤ (j : Int) + 1 := by omega
                have kl : (j : Int) + 1 < (nb : Int) := by omega
                have kz' : (0 : Int) ≤ (j : Int) := by omega
                have kl' : (j : Int) < (nb : Int) := by omega
                clear hc0 hc2 hb2' hX hY hl0 hl1 hATj hDFj ha1 ht0 hbt hql hAtC hQ0 HAT HDF HR HBL
                go_wp2_with (first
                  | (go_at_call 13; (with_reducible refine (HAtC.out _ hbr1).mono ?_); rintro e w6 ⟨rfl, hu6⟩; have q6 := hbr.trans (hu6.1.mono hbr.size)))
                have HFK := Lib.hid (fun k (hk : k < n) => HF.out w5 (HQ.out w5 (HQ5.out w5 (Below.refl _ _))) (some ⟨bt, offt + X, none⟩) (c1 - X) (Y - X) us HQL.out (by omega) HWU.out (HPH.out w5 (HQ.out w5 (HQ5.out w5 (Below.refl _ _)))) k hk)
                clear HPH HAtC hu6 hbr1 k0 k2' hbb
                go_loopw [12, 13] (fun v12 v13 wq => ∃ k : Nat, k ≤ n ∧ v13 = .int .i64 k ∧ v12 = .bool (anyK G us k) ∧ Below w5.heap.size w5 wq) (fun _ v13 _ => n - (intOf v13).toNat)
                case atStart => exact ⟨0, by omega, rfl, rfl, q6⟩
                case round =>
                  clear q6 hbr
                  obtain ⟨k, hk, rfl, rfl, hur⟩ := hrel
                  have HCW := Lib.hid (fun W (hc : Below wr.heap.size wr W) => (hur.trans (hc.mono hur.size) : Below w5.heap.size w5 W))
                  by_cases hkn : k < n
                  · have HAS := Lib.hid (anyK_succ G us k (by rw [HGL.out]; exact hkn))
                    obtain ⟨bf, offf, v0, v1, v2, v3, v4, v5, hAf, hbf, ⟨f0, f1, f2, f3, f4, f5⟩, HH⟩ := HFK.out k hkn
                    subst hAf
                    have HCE := Lib.hid (fun W (hc : Below wr.heap.size wr W) => (⟨((HCW.out W hc).cell (p := ⟨bf, offf + k * 6, none⟩) hbf).trans f0, ((HCW.out W hc).cell (p := ⟨bf, offf + k * 6 + 1, none⟩) hbf).trans f1, ((HCW.out W hc).cell (p := ⟨bf, offf + k * 6 + 2, none⟩) hbf).trans f2, ((HCW.out W hc).cell (p := ⟨bf, offf + k * 6 + 3, none⟩) hbf).trans f3, ((HCW.out W hc).cell (p := ⟨bf, offf + k * 6 + 4, none⟩) hbf).trans f4, ((HCW.out W hc).cell (p := ⟨bf, offf + k * 6 + 5, none⟩) hbf).trans f5, HC0.out _ (HCW.out W hc), HC2.out _ (HCW.out W hc)⟩ :
                      W.cell? ⟨bf, offf + k * 6, none⟩ = some v0 ∧ W.cell? ⟨bf, offf + k * 6 + 1, none⟩ = some v1 ∧ W.cell? ⟨bf, offf + k * 6 + 2, none⟩ = some v2 ∧ W.cell? ⟨bf, offf + k * 6 + 3, none⟩ = some v3 ∧ W.cell? ⟨bf, offf + k * 6 + 4, none⟩ = some v4 ∧ W.cell? ⟨bf, offf + k * 6 + 5, none⟩ = some v5 ∧ W.cell? ⟨b, off + j, none⟩ = some (.int .i64 (X : Int)) ∧ W.cell? ⟨b, off + (j + 1), none⟩ = some (.int .i64 (Y : Int))))
                    generalize hasB (G.getD k []) us = hq at *
                    generalize anyK G us k = ak at *
                    clear f0 f1 f2 f3 f4 f5 hbf hur HFK
                    cases ak with
                    | true =>
                      have HE := Lib.hid HAS.out
                      simp only [Bool.true_or] at HE
                      clear HAS HCE HH
                      go_wp2
                      refine wp_region_quiet_grown mixed (by kernel_rfl) ?_
                      repeat (go_big_quiet_step (fail))
                      refine wpQuiet_nil ?_
                      intro _ hw'
                      obtain ⟨⟨nq, osq⟩, hw''⟩ := hw'
                      subst hw''
                      have HCX := Lib.hid (HCW.out _ (Up.of_grow _ nq osq).1)
                      clear HCW
                      go_wp2
                      go_roundw
                      case rel => exact ⟨k + 1, by omega, by go_num, by rw [HE.out], HCX.out⟩
                      case measure => simp [intOf]; omega
                    | false =>
                      have HE := Lib.hid HAS.out
                      simp only [Bool.false_or] at HE
                      clear HAS
                      go_wp2
                      have hc : Below wr.heap.size wr wr.drew := (Below.refl _ _).drew
                      obtain ⟨y0, y1, y2, y3, y4, y5, y6, y7⟩ := HCE.out _ (Below.refl _ _)
                      go_region_held3 (fun w' => w'.cell? ⟨bf, offf + k * 6, none⟩ = some v0 ∧ w'.cell? ⟨bf, offf + k * 6 + 1, none⟩ = some v1 ∧ w'.cell? ⟨bf, offf + k * 6 + 2, none⟩ = some v2 ∧ w'.cell? ⟨bf, offf + k * 6 + 3, none⟩ = some v3 ∧ w'.cell? ⟨bf, offf + k * 6 + 4, none⟩ = some v4 ∧ w'.cell? ⟨bf, offf + k * 6 + 5, none⟩ = some v5 ∧ w'.cell? ⟨b, off + j, none⟩ = some (.int .i64 (X : Int)) ∧ w'.cell? ⟨b, off + (j + 1), none⟩ = some (.int .i64 (Y : Int)))
                        (first | go_keep | exact HCE.out _ hc)
                        (first | (go_at_call 14; (with_reducible refine (HH.out _ (HCW.out _ hc)).mono ?_); rintro e u ⟨rfl, hu⟩; have hc := below_trans hc hu hc.size))
                      all_goals
                        have HCX := Lib.hid (HCW.out _ hc)
                        clear hc HCW HCE HH
                        go_wp2
                        go_roundw
                        case rel => exact ⟨k + 1, by omega, by go_num, by rw [HE.out], HCX.out⟩
                        case measure => simp [intOf]; omega
                  · obtain rfl : k = n := by omega
                    cases hak : anyK G us k with
                    | false =>
                      clear hak HFK hur
                      go_wp2
                      refine wp_region_quiet_grown mixed (by kernel_rfl) ?_
                      repeat (go_big_quiet_step (fail))
                      refine wpQuiet_nil ?_
                      intro _ hw'
                      obtain ⟨⟨nq, osq⟩, hw''⟩ := hw'
                      subst hw''
                      have HCX := Lib.hid (HCW.out _ (Up.of_grow _ nq osq).1)
                      clear HCW
                      go_wp2
                      go_roundw
                      case rel => exact ⟨j + 1, by omega, by go_num, HCX.out⟩
                      case measure => simp [intOf]; omega
                    | true =>
                      obtain ⟨q, hpe, hql, hqh⟩ := anyK_pick hak (S5.atP sp (X : Int)) (AH j)
                      have hq1 : a1 = (q : Int) := by rw [HDFj.out]; exact hpe
                      rw [HGL.out] at hql
                      obtain ⟨bf, offf, v0, v1, v2, v3, v4, v5, hAf, hbf, ⟨f0, f1, f2, f3, f4, f5⟩, HH⟩ := HFK.out q hql
                      subst hAf
                      have HCE := Lib.hid (fun W (hc : Below wr.heap.size wr W) => (⟨((HCW.out W hc).cell (p := ⟨bf, offf + q * 6, none⟩) hbf).trans f0, ((HCW.out W hc).cell (p := ⟨bf, offf + q * 6 + 1, none⟩) hbf).trans f1, ((HCW.out W hc).cell (p := ⟨bf, offf + q * 6 + 2, none⟩) hbf).trans f2, ((HCW.out W hc).cell (p := ⟨bf, offf + q * 6 + 3, none⟩) hbf).trans f3, ((HCW.out W hc).cell (p := ⟨bf, offf + q * 6 + 4, none⟩) hbf).trans f4, ((HCW.out W hc).cell (p := ⟨bf, offf + q * 6 + 5, none⟩) hbf).trans f5, HC0.out _ (HCW.out W hc), HC2.out _ (HCW.out W hc)⟩ :
                        W.cell? ⟨bf, offf + q * 6, none⟩ = some v0 ∧ W.cell? ⟨bf, offf + q * 6 + 1, none⟩ = some v1 ∧ W.cell? ⟨bf, offf + q * 6 + 2, none⟩ = some v2 ∧ W.cell? ⟨bf, offf + q * 6 + 3, none⟩ = some v3 ∧ W.cell? ⟨bf, offf + q * 6 + 4, none⟩ = some v4 ∧ W.cell? ⟨bf, offf + q * 6 + 5, none⟩ = some v5 ∧ W.cell? ⟨b, off + j, none⟩ = some (.int .i64 (X : Int)) ∧ W.cell? ⟨b, off + (j + 1), none⟩ = some (.int .i64 (Y : Int))))
                      rw [hqh] at HH
                      have z0' : decide ((q : Int) < 0) = false := decide_eq_false (by omega)
                      have z1' : decide ((k : Int) ≤ (q : Int)) = false := decide_eq_false (by omega)
                      have z2' : ¬ k ≤ q := by omega
                      have z3' : (0 : Int) ≤ (q : Int) := by omega
                      subst hq1
                      clear f0 f1 f2 f3 f4 f5 hbf hur HFK hak hqh hpe HDFj
                      go_wp2
                      have hc : Below wr.heap.size wr wr.drew := (Below.refl _ _).drew
                      obtain ⟨y0, y1, y2, y3, y4, y5, y6, y7⟩ := HCE.out _ (Below.refl _ _)
                      go_region_held3 (fun w' => w'.cell? ⟨bf, offf + q * 6, none⟩ = some v0 ∧ w'.cell? ⟨bf, offf + q * 6 + 1, none⟩ = some v1 ∧ w'.cell? ⟨bf, offf + q * 6 + 2, none⟩ = some v2 ∧ w'.cell? ⟨bf, offf + q * 6 + 3, none⟩ = some v3 ∧ w'.cell? ⟨bf, offf + q * 6 + 4, none⟩ = some v4 ∧ w'.cell? ⟨bf, offf + q * 6 + 5, none⟩ = some v5 ∧ w'.cell? ⟨b, off + j, none⟩ = some (.int .i64 (X : Int)) ∧ w'.cell? ⟨b, off + (j + 1), none⟩ = some (.int .i64 (Y : Int)))
                        (first | go_keep | exact HCE.out _ hc)
                        (first | (go_at_call 14; (with_reducible refine (HH.out _ (HCW.out _ hc)).mono ?_); rintro e u ⟨rfl, hu⟩; have hc := below_trans hc hu hc.size))
                      all_goals
                        have HCX := Lib.hid (HCW.out _ hc)
                        clear hc HCW HCE HH
                        go_wp2
                        go_roundw
                        case rel => exact ⟨j + 1, by omega, by go_num, HCX.out⟩
                        case measure => simp [intOf]; omega
              · clear HF HAT HDF
                go_wp2
                go_ret
                exact ⟨rfl, HQ.out _ (HQ5.out _ hbr)⟩

set_option maxRecDepth 100000 in
theorem lifted (os : Os) (started : os.Started) (H : Type) (enc : TypeId × Value → H) :
    ReturnsInHanded {} Tryz.checked os 4 .any (Rows.fallbackPartsSpec.pre6 enc Tryz.prog Tryz.f4 Rows.fallbackPartsRow.domain false) (Rows.fallbackPartsSpec.post enc Tryz.prog Tryz.f4 false true false false) := by
  refine returnsInHanded_of_change (C := Tryz.checked) own started (by kernel_rfl) Tryz.func4
    (ChangeSpec.witness6 (enc := enc) (C := Tryz.checked) false ⟨#[], #[.slice none 0 0, .slice none 0 0, .slice none 0 0], []⟩ 8 (by kernel_rfl) (by kernel_rfl) (by kernel_rfl) (by kernel_rfl)) ?_
  intro W base args ds gs before hval0 hW hcnd _
  have hval : ∀ (j : Nat) t v, Tryz.f4.params[j]? = some t → args[j]? = some v → Value.okWide Tryz.prog W .any base t v := hval0
  have hW' := hW
  obtain ⟨p, q, hA0, hV, rfl, hfz, hnd⟩ := hW
  have hA : DataW.TrodAll enc Tryz.prog W 0 (fun _ => true) true Tryz.f4.params.toList args.toList ds p := hA0
  rw [Tryz.params4] at hA hval
  obtain ⟨v0, vs0, d0, ds0, p0, q0, hargs, rfl, rfl, h0, r0⟩ := trodAll_cons hA
  obtain ⟨v1, vs1, d1, ds1, p1, q1, rfl, rfl, rfl, h1, r1⟩ := trodAll_cons r0
  obtain ⟨v2, vs2, d2, ds2, p2, q2, rfl, rfl, rfl, h2, r2⟩ := trodAll_cons r1
  obtain ⟨rfl, rfl, rfl⟩ := trodAll_nil r2
  obtain rfl : args = #[v0, v1, v2] := by cases args; simp_all
  obtain ⟨rfl, rfl⟩ := trodVars_none hV
  clear hA0 hval0
  have hlt : ∀ x ∈ p0 ++ (p1 ++ (p2 ++ [])), x.block < W.heap.size := fun x hx => by simpa using hW'.lt x (List.mem_append_left _ hx)
  have k0 := h0
  have k1 := h1
  have k2 := h2
  obtain ⟨A0, l0, c0, rfl⟩ := okWide_slice Tryz.underlying22 (hval 0 22 v0 rfl rfl)
  obtain ⟨z0, rfl, hh0⟩ := seen_list fontS (by kernel_rfl) h0 (fun x hx => hlt x (List.mem_append_left _ hx))
  obtain ⟨A1, l1, c1, rfl⟩ := okWide_slice Tryz.underlying23 (hval 1 23 v1 rfl rfl)
  obtain ⟨z1, rfl, n1, m1, w1, hh1⟩ := has_ints Tryz.underlying23 Tryz.underlying21 (by kernel_rfl) h1 (fun x hx => hlt x (List.mem_append_right _ (List.mem_append_left _ hx)))
  have e1 := none_cap Tryz.underlying23 Tryz.underlying21 (by kernel_rfl) k1
  obtain ⟨A2, l2, c2, rfl⟩ := okWide_slice Tryz.underlying24 (hval 2 24 v2 rfl rfl)
  obtain ⟨z2, rfl, hh2⟩ := seen_list S5.spanS (by kernel_rfl) h2 (fun x hx => hlt x (List.mem_append_right _ (List.mem_append_right _ (List.mem_append_left _ hx))))
  refine (walk A0 c0 z0 A1 c1 z1 A2 c2 z2 W hh0 n1 m1 w1 hh1 e1 hh2).mono fun e W' ⟨he, hb⟩ => ?_
  subst he
  exact ⟨_, rfl, _, _, _, [], _, [], hW', (trodAll_cons_mk (shut_bool Tryz.underlying4 _) trodAll_mk0), (trodAll_cons_mk (Below.trod laidOut (by kernel_rfl) (of_decide_eq_true (by kernel_rfl)) k0 hb (fun x hx => hlt x (List.mem_append_left _ hx))) (trodAll_cons_mk (Below.trod laidOut (by kernel_rfl) (of_decide_eq_true (by kernel_rfl)) k1 hb (fun x hx => hlt x (List.mem_append_right _ (List.mem_append_left _ hx)))) (trodAll_cons_mk (Below.trod laidOut (by kernel_rfl) (of_decide_eq_true (by kernel_rfl)) k2 hb (fun x hx => hlt x (List.mem_append_right _ (List.mem_append_right _ (List.mem_append_left _ hx))))) trodAll_mk0))), rfl, hb.frame _, fun h => by cases h⟩

theorem over : Rows.fallbackPartsRow.holds Tryz.pinned (OpenSpec.ofChange Rows.fallbackPartsSpec) :=
  OpenClaim.holds_of_wide 4 Tryz.f4 rfl rfl rfl rfl rfl rfl rfl ⟨rfl, rfl, rfl, rfl, rfl⟩ rfl rfl rfl rfl rfl (by kernel_rfl) Tryz.func4 (by kernel_rfl)
    (of_decide_eq_true (by kernel_rfl)) (by unfold Func.isWrapper; first | (rw [if_pos (by decide +kernel)]; kernel_rfl) | (rw [if_neg (by decide +kernel)]; exact ⟨rfl, rfl⟩))
    (fun os started H enc _ => lifted os started H enc)

/-- the statement -/
theorem proved : Rows.FallbackPartsSaid :=
  over
#print axioms proved
end Go.Proofs.YtnpcakeagpbgiaaGreat.fallbackParts
