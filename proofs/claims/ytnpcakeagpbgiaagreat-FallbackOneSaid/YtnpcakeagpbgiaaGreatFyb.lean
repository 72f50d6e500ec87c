/-
  The contract of the statements' many of layer 23: are there too many fonts, or mappings? No condition but the greatest length of a slice.
-/
import Derived.Test.YtnpcakeagpbgiaaGreatZFbp
import Derived.Test.YtnpcakeagpbgiaaGreatZCuts
import Derived.Test.YtnpcakeagpbgiaaGreatSza
set_option linter.unusedVariables false
set_option linter.unusedSimpArgs false
namespace Go.Proofs.YtnpcakeagpbgiaaGreat
open Go.ChangeShapes Go.WideShapes Go.ChangeAt Go.RowKit Go.Sort

/-- are there too many fonts, or mappings? -/
def manyB (F : List fontS.Dat) : Bool := decide (4 < F.length) || F.any (fun x => decide (100 < (mapsOf x).length))
theorem many_no {F : List fontS.Dat} (h : manyB F = false) : F.length ≤ 4 ∧ ∀ x ∈ F, (mapsOf x).length ≤ 1000000 := by
  simp only [manyB, Bool.or_eq_false_iff, decide_eq_false_iff_not, List.any_eq_false, decide_eq_true_eq] at h
  exact ⟨by omega, fun x hx => by have := h.2 x hx; omega⟩
set_option maxHeartbeats 1000000 in
theorem many_ok (A : Option Addr) (c n : Nat) (F : List fontS.Dat) (w : World) (hnl : n = F.length) (hn : n ≤ 9223372036854775807) (h : Lies w w.heap.size (.sl fontS) ⟨A, c, F⟩) :
    Calls Tryz.prog 6 #[.slice A n c] w fun e w' => e = .returned (.bool (manyB F)) ∧ Up w w' := by
  by_cases h4 : 4 < n
  · have e1 : manyB F = true := by simp [manyB, ← hnl, h4]
    rw [e1]
    clear e1 h
    go_enter Tryz.func6, Tryz.ntmps6
    go_wp2
    go_ret
    exact ⟨rfl, Up.refl _⟩
  · have HV : Hid (manyB F = F.any (fun x => decide (100 < (mapsOf x).length))) := Lib.hid (by simp [manyB, ← hnl, h4])
    generalize manyB F = V at *
    have HF := Lib.hid (fun k (hk : k < F.length) => font_at h k hk)
    have HLen : Hid (n = F.length) := Lib.hid hnl
    have HW : Hid (∀ x ∈ F, (mapsOf x).length ≤ 9223372036854775807) := Lib.hid (fun x hx => (h.2.2 x hx).2.2.1.1.1)
    clear h hnl
    go_enter Tryz.func6, Tryz.ntmps6
    go_wp2
    go_loopw [3] (fun i wr => ∃ k : Nat, k ≤ n ∧ i = .int .i64 k ∧ Hid (∀ j (hj : j < F.length), j < k → (mapsOf F[j]).length ≤ 100) ∧ wr = w) (fun i _ => n - (intOf i).toNat)
    case atStart => exact ⟨0, by omega, rfl, Lib.hid (fun j hj h0 => absurd h0 (by omega)), rfl⟩
    case round =>
      obtain ⟨k, hk, rfl, HN, rfl⟩ := hrel
      by_cases hlt : k < n
      · have hlt1 : k < F.length := by rw [← HLen.out]; exact hlt
        obtain ⟨b, off, v0, v1, v3, v4, v5, A', c', rfl, hb, ⟨k0, k1, k2, k3, k4, k5⟩, kv, kh⟩ := HF.out k hlt1
        have HS : Hid ((mapsOf F[k]).length ≤ 100 → ∀ j (hj : j < F.length), j < k + 1 → (mapsOf F[j]).length ≤ 100) := Lib.hid (fun h j hj hjk => by
          by_cases he : j = k
          · subst he; exact h
          · exact HN.out j hj (by omega))
        have HY : Hid (100 < (mapsOf F[k]).length → V = true) := Lib.hid (fun h => by
          rw [HV.out, List.any_eq_true]
          exact ⟨_, List.getElem_mem hlt1, decide_eq_true h⟩)
        have hlw := HW.out _ (List.getElem_mem hlt1)
        generalize (mapsOf F[k]).length = q at *
        clear k0 k1 k3 k4 k5 kv kh hlt1 HN HF
        by_cases hq : 100 < q
        · have HE := Lib.hid (HY.out hq)
          clear HY HS
          go_wp2
          go_ret
          exact ⟨by rw [HE.out]; rfl, Up.refl _⟩
        · have HE := Lib.hid (HS.out (by omega))
          clear HY HS
          go_wp2
          go_roundw
          case rel => exact ⟨k + 1, by omega, by go_num, HE, by trivial⟩
          case measure => simp [intOf]; omega
      · obtain rfl : k = n := by omega
        have HE : Hid (V = false) := Lib.hid (by
          rw [HV.out, List.any_eq_false]
          intro x hx
          obtain ⟨j, hj, rfl⟩ := List.getElem_of_mem hx
          have := HN.out j hj (by rw [HLen.out]; exact hj)
          simp; exact this)
        go_wp2
        go_ret
        exact ⟨by rw [HE.out]; rfl, Up.refl _⟩
end Go.Proofs.YtnpcakeagpbgiaaGreat

/-
  Contracts of the document's Of of layer 23. Conditions: at most 1000 code points and spans.
-/
set_option linter.unusedVariables false
set_option linter.unusedSimpArgs false
namespace Go.Proofs.YtnpcakeagpbgiaaGreat
open Go.ChangeShapes Go.WideShapes Go.ChangeAt Go.RowKit Go.Sort

/-- a part of a text -/
theorem slice32 (bt offt n c a b : Nat) (hab : a < b) (hb : b ≤ c) (W : World) : (Instr.slice 23 (.slice (some ⟨bt, offt, none⟩) n c) (some (.int .i64 (a : Int))) (some (.int .i64 (b : Int))) none).run Tryz.prog W = .ok (.slice (some ⟨bt, offt + a, none⟩) (b - a) (c - a)) W := by
  rw [run_slice_lh (P := Tryz.prog) W 23 _ n c (by kernel_rfl) .i64 .i64 a b (by omega) (by omega) (by omega)]
  have hs : (sizeOf (Tryz.prog.elem 23)).run Tryz.prog W = .ok 1 W := by kernel_rfl
  rw [hs]
  simp [Result.andThen, sliced]
  rw [if_neg (by omega)]
  simp [Addr.add]

theorem zb_getD (l : List Nat) (i : Nat) (h : i < l.length) : (zb l)[i]'(by rw [zb_len]; exact h) = (l.getD i 0 : Int) := by
  rw [zb_get l i h, List.getD_eq_getElem?_getD, List.getElem?_eq_getElem h]; rfl
theorem bnd_le (L : List Int) (i : Nat) (h : i < (bnds L).length) : (bnds L).getD i 0 ≤ L.length := by
  rw [List.getD_eq_getElem?_getD, List.getElem?_eq_getElem h]
  exact (mem_bnds.1 (List.getElem_mem h)).1
theorem part_len (t : List Int) (a b : Nat) (h : b ≤ t.length) : ((t.take b).drop a).length = b - a := by simp; omega
theorem part_has {w : World} {B bt offt : Nat} {t : List Int} (h : Has w B (some ⟨bt, offt, none⟩) (t.map (Value.int .i32))) (a b : Nat) : Has w B (some ⟨bt, offt + a, none⟩) (((t.take b).drop a).map (Value.int .i32)) := by
  rw [List.map_drop, List.map_take]
  exact (h.front b).drop a
theorem pvF_big {F : List (List mapS.Dat)} {sp : List S5.Sp} {t : List Int} {L : List Int} (i : Nat) (h : i < (bnds L).length) : (pvF F sp t (bnds L) i).length ≤ L.length := by
  rw [pvF_len (bnds_rise L) i h]; exact bnd_le L i h

set_option maxRecDepth 20000 in
set_option maxHeartbeats 4000000 in
theorem rof23_ok (A T P : Option Addr) (c n d m dp np : Nat) (F : List fontS.Dat) (t : List Int) (sp : List S5.Sp) (w : World) (hnl : n = F.length) (hn : n ≤ 1000000) (hML : ∀ x ∈ F, (mapsOf x).length ≤ 1000000) (hml : m = t.length) (hm : m ≤ 1000) (hmd : m ≤ d) (hpl : np = sp.length) (hnp : np ≤ 1000)
    (h : Lies w w.heap.size (.sl fontS) ⟨A, c, F⟩) (ht : Has w w.heap.size T (t.map (Value.int .i32))) (hs : S5.HasS w w.heap.size P sp) :
    Calls Tryz.prog 9 #[.slice A n c, .slice T m d, .slice P np dp] w fun e w' => S5.SpansOf w w' e (ofF (allMaps F) sp t) := by
  have mixed : Tryz.prog.follows .mixedOrders = true := by kernel_rfl
  have HB := Lib.hid (show Calls Tryz.prog 20 #[.slice T m d] w _ from hml ▸ rbounds_ok T d t w (by omega) (by omega) ht)
  have HP := Lib.hid (fun W (hb : Below w.heap.size w W) prefer ahead S q k us (hS : Has W W.heap.size S (us.map (Value.int .i32))) (hq : q = us.length) (hq2 : q ≤ 1000000) => rpick_ok A S c n k q F us prefer ahead W hnl hn hML hq hq2 (h.carry hb) hS)
  have HA := Lib.hid (fun W (hb : Below w.heap.size w W) i => S5.rat_ok P dp np sp i W hpl (by omega) (hs.carry hb))
  have HT := Lib.hid (fun W (hb : Below w.heap.size w W) => ht.carry hb)
  have HM := Lib.hid hml
  generalize hG : allMaps F = G at *
  have HCL : Hid ((cls t).length = m) := Lib.hid (by rw [cls_len]; exact hml.symm)
  have HV : Hid (ofF G sp t = S5.of (pvF G sp t (bnds (cls t)) ((bnds (cls t)).length - 1))) := Lib.hid rfl
  have HR := Lib.hid (bnds_rise (cls t))
  have HBL := Lib.hid (fun i h => bnd_le (cls t) i h)
  have HPB := Lib.hid (fun i h => pvF_big (F := G) (sp := sp) (t := t) (L := cls t) i h)
  generalize ofF G sp t = V at *
  generalize bnds (cls t) = bl at *
  clear hml h ht hs hpl hnl hML hG
  go_enter Tryz.func9, Tryz.ntmps9
  go_wp2_with (go_at_call 20; (refine HB.out.mono ?_); rintro e w1 ⟨v1, rfl, A1, c1, rfl, ⟨hc1, _⟩, hB1, hb1⟩)
  rw [zb_len] at hc1 ⊢
  obtain ⟨nb, hnb⟩ : ∃ nb, bl.length = nb := ⟨_, rfl⟩
  rw [hnb] at hc1 ⊢
  have HNB := Lib.hid hnb
  have HB1 := Lib.hid (fun W (hb : Below w1.heap.size w1 W) => hB1.carry hb)
  have HW := Lib.hid (fun W (hb : Below w1.heap.size w1 W) => hb1.trans (hb.mono hb1.size))
  have hnb1 : nb ≤ 1001 := by
    have h2 := HR.out.mono (nb - 1) 0
    rcases Nat.eq_zero_or_pos nb with h0 | h0
    · omega
    · have : ∀ i, i < nb → i ≤ bl.getD i 0 := fun i => by
        induction i with
        | zero => intro _; omega
        | succ i ih => intro hi; have := ih (by omega); have := HR.out.2 i (by omega); omega
      have h3 := this (nb - 1) (by omega)
      have h4 := HBL.out (nb - 1) (by omega)
      have h5 := HCL.out
      omega
  clear hnb hB1 hb1 HB
  go_loopw [8, 9, 10] (fun v8 v9 v10 wr => ∃ i : Nat, i ≤ nb - 1 ∧ v10 = .int .i64 i ∧ v9 = .int .i64 (ahF G sp t bl i) ∧ Hid (Mine .i64 3 wr w1.heap.size v8 (pvF G sp t bl i)) ∧ Below w1.heap.size w1 wr) (fun _ _ v10 _ => nb - (intOf v10).toNat)
  case atStart => exact ⟨0, by omega, rfl, rfl, Lib.hid (Mine.nil_ _ _ _ _), Below.refl _ _⟩
  case round =>
    obtain ⟨i, hi, rfl, rfl, HMI, hbr⟩ := hrel
    by_cases hlt : i + 1 < nb
    · have hl0 : i < bl.length := by rw [HNB.out]; omega
      have hl1 : i + 1 < bl.length := by rw [HNB.out]; omega
      obtain ⟨b, off, hA1, hb1, hc0⟩ := (HB1.out w1 (Below.refl _ _)).at_int (k := i) (by rw [zb_len]; exact hl0)
      obtain ⟨b', off', hA2, hb2, hc2⟩ := (HB1.out w1 (Below.refl _ _)).at_int (k := i + 1) (by rw [zb_len]; exact hl1)
      subst hA1
      cases hA2
      clear hb2
      rw [zb_getD bl i hl0] at hc0
      rw [zb_getD bl (i + 1) hl1] at hc2
      have hXY := HR.out.2 i hl1
      have hYm := HBL.out (i + 1) hl1
      rw [HCL.out] at hYm
      have HE : Hid (ahF G sp t bl (i + 1) = pickF G (S5.atP sp (bl.getD i 0 : Nat)) ((t.take (bl.getD (i + 1) 0)).drop (bl.getD i 0)) (ahF G sp t bl i)) := Lib.hid rfl
      have HPV : Hid (pvF G sp t bl (i + 1) = pvF G sp t bl i ++ List.replicate (bl.getD (i + 1) 0 - bl.getD i 0) (ahF G sp t bl (i + 1))) := Lib.hid rfl
      have HLEN : Hid ((pvF G sp t bl i).length = bl.getD i 0) := Lib.hid (pvF_len HR.out i hl0)
      obtain ⟨X, hX⟩ : ∃ X, bl.getD i 0 = X := ⟨_, rfl⟩
      obtain ⟨Y, hY⟩ : ∃ Y, bl.getD (i + 1) 0 = Y := ⟨_, rfl⟩
      rw [hX] at hc0 hXY HE HPV HLEN
      rw [hY] at hc2 hXY hYm HE HPV
      obtain ⟨a1, ha1⟩ : ∃ a1, ahF G sp t bl (i + 1) = a1 := ⟨_, rfl⟩
      rw [ha1] at HE HPV
      have HA1 := Lib.hid ha1
      clear ha1
      generalize ahF G sp t bl i = a0 at *
      have HP1 : Hid (pvF G sp t bl (i + 1) = pvF G sp t bl i ++ List.replicate (Y - X) a1) := HPV
      generalize pvF G sp t bl i = Q at *
      obtain ⟨bt, offt, hTe, hbt, ht0⟩ := (HT.out wr (HW.out wr hbr)).at_int (k := 0) (by rw [← HM.out]; omega)
      subst hTe
      have hsl := fun W => slice32 bt offt m d X Y hXY (by omega) W
      have HPH := Lib.hid (fun W (hb : Below w.heap.size w W) => part_has (HT.out W hb) X Y)
      have hql : Y - X = ((t.take Y).drop X).length := (part_len t X Y (by rw [← HM.out]; exact hYm)).symm
      generalize (t.take Y).drop X = us at *
      have HQL := Lib.hid hql
      have HAX := Lib.hid (fun W hb => HA.out W hb (X : Int))
      generalize S5.atP sp (X : Int) = pv at HE HAX
      clear ht0 hX hY hl0 hl1 hql
      have HCY : Hid (∀ W, Below w1.heap.size w1 W → W.cell? ⟨b, off + (i + 1), none⟩ = some (.int .i64 (Y : Int))) := Lib.hid (fun W hb => (hb.cell (p := ⟨b, off + (i + 1), none⟩) hb1).trans hc2)
      have hb := Nat.lt_of_lt_of_le hb1 hbr.size
      have hc0 := (hbr.cell (p := ⟨b, off + i, none⟩) hb1).trans hc0
      have hc2 := HCY.out wr hbr
      have HBG : Hid (∀ q os, Below w1.heap.size w1 (grow (wr.drewN q) os)) := Lib.hid (fun q os => hbr.trans ((Up.of_grow wr q os).1.mono hbr.size))
      have g0 : ∀ q os, (grow (wr.drewN q) os).cell? ⟨b, off + i, none⟩ = some (.int .i64 (X : Int)) := fun q os => cell_grown hb hc0 q os
      have g2 : ∀ q os, (grow (wr.drewN q) os).cell? ⟨b, off + (i + 1), none⟩ = some (.int .i64 (Y : Int)) := fun q os => cell_grown hb hc2 q os
      have HAG : Hid (∀ q os, Calls Tryz.prog 22 #[.slice P np dp, .int .i64 (X : Int)] (grow (wr.drewN q) os) fun e w' => e = .returned (.int .i64 pv) ∧ ∃ q' os', w' = grow ((grow (wr.drewN q) os).drewN q') os') := Lib.hid (fun q os => (HAX.out _ (HW.out _ (HBG.out q os))).mono fun _ _ ⟨he, hu⟩ => ⟨he, hu.grow⟩)
      have HPG : Hid (∀ q os, Calls Tryz.prog 21 #[.slice A n c, .int .i64 pv, .slice (some ⟨bt, offt + X, none⟩) (Y - X) (d - X), .int .i64 a0] (grow (wr.drewN q) os) fun e w' => e = .returned (.int .i64 a1) ∧ ∃ q' os', w' = grow ((grow (wr.drewN q) os).drewN q') os') :=
        Lib.hid (fun q os => by rw [HE.out]; exact (HP.out _ (HW.out _ (HBG.out q os)) pv a0 _ (Y - X) (d - X) us (HPH.out _ (HW.out _ (HBG.out q os))) HQL.out (by omega)).mono fun _ _ ⟨he, hu⟩ => ⟨he, hu.grow⟩)
      have hMG : ∀ q os, Mine .i64 3 (grow (wr.drewN q) os) w1.heap.size u8 Q := fun q os => HMI.out.up (Up.of_grow wr q os)
      have HMG := Lib.hid hMG
      have hbG : ∀ q os, b < (grow (wr.drewN q) os).heap.size := fun q os => Nat.lt_of_lt_of_le hb (Up.of_grow wr q os).1.size
      have ki : IntKind.i64.wrap ((i : Int) + 1) = (i : Int) + 1 := IntWalk.i64_in _ (by omega)
      have kt : ((i : Int) + 1).toNat = i + 1 := by omega
      have kz : (0 : Int) ≤ (i : Int) + 1 := by omega
      have kl : (i : Int) + 1 < (nb : Int) := by omega
      have kz' : (0 : Int) ≤ (i : Int) := by omega
      have kl' : (i : Int) < (nb : Int) := by omega
      clear hc0 hc2 hb hbt HMI hMG HPH HAX
      go_wp2
      refine wp_region_quiet_grown mixed (by kernel_rfl) ?_
      repeat (go_big_quiet_step (first | (go_at_call 22; with_reducible exact Calls.grown_of (HAG.out _ _)) | (go_at_call 21; with_reducible exact Calls.grown_of (HPG.out _ _))))
      refine wpQuiet_nil ?_
      intro _ hw'
      obtain ⟨⟨nq, osq⟩, hw''⟩ := hw'
      subst hw''
      have hM2 := HMG.out nq osq
      have hb2 := HBG.out nq osq
      have k0 := g0 nq osq
      have k2 := g2 nq osq
      have hbb := hbG nq osq
      clear HMG HBG g0 g2 hbG HAG HPG hbr
      generalize grow (wr.drewN nq) osq = wr2 at *
      have HM2 := Lib.hid hM2
      have HB2 := Lib.hid hb2
      clear hM2 hb2
      go_wp2
      go_loopw [8, 11] (fun v8 v11 wq => ∃ k : Nat, X ≤ k ∧ k ≤ Y ∧ v11 = .int .i64 k ∧ Hid (Mine .i64 3 wq w1.heap.size v8 (Q ++ List.replicate (k - X) a1)) ∧ Below w1.heap.size w1 wq) (fun _ v11 _ => Y - (intOf v11).toNat)
      case atStart => exact ⟨X, Nat.le_refl _, by omega, rfl, Lib.hid (by rw [Nat.sub_self, List.replicate_zero, List.append_nil]; exact HM2.out), HB2.out⟩
      case round =>
        rename_i wouter _ _ _ _ _ _ _ _ _ _ _ _ _ _
        clear HM2 HB2 k0 k2 hbb
        obtain ⟨k, hk1, hk2, rfl, HMK, hbk⟩ := hrel
        have hcY := HCY.out _ hbk
        have hbl := Nat.lt_of_lt_of_le hb1 hbk.size
        have hll : (Q ++ List.replicate (k - X) a1).length ≤ 1000 := by
          have := HLEN.out
          rw [List.length_append, List.length_replicate]; omega
        by_cases hky : k < Y
        · have HST : Hid (Q ++ List.replicate (k + 1 - X) a1 = Q ++ List.replicate (k - X) a1 ++ [a1]) := Lib.hid (by
            rw [show k + 1 - X = k - X + 1 by omega, List.append_assoc, ← List.replicate_succ'])
          have HLL := Lib.hid hll
          generalize Q ++ List.replicate (k - X) a1 = QK at *
          clear hll
          go_wp2_with (at_builtin; refine wpList_push (k := .i64) (bytes := 8) rfl _ _ 33 rfl Tryz.underlying33 fullI (by decide) w1.heap.size u8 QK a1 w1 wr HMK.out rfl rfl hbk hbk.size (by have := HLL.out; omega) ?_; intro v3 w3 hM3 hb3)
          go_roundw
          case rel => exact ⟨k + 1, by omega, by omega, by go_num, Lib.hid (by rw [HST.out]; exact hM3), hb3⟩
          case measure => simp [intOf]; omega
        · obtain rfl : k = Y := by omega
          go_wp2
          go_roundw
          case rel => exact ⟨i + 1, by omega, by go_num, by rw [HA1.out], Lib.hid (by rw [HP1.out]; exact HMK.out), hbk⟩
          case measure => simp [intOf]; omega
    · have hie : i = nb - 1 := by omega
      have HQ : Hid (V = S5.of (pvF G sp t bl i)) := Lib.hid (by rw [HV.out, HNB.out, ← hie])
      have HLQ : Hid ((pvF G sp t bl i).length ≤ 1000) := Lib.hid (by
        rcases Nat.eq_zero_or_pos nb with h0 | h0
        · rw [show i = 0 by omega]; simp [pvF]
        · have := HPB.out i (by rw [HNB.out]; omega)
          have := HCL.out
          omega)
      generalize pvF G sp t bl i = Q at *
      obtain ⟨A2, c2, rfl, _, _, h2⟩ := HMI.out.size
      have HO := Lib.hid (S5.of_ok A2 c2 Q.length Q wr rfl (by have := HLQ.out; omega) h2)
      have HW2 := Lib.hid (HW.out wr hbr)
      generalize Q.length = ql at *
      clear h2 hie
      go_wp2_with (go_at_call 23; (refine HO.out.mono ?_); rintro e w2 ⟨v2, rfl, A3, c3, rfl, h4, h5, h6⟩)
      go_ret
      exact ⟨_, rfl, A3, c3, by rw [HQ.out]; rfl, by rw [HQ.out]; exact h4, by rw [HQ.out]; exact h5, HW2.out.trans (h6.mono HW2.out.size)⟩
end Go.Proofs.YtnpcakeagpbgiaaGreat
