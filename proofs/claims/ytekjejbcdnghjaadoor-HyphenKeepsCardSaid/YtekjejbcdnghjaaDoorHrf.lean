/-
  Contract of the document's Points. Condition: at most 1000 patterns, a word of at most a million letters.
-/
import Derived.Test.YtekjejbcdnghjaaDoorHre
import Derived.BigQuiet
import Derived.Deep.OwnRows
import Derived.Deep.QuietTactic
set_option linter.unusedVariables false
set_option linter.unusedSimpArgs false
namespace Go.Proofs.YtekjejbcdnghjaaDoor
open Go.ChangeShapes Go.WideShapes Go.ChangeAt Go.RowKit Go.Sort Go.Deep

theorem sizeI : (Tryd.prog.info? 3).map (·.size) = some 1 := by kernel_rfl
theorem dots_take (wd : List Int) (k : Nat) (h : k < wd.length) : (46 :: (wd.take (k + 1)).map smallZ) = (46 :: (wd.take k).map smallZ) ++ [smallZ wd[k]] := by
  rw [List.take_add_one, List.getElem?_eq_getElem h, Option.toList_some, List.map_append]; rfl
theorem dots_end (wd : List Int) : (46 :: (wd.take wd.length).map smallZ) ++ [46] = dotsW wd := by rw [List.take_length]; rfl
/-- weights within a digit's range -/
def NineL (b : List Int) : Prop := ∀ x ∈ b, 0 ≤ x ∧ x ≤ 9
theorem NineL.get {b : List Int} (h : NineL b) (i : Nat) : 0 ≤ b.getD i 0 ∧ b.getD i 0 ≤ 9 := by
  by_cases e : i < b.length
  · simp only [List.getD, List.getElem?_eq_getElem e, Option.getD_some]; exact h _ (List.getElem_mem _)
  · simp only [List.getD, List.getElem?_eq_none (show b.length ≤ i by omega), Option.getD_none]; omega

set_option maxRecDepth 20000 in
set_option maxHeartbeats 4000000 in
theorem rpoints_ok (A B : Option Addr) (c c' : Nat) (x : List Pat) (wd : List Int) (w : World) (hx : x.length ≤ 1000) (hw : wd.length ≤ 1000000) (hok : ∀ p ∈ x, OkP p.1 p.2)
    (h1 : ReadsP w (.slice A x.length c) x) (h2 : Has w w.heap.size B (wd.map (Value.int .i32))) :
    Calls Tryd.prog 20 #[.slice A x.length c, .slice B wd.length c'] w fun e w' => ∃ r, SliceOf .i64 w w' e r ∧ PointsS x wd r := by
  by_cases h64 : 64 < wd.length
  · have e : (wd.length : Int) > 64 := by omega
    go_enter Tryd.func20, Tryd.ntmps20
    go_wp2
    go_ret
    refine ⟨[], ⟨_, rfl, sliceV_nil _ _ _ (Below.refl _ _)⟩, ?_⟩
    unfold PointsS
    rw [if_pos h64]
  have e64 : ¬ (wd.length : Int) > 64 := by omega
  obtain ⟨m, hm⟩ : ∃ m : Nat, m = wd.length + 3 := ⟨_, rfl⟩
  have hmI : (wd.length : Int) + 3 = (m : Int) := by omega
  have hm9 : m ≤ 67 := by omega
  have HMM := Lib.hid hm
  clear hm
  have HMK := fun W => run_make_row' (P := Tryd.prog) 23 3 (.int .i64 0) 8 Tryd.underlying23 fullI rfl .i64 .i64 m (by omega) (by omega) W
  have mixed : Tryd.prog.follows .mixedOrders = true := by kernel_rfl
  obtain ⟨T, hT⟩ : ∃ T, dotsW wd = T := ⟨_, rfl⟩
  have hTL : T.length = wd.length + 2 := by rw [← hT]; exact dotsW_length wd
  have HTL := Lib.hid hTL
  have HTE := Lib.hid hT
  have HB := Lib.hid h2
  have H1 := Lib.hid h1
  have HOK := Lib.hid hok
  clear h1 h2 hok hTL
  go_enter Tryd.func20, Tryd.ntmps20
  go_wp2
  go_loopw [6, 7] (fun v i wr => ∃ k : Nat, k ≤ wd.length ∧ i = .int .i64 k ∧ Mine .i32 21 wr w.heap.size v (46 :: (wd.take k).map smallZ) ∧ Below w.heap.size w wr) (fun _ i _ => wd.length - (intOf i).toNat)
  case atStart => exact ⟨0, by omega, rfl, Mine.one .i32 21 w w.heap.size 46 (Nat.le_refl _), (Below.refl _ _).alloc (Nat.le_refl _) _⟩
  case round =>
    obtain ⟨k, hk, rfl, hM, hbl⟩ := hrel
    have hB := hbl.size
    have hlen : (46 :: (wd.take k).map smallZ).length ≤ 100 := by simp; omega
    by_cases hlt : k < wd.length
    · obtain ⟨b, off, rfl, hb, hca⟩ := HB.out.at_int hlt
      have hcc := (hbl.cell (p := ⟨b, off + k, none⟩) hb).trans hca
      have HT := dots_take wd k hlt
      obtain ⟨X, hX⟩ : ∃ X, wd[k] = X := ⟨_, rfl⟩
      rw [hX] at hcc HT
      have HT := Lib.hid HT
      have cg := fun w => rsmall_ok X w
      obtain ⟨Y, hY⟩ : ∃ Y, smallZ X = Y := ⟨_, rfl⟩
      rw [hY] at HT
      simp only [hY] at cg
      obtain ⟨xs, hxs⟩ : ∃ xs, 46 :: (wd.take k).map smallZ = xs := ⟨_, rfl⟩
      rw [hxs] at HT hM hlen
      clear hX hY hca hb hxs
      go_wp2_with (first
        | (go_at_call 40; refine (cg _).mono ?_; rintro e w9 ⟨rfl, rfl⟩)
        | (at_builtin; refine wpList_push rfl _ _ 22 rfl Tryd.underlying22 infoI32 (by omega) w.heap.size _ xs Y w _ hM rfl rfl hbl hB (by omega) ?_; intro v' w3 hM3 hb3))
      go_roundw
      case rel => exact ⟨k + 1, by omega, by go_num, by rw [HT.out]; exact hM3, hb3⟩
      case measure => simp [intOf]; omega
    · obtain rfl : k = wd.length := by omega
      have HD := dots_end wd
      rw [hT] at HD
      obtain ⟨xs, hxs⟩ : ∃ xs, 46 :: (wd.take wd.length).map smallZ = xs := ⟨_, rfl⟩
      rw [hxs] at HD hM hlen
      have HD := Lib.hid HD
      clear hxs
      go_wp2_with (at_builtin; refine wpList_push rfl _ _ 22 rfl Tryd.underlying22 infoI32 (by omega) w.heap.size _ xs 46 w _ hM rfl rfl hbl hB (by omega) ?_; intro v' w5 hM5 hb5; rw [HD.out] at hM5; obtain ⟨A6, c6, rfl, hc6, hf6, hh6⟩ := hM5.size; clear hM hbl hB)
      have hTl : T.length ≤ 66 := by have := HTL.out; omega
      obtain ⟨W6, hW6⟩ : ∃ W6, w5.alloc (.cells (madeCells #[Value.int .i64 0] m) 3) = W6 := ⟨_, rfl⟩
      have hbe : BeS w5.heap.size m w W6 W6 (List.replicate m 0) := by rw [← hW6]; exact ⟨mine_zeros (by omega), by simp, Keeps.refl _ _, hb5.alloc hb5.size _, hb5.size⟩
      have h66 : Has W6 w5.heap.size A6 (T.map (Value.int .i32)) := by rw [← hW6]; exact hh6.below ((Below.refl _ _).alloc (Nat.le_refl _) _)
      have hs6 : w5.heap.size ≤ W6.heap.size := by rw [← hW6]; simp
      obtain ⟨G, hG⟩ : ∃ G, w5.heap.size = G := ⟨_, rfl⟩
      rw [hG] at hbe h66 hs6
      have HT6 := Lib.hid (fun (W : World) (hk : Keeps G W6 W) => Has.keeps h66 (Nat.le_refl _) hs6 hk)
      have HBE := Lib.hid (show BeS G m w W6 W6 (List.replicate m 0) ∧ BestOf (Contr (x.take 0) T) (List.replicate m 0) ∧ NineL (List.replicate m 0) from ⟨hbe, BestOf.zeros (fun j c => contr_none T j c) m, fun y hy => by rw [List.eq_of_mem_replicate hy]; omega⟩)
      simp only [hW6, hG]
      clear hM5 hf6 hh6 hc6 hb5 hbe h66 hs6 hW6 hG HMK hmI HD
      go_loopw [9] (fun kk wr => ∃ (k : Nat) (b : List Int), k ≤ x.length ∧ kk = .int .i64 k ∧ Hid (BeS G m w W6 wr b ∧ BestOf (Contr (x.take k) T) b ∧ NineL b)) (fun kk _ => x.length - (intOf kk).toNat)
      case atStart => exact ⟨0, _, by omega, rfl, HBE⟩
      case round =>
        clear HBE
        obtain ⟨k, b, hk, rfl, HS⟩ := hrel
        by_cases hlt : k < x.length
        · have HS0 : Hid (BeS G m w W6 wr b ∧ BestOf (ContrG x T k 0) b ∧ NineL b) := Lib.hid ⟨HS.out.1, HS.out.2.1.congr (contrG_zero x T k), HS.out.2.2⟩
          have hpo := HOK.out _ (List.getElem_mem hlt)
          have hpk : x[k]? = some x[k] := List.getElem?_eq_getElem hlt
          have HAT := Lib.hid (fun (W : World) (hb : Below w.heap.size w W) => ((H1.out.carry hb).at_ hlt).2)
          obtain ⟨p, hp⟩ : ∃ p, x[k] = p := ⟨_, rfl⟩
          rw [hp] at hpo hpk
          simp only [hp] at HAT
          have hpl := mayB_len hpo
          have HPO := Lib.hid hpo
          have HPK := Lib.hid hpk
          clear hp hpo hpk HS
          go_wp2
          go_loopw [10] (fun aa wr => ∃ (a : Nat) (b : List Int), a ≤ T.length ∧ aa = .int .i64 a ∧ Hid (BeS G m w W6 wr b ∧ BestOf (ContrG x T k a) b ∧ NineL b)) (fun aa _ => T.length - (intOf aa).toNat)
          case atStart => exact ⟨0, b, by omega, rfl, HS0⟩
          case round =>
            clear HS0
            obtain ⟨a, b, ha, rfl, HS⟩ := hrel
            by_cases halt : a < T.length
            · obtain ⟨bb, off, r, rfl, hr, hc0, hc1⟩ := HAT.out wr HS.out.1.bel
              rw [Nat.add_zero] at hc0
              rw [hr.n] at hc0
              rw [hr.m] at hc1
              have cs := rstands_ok r.A A6 r.c c6 p.1 T a wr (by omega) (by omega) (by omega) hr.one (HT6.out _ HS.out.1.keep)
              have HSK := Lib.hid (fun q => contrG_skip (t := T) (a := a) HPK.out q)
              have HST := Lib.hid (fun q => contrG_step (t := T) (a := a) HPK.out halt q)
              obtain ⟨S, hS⟩ : ∃ S, p.1.isPrefixOf (T.drop a) = S := ⟨_, rfl⟩
              rw [hS] at cs
              have hpre : S = true → a + p.1.length ≤ T.length := fun e => by
                rw [e, List.isPrefixOf_iff_prefix] at hS
                have := hS.length_le
                rw [List.length_drop] at this
                omega
              simp only [hS] at HSK HST
              clear hS hr
              cases S
              · have HB2 := Lib.hid (HS.out.2.1.congr (HSK.out rfl))
                clear HST HSK hpre
                go_wp2_with (go_at_call 41; refine cs.mono ?_; rintro e w7 ⟨rfl, q, rfl⟩)
                go_roundw
                case rel => exact ⟨a + 1, b, by omega, by go_num, Lib.hid ⟨HS.out.1.drewN q, HB2.out, HS.out.2.2⟩⟩
                case measure => simp [intOf]; omega
              · have hpl2 := hpre rfl
                clear HSK hpre
                go_wp2_with (go_at_call 41; refine cs.mono ?_; rintro e w7 ⟨rfl, q, rfl⟩)
                have HS4 := Lib.hid (HS.out.1.drewN q)
                obtain ⟨W7, hW7⟩ : ∃ W7, wr.drewN q = W7 := ⟨_, rfl⟩
                rw [hW7] at HS4
                simp only [hW7]
                clear hW7 hc0 hc1
                go_loopw [11] (fun ii w4 => ∃ i : Nat, i ≤ p.2.length ∧ ii = .int .i64 i ∧ Hid (BeS G m w W6 w4 (raiseL b a p.2 i))) (fun ii _ => p.2.length - (intOf ii).toNat)
                case atStart => exact ⟨0, by omega, rfl, HS4⟩
                case round =>
                  obtain ⟨i, hi, rfl, HI⟩ := hrel
                  obtain ⟨bb2, off2, r2, eA, hr2, _, hc1⟩ := HAT.out wr HI.out.bel
                  injection eA with eA
                  injection eA with eA1 eA2
                  subst eA1; subst eA2
                  rw [hr2.m] at hc1
                  by_cases hil : i < p.2.length
                  · obtain ⟨b3, off3, hB3, _, hcd⟩ := hr2.two.at_int hil
                    have hij : a + i < m := by have := HTL.out; have := HMM.out; have := HPO.out.len; omega
                    obtain ⟨_, _, hcx, hfx, _⟩ := HI.out.own.spotG (i := a + i) (by rw [HI.out.len]; exact hij)
                    have HST4 := fun n os z => (HI.out.grown n os).store hij z
                    have hRS : raiseL b a p.2 (i + 1) = (raiseL b a p.2 i).set (a + i) (max ((raiseL b a p.2 i).getD (a + i) 0) (p.2.getD i 0)) := rfl
                    have hDD : p.2.getD i 0 = p.2[i] := by simp [List.getD, List.getElem?_eq_getElem hil]
                    obtain ⟨D, hD⟩ : ∃ D, p.2[i] = D := ⟨_, rfl⟩
                    obtain ⟨X, hX⟩ : ∃ X, (raiseL b a p.2 i).getD (a + i) 0 = X := ⟨_, rfl⟩
                    rw [hD] at hcd hDD
                    rw [hDD, hX] at hRS
                    rw [hX] at hcx
                    have HST4 := Lib.hid HST4
                    have HRS := Lib.hid hRS
                    have hu := fun n os => Up.of_grow wr n os
                    have f1 := fun n os => (hu n os).cell hc1
                    have f2 := fun n os => (hu n os).cell hcd
                    have f3 := fun n os => (hu n os).cell hcx
                    have HF3 := Lib.hid f3
                    have HF4 : Hid (∀ n os, (grow (wr.drewN n) os).frozen? ⟨G, a + i, none⟩ = false) := Lib.hid (fun n os => (HI.out.grown n os).own.free _)
                    have hkw : IntKind.i64.wrap ((a : Int) + (i : Int)) = (a : Int) + (i : Int) := IntWalk.i64_in _ (by omega)
                    have hkl : (a : Int) + (i : Int) < m := by omega
                    have hkp : 0 ≤ (a : Int) + (i : Int) := by omega
                    have hkt : ((a : Int) + (i : Int)).toNat = a + i := by omega
                    clear hcd hcx hfx hDD hRS hD hX hu hr2
                    generalize r2.B = Bx at *
                    subst hB3
                    by_cases hmx : D > X
                    · go_wp2
                      refine wp_region_last_lit _ ⟨none, .move (.const undef), 0, "", #[], none⟩ (by kernel_rfl) mixed (by rfl) (by rfl) (by kernel_rfl) ?_
                      dsimp only [List.dropLast, List.getLastD, List.getLast]
                      repeat (go_big_quiet_step (fail))
                      refine wpQuiet_nil ?_
                      intro w' hw'
                      obtain ⟨⟨n, os⟩, hw''⟩ := hw'
                      subst hw''
                      refine wp_store_int 3 _ _ rfl G (a + i) .i64 D rfl rfl sizeI _ (HF3.out n os) (HF4.out n os) ?_
                      go_wp2
                      go_roundw
                      case rel => exact ⟨i + 1, by omega, by go_num, Lib.hid (by rw [HRS.out, show max X D = D by omega]; exact HST4.out n os D)⟩
                      case measure => simp [intOf]; omega
                    · go_wp2
                      refine wp_region_last_lit _ ⟨none, .move (.const undef), 0, "", #[], none⟩ (by kernel_rfl) mixed (by rfl) (by rfl) (by kernel_rfl) ?_
                      dsimp only [List.dropLast, List.getLastD, List.getLast]
                      repeat (go_big_quiet_step (fail))
                      refine wpQuiet_nil ?_
                      intro w' hw'
                      obtain ⟨⟨n, os⟩, hw''⟩ := hw'
                      subst hw''
                      refine wp_store_int 3 _ _ rfl G (a + i) .i64 X rfl rfl sizeI _ (HF3.out n os) (HF4.out n os) ?_
                      go_wp2
                      go_roundw
                      case rel => exact ⟨i + 1, by omega, by go_num, Lib.hid (by rw [HRS.out, show max X D = X by omega]; exact HST4.out n os X)⟩
                      case measure => simp [intOf]; omega
                  · obtain rfl : i = p.2.length := by omega
                    have HNX : Hid (BeS G m w W6 wr (raiseL b a p.2 p.2.length) ∧ BestOf (ContrG x T k (a + 1)) (raiseL b a p.2 p.2.length) ∧ NineL (raiseL b a p.2 p.2.length)) :=
                      Lib.hid ⟨HI.out, (raise_best HS.out.2.1 a (fun y hy => (HPO.out.digits y hy).1) _ (Nat.le_refl _)).congr (HST.out (by first | exact trivial | rfl)), raise_wf (by decide) HS.out.2.2 HPO.out.digits _⟩
                    clear hr2
                    go_wp2
                    go_roundw
                    case rel => exact ⟨a + 1, _, by omega, by go_num, HNX⟩
                    case measure => simp [intOf]; omega
            · obtain rfl : a = T.length := by omega
              have HNX := Lib.hid (And.intro HS.out.1 (And.intro (HS.out.2.1.congr (contrG_end HPK.out)) HS.out.2.2))
              go_wp2
              go_roundw
              case rel => exact ⟨k + 1, b, by omega, by go_num, HNX⟩
              case measure => simp [intOf]; omega
        · obtain rfl : k = x.length := by omega
          have hbest := HS.out.2.1
          rw [List.take_length] at hbest
          have hBel := HS.out.1.bel
          have HPT : Hid (PointsS x wd (pts wd.length b)) := Lib.hid (by
            unfold PointsS
            rw [if_neg h64]
            exact ⟨b, by rw [HS.out.1.len]; exact HMM.out, by rw [HTE.out]; exact hbest, rfl⟩)
          have HCE := Lib.hid (fun (W : World) (hb : Below wr.heap.size wr W) (i : Nat) (hi : i < m) => by
            obtain ⟨_, h2, h3, _, _⟩ := HS.out.1.own.spotG (i := i) (by rw [HS.out.1.len]; exact hi)
            exact (hb.cell (p := ⟨G, i, none⟩) h2).trans h3)
          have HN9 := Lib.hid (fun i => HS.out.2.2.get i)
          have HBL := Lib.hid hBel
          clear hbest hBel HS
          go_wp2
          go_loopw [12, 13] (fun v ii w8 => ∃ i : Nat, 2 ≤ i ∧ (i = 2 ∨ i + 2 ≤ wd.length) ∧ ii = .int .i64 i ∧ Mine .i64 3 w8 wr.heap.size v (ptsN b i) ∧ Below wr.heap.size wr w8) (fun _ ii _ => wd.length - (intOf ii).toNat)
          case atStart => exact ⟨2, by omega, by omega, rfl, by rw [ptsN_two]; exact Mine.nil_ _ _ _ _, Below.refl _ _⟩
          case round =>
            obtain ⟨i, hi2, hin, rfl, hM, hbl⟩ := hrel
            have hB := hbl.size
            have HBW := Lib.hid (below_trans HBL.out hbl HBL.out.size)
            have hpl : (ptsN b i).length ≤ i := by
              unfold ptsN
              rw [List.length_map]
              have := List.length_filter_le (fun i => decide (2 ≤ i) && decide (b.getD (i + 1) 0 % 2 = 1)) (List.range i)
              rwa [List.length_range] at this
            by_cases hle : i + 3 ≤ wd.length
            · have hle' : (i : Int) ≤ (wd.length : Int) - 3 := by omega
              have him : i + 1 < m := by have := HMM.out; omega
              have hcx := HCE.out _ hbl (i + 1) him
              have hx9 := HN9.out (i + 1)
              have HPS := ptsN_succ b hi2
              obtain ⟨X, hX⟩ : ∃ X, b.getD (i + 1) 0 = X := ⟨_, rfl⟩
              rw [hX] at hcx hx9 HPS
              have HPS := Lib.hid HPS
              have htm : X.tmod 2 = X % 2 := Int.tmod_eq_emod_of_nonneg hx9.1
              obtain ⟨R, hR⟩ : ∃ R, X % 2 = R := ⟨_, rfl⟩
              rw [hR] at htm HPS
              have hR2 : 0 ≤ R ∧ R ≤ 1 := by omega
              clear hX hR
              by_cases hr1 : R = 1
              · subst hr1
                rw [if_pos rfl] at HPS
                go_wp2_with (at_builtin; refine wpList_push rfl _ _ 23 rfl Tryd.underlying23 infoI64 (by omega) _ _ _ (i : Int) _ _ hM rfl rfl hbl hB (by omega) ?_; intro v' w9 hM9 hb9)
                go_roundw
                case rel => exact ⟨i + 1, by omega, by omega, by go_num, by rw [HPS.out]; exact hM9, hb9⟩
                case measure => simp [intOf]; omega
              · have hr0 : R = 0 := by omega
                subst hr0
                rw [if_neg (by decide), List.append_nil] at HPS
                go_wp2
                go_roundw
                case rel => exact ⟨i + 1, by omega, by omega, by go_num, by rw [HPS.out]; exact hM, hbl⟩
                case measure => simp [intOf]; omega
            · have hle' : ¬ (i : Int) ≤ (wd.length : Int) - 3 := by omega
              have HE : Hid (ptsN b i = pts wd.length b) := Lib.hid (by
                rw [pts_is]
                rcases hin with rfl | h2
                · rw [ptsN_two, ptsN_small b (by omega)]
                · rw [show wd.length - 2 = i by omega])
              go_wp2
              go_ret
              refine ⟨_, ⟨_, rfl, ?_⟩, HPT.out⟩
              rw [← HE.out]
              exact hM.give HBL.out hbl
end Go.Proofs.YtekjejbcdnghjaaDoor
