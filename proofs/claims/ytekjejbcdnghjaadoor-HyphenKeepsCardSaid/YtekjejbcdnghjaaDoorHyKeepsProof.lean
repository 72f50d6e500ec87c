/-
  HyphenKeeps: points rise, from 2 to n - 3; capital letters have the same; a pattern of even digits takes some away at most: for all patterns and every word (at most 20 patterns of at most 40 bytes, a word of at most 80 letters, one more text of at most 40 bytes: of more the statement says nothing). No condition.
-/
import Derived.Test.YtekjejbcdnghjaaDoorHas
import Derived.Test.YtekjejbcdnghjaaDoorStr
import Derived.Test.YtekjejbcdnghjaaDoorTabs
import Derived.Test.YtekjejbcdnghjaaDoorHpg
import Derived.Test.YtekjejbcdnghjaaDoorHkp
import Derived.BigQuiet
import Derived.Deep.QuietTactic
set_option linter.unusedVariables false
namespace Go.Proofs.YtekjejbcdnghjaaDoor.hyphenKeeps
open Go.ChangeShapes Go.WideShapes Go.ChangeAt Go.RowKit Go.Proofs.YtekjejbcdnghjaaDoor
theorem own : ownKnob Tryd.prog.godebug = none := by kernel_rfl
theorem laidOut : laidOutB Tryd.prog = true := by kernel_rfl

set_option maxHeartbeats 1000000 in
theorem alive_ok (w : World) (hT0 : Lib.Utf8Tabs 0 1 w) : Calls Tryd.prog 23 #[] w fun e w' => e = .returned (.bool true) ∧ Below w.heap.size w w' := by
  have HTB := Lib.hid hT0
  clear hT0
  have cn := fun W (a : Has W W.heap.size (some ⟨w.heap.size, 0, none⟩) _) b => pnew_ok (some ⟨w.heap.size, 0, none⟩) 1 [⟨#[49, 98]⟩] W (by decide) (fun z hz => by rw [List.mem_singleton.1 hz]; show (2 : Nat) ≤ 1000000; omega) a b
  simp only [new_alive] at cn
  have hok : ∀ p ∈ ([([98], [1, 0])] : List Pat), OkP p.1 p.2 := by
    have := (newS_ok [⟨#[49, 98]⟩]).1
    rwa [new_alive] at this
  go_enter Tryd.func23, Tryd.ntmps23
  go_wp2_with (first
    | (go_at_call 15; refine (cn _ (has_strlit w _ _) (Utf8Tabs_below HTB.out (up_alloc w _))).mono ?_; rintro e W1 ⟨v, rfl, hN, hb1⟩; have hT := hN.1 rfl; obtain ⟨X, rfl⟩ := hT.ptr; have HT := Lib.hid hT; have HB1 := Lib.hid (below_trans (up_alloc w _) hb1 (up_alloc w _).size); clear hN hT hb1)
    | (go_at_call 16; refine (num_ok _ _).mono ?_; rintro e w' ⟨rfl, rfl⟩)
    | (go_at_call 19; refine (ppoints_ok _ [([98], [1, 0])] _ 5 [97, 97, 98, 97, 97] _ (by decide) hok (by decide) (by decide) (by decide) (HT.out.below (up_alloc _ _)) (has_lit _ .i32 _ [97, 97, 98, 97, 97])).mono ?_; rintro e W2 ⟨r, ⟨u, rfl, Au, cu, rfl, _, hu, hb2⟩, hp⟩; obtain rfl := points_alive hp; have HB2 := Lib.hid (below_trans HB1.out (below_trans (up_alloc _ _) hb2 (up_alloc _ _).size) HB1.out.size); clear hp hb2)
    | (go_at_call 12; refine (eqs_ok Au _ cu 1 1 [2] _ rfl (by decide) (hu.carry (up_alloc _ _)) (has_lit _ .i64 _ [2])).mono ?_; rintro e W3 ⟨rfl, hb3⟩))
  go_ret
  exact ⟨rfl, below_trans HB2.out (below_trans (up_alloc _ _) hb3 (up_alloc _ _).size) HB2.out.size⟩

set_option maxRecDepth 20000 in
set_option maxHeartbeats 8000000 in
theorem walk (A0 : Option Addr) (c0 : Nat) (z0 : List ByteArray) (A1 : Option Addr) (c1 : Nat) (z1 : List Int) (s2 : ByteArray) (w : World) (hT : Lib.Utf8Tabs 0 1 w) (n0 : z0.length ≤ 9223372036854775807) (m0 : z0.length ≤ c0) (w0 : ∀ z ∈ z0, z.size ≤ 9223372036854775807) (h0 : Has w w.heap.size A0 (z0.map Value.string)) (e0 : A0 = none → c0 = 0) (n1 : z1.length ≤ 9223372036854775807) (m1 : z1.length ≤ c1) (w1 : ∀ z ∈ z1, (Lit.int .i32 z).wf = true) (h1 : Has w w.heap.size A1 (z1.map (Value.int .i32))) (e1 : A1 = none → c1 = 0) (w2 : s2.size ≤ 9223372036854775807) :
    Calls Tryd.prog 8 #[.slice A0 z0.length c0, .slice A1 z1.length c1, .string s2] w fun e w' => e = .returned (.bool true) ∧ Below w.heap.size w w' := by
  have HTB := Lib.hid hT
  clear hT
  have cm := many_ok A0 c0 z0 w n0 w0 h0
  obtain ⟨M, hM⟩ : ∃ M, manyB z0 = M := ⟨_, rfl⟩
  rw [hM] at cm
  cases M with
  | true =>
    go_enter Tryd.func8, Tryd.ntmps8
    go_wp2_with (go_at_call 17; refine cm.mono ?_; rintro e w' ⟨rfl, rfl⟩)
    go_ret
    exact ⟨rfl, Below.refl _ _⟩
  | false =>
  by_cases h80 : 80 < z1.length
  · have h80' : (z1.length : Int) > 80 := by omega
    go_enter Tryd.func8, Tryd.ntmps8
    go_wp2_with (go_at_call 17; refine cm.mono ?_; rintro e w' ⟨rfl, rfl⟩)
    go_ret
    exact ⟨rfl, Below.refl _ _⟩
  have h80' : ¬ (z1.length : Int) > 80 := by omega
  by_cases h40 : 40 < s2.size
  · have h40' : (s2.size : Int) > 40 := by omega
    go_enter Tryd.func8, Tryd.ntmps8
    go_wp2_with (go_at_call 17; refine cm.mono ?_; rintro e w' ⟨rfl, rfl⟩)
    go_ret
    exact ⟨rfl, Below.refl _ _⟩
  have h40' : ¬ (s2.size : Int) > 40 := by omega
  have hs := many_small hM
  have cn := fun W a b => pnew_ok A0 c0 z0 W (by omega) (fun z hz => by have := hs.2 z hz; omega) a b
  have hok := newS_ok z0
  obtain ⟨N, hr⟩ : ∃ N, newS z0 = N := ⟨_, rfl⟩
  obtain ⟨acc, k1, E⟩ := N
  simp only [hr] at cn hok
  have hac : acc.length ≤ 20 := by omega
  have HOK := Lib.hid hok.1
  have HSM := Lib.hid hs
  have HN1 := Lib.hid hr
  clear hr hs hok hM
  by_cases hE : E = 0
  · subst hE
    go_enter Tryd.func8, Tryd.ntmps8
    go_wp2_with (first
      | (go_at_call 17; refine cm.mono ?_; rintro e w' ⟨rfl, rfl⟩)
      | (go_at_call 15; refine (cn _ h0 HTB.out).mono ?_; rintro e W1 ⟨v, rfl, hN, hb1⟩; have hT := hN.1 rfl; obtain ⟨X, rfl⟩ := hT.ptr; have HT := Lib.hid hT; clear hN hT)
      | (go_at_call 23; refine (alive_ok _ (Utf8Tabs_below HTB.out hb1)).mono ?_; rintro e W2 ⟨rfl, hb2⟩; have HB2 := Lib.hid (below_trans hb1 hb2 hb1.size); have HT2 := Lib.hid (HT.out.below hb2); have h12 := h1.carry HB2.out; clear HT hb1 hb2)
      | (go_at_call 19; refine (ppoints_ok _ acc A1 c1 z1 _ (by omega) HOK.out (by omega) m1 w1 HT2.out h12).mono ?_; rintro e W3 ⟨r1, ⟨u, rfl, Au, cu, rfl, _, hu, hb3⟩, hp1⟩; have HB3 := Lib.hid (below_trans HB2.out hb3 HB2.out.size); have HT3 := Lib.hid (HT2.out.below hb3); have h13 := h12.carry hb3; have h03 := h0.carry HB3.out; clear HB2 HT2 h12 hb3))
    have hri := hp1.rise
    have hrl := hp1.length
    have HRI := Lib.hid hri
    have HP1 := Lib.hid hp1
    clear hri hp1
    go_loopw [11] (fun i wr => ∃ k : Nat, k ≤ r1.length ∧ i = .int .i64 k ∧ ∃ q, wr = W3.drewN q) (fun i _ => r1.length - (intOf i).toNat)
    case atStart => exact ⟨0, by omega, rfl, 0, rfl⟩
    case round =>
      obtain ⟨k, hk, rfl, q, rfl⟩ := hrel
      by_cases hlt : k < r1.length
      · obtain ⟨b, off, rfl, hb, hc⟩ := hu.at_int hlt
        have hX := HRI.out.2 _ (List.getElem_mem hlt)
        have hXY := fun (j : Nat) (hj : j < k) => rise_lt HRI.out.1 hj hlt
        have HUX := Lib.hid (fun (j : Nat) (hj : j < r1.length) => hu.at_int hj)
        obtain ⟨X, hXe⟩ : ∃ X, r1[k] = X := ⟨_, rfl⟩
        rw [hXe] at hc hX
        simp only [hXe] at hXY
        clear hXe
        obtain ⟨L, hL⟩ : ∃ L : Nat, (z1.length : Int) - 3 = (L : Int) := ⟨z1.length - 3, by omega⟩
        have hL8 : IntKind.i64.wrap (L : Int) = (L : Int) := IntWalk.i64_in _ (by omega)
        have hX2 : decide (X < 2) = false := decide_eq_false (by omega)
        have hXL : decide ((L : Int) < X) = false := decide_eq_false (by omega)
        by_cases hk0 : k = 0
        · have hk1 : decide ((0 : Int) < (k : Int)) = false := decide_eq_false (by omega)
          have hk1n : decide (0 < k) = false := decide_eq_false (by omega)
          have HK0 := Lib.hid hk0
          clear hXY hk0
          go_wp2
          go_big_quiet (fail)
          go_wp2
          go_roundw
          case rel => exact ⟨k + 1, by omega, by go_num, _, rfl⟩
          case measure => simp [intOf] <;> omega
        · obtain ⟨j, hj⟩ : ∃ j, k = j + 1 := ⟨k - 1, by omega⟩
          obtain ⟨b', off', hA', hb', hc'⟩ := HUX.out j (by omega)
          cases hA'
          have hlt2 := hXY j (by omega)
          obtain ⟨Y, hYe⟩ : ∃ Y, r1[j] = Y := ⟨_, rfl⟩
          rw [hYe] at hc'
          rw [hYe] at hlt2
          clear hYe hXY
          have hXY' : decide (X ≤ Y) = false := decide_eq_false (by omega)
          have hk1 : decide ((0 : Int) < (k : Int)) = true := decide_eq_true (by omega)
          have hk1n : decide (0 < k) = true := decide_eq_true (by omega)
          have hkp : 0 < k := by omega
          have hkj : (k : Int) - 1 = (j : Int) := by omega
          have hjr : j < r1.length := by omega
          have hwj : IntKind.i64.wrap (j : Int) = (j : Int) := IntWalk.i64_in _ (by omega)
          have HJ := Lib.hid hj
          clear hj hk0
          go_wp2
          go_big_quiet (fail)
          go_wp2
          go_roundw
          case rel => exact ⟨k + 1, by omega, by go_num, _, rfl⟩
          case measure => simp [intOf] <;> omega
      · obtain rfl : k = r1.length := by omega
        clear hk
        obtain ⟨G, hG⟩ : ∃ G, z1.map greatZ = G := ⟨_, rfl⟩
        have hGl : G.length ≤ 80 := by rw [← hG, List.length_map]; omega
        have hGw : ∀ z ∈ G, (Lit.int .i32 z).wf = true := by rw [← hG]; exact great_wf w1
        have cg := fun W a => great_ok A1 c1 z1 W (by omega) a w1
        simp only [hG] at cg
        have HG := Lib.hid hG
        clear hG
        obtain ⟨ZS, hZ⟩ : ∃ ZS, z0 ++ [s2] = ZS := ⟨_, rfl⟩
        have hZl : ZS.length ≤ 21 := by rw [← hZ, List.length_append]; have := HSM.out.1; simp; omega
        have hZs : ∀ z ∈ ZS, z.size ≤ 1000000 := by
          rw [← hZ]; intro z hz
          rcases List.mem_append.1 hz with e | e
          · have := HSM.out.2 z e; omega
          · rw [List.mem_singleton.1 e]; omega
        have HZ := Lib.hid hZ
        have cn2 := fun A c W a b => pnew_ok A c ZS W (by omega) hZs a b
        have hok2 := newS_ok ZS
        obtain ⟨N2, hr2⟩ : ∃ N, newS ZS = N := ⟨_, rfl⟩
        obtain ⟨acc2, k2, E2⟩ := N2
        simp only [hr2] at cn2 hok2
        have hac2 : acc2.length ≤ 21 := by omega
        have HOK2 := Lib.hid hok2.1
        have HN2 := Lib.hid hr2
        clear hr2 hok2 hZ
        have cp := fun W b => pparse_ok s2 W (by omega) b
        have hzl : z0.length ≤ 100000 := by have := HSM.out.1; omega
        have HE0 := Lib.hid e0
        cases hP : patS s2 with
        | none =>
          simp only [hP] at cp
          go_wp2_with (first
            | (go_at_call 24; refine (cg _ (h13.carry (up_drewN W3 q))).mono ?_; rintro e W4 ⟨vg, rfl, Ag, cG, rfl, ⟨hgc, _⟩, hg, hb4⟩; have HB4 := Lib.hid (below_trans (up_drewN W3 q) hb4 (up_drewN W3 q).size); clear hb4)
            | (go_at_call 19; refine (ppoints_ok _ acc Ag cG G _ (by omega) HOK.out (by omega) hgc hGw (HT3.out.below HB4.out) hg).mono ?_; rintro e W5 ⟨r9, ⟨u9, rfl, A9, c9, rfl, _, hu9, hb5⟩, hp9⟩; have he9 : r9 = r1 := (PointsS.great (by rw [HG.out]; exact hp9)).one HP1.out; subst he9; have HB5 := Lib.hid (below_trans HB4.out hb5 HB4.out.size); clear hb5 hp9)
            | (go_at_call 12; refine (eqs_ok A9 Au c9 cu r9.length r9 _ rfl (by omega) hu9 (hu.carry HB5.out)).mono ?_; rintro e W6 ⟨rfl, hb6⟩; have HB6 := Lib.hid (below_trans HB5.out hb6 HB5.out.size); clear hb6 hu9)
            | (go_at_call 9; refine (cp _ (Utf8Tabs_below (Utf8Tabs_below HTB.out HB3.out) HB6.out)).mono ?_; rintro e W7 ⟨rfl, hb7⟩; have HB7 := Lib.hid (below_trans HB6.out hb7 HB6.out.size); have hz7 := Lib.hid (strs_hasN (h03.carry HB7.out)); have hM7 := Lib.hid (MineN.nil_ (R := LSt) 9 W7 W7.heap.size); clear hb7)
            | (at_builtin; refine wpList_pushallN (R := LSt) rfl _ _ 31 rfl _ Tryd.underlying31 infoSt rfl (by decide) (by decide) W7.heap.size _ [] z0 _ A0 z0.length c0 rfl HE0.out hz7.out hM7.out rfl rfl (Nat.le_refl _) (by simp) hzl ?_; intro v8 W8 hM8 hb8; rw [List.nil_append] at hM8; have HM8 := Lib.hid hM8; have HB8 := Lib.hid hb8; clear hM8 hb8)
            | (at_builtin; refine wpList_pushN (R := LSt) rfl _ _ 31 rfl _ Tryd.underlying31 infoSt rfl (by decide) (by decide) W7.heap.size _ z0 s2 _ _ rfl HM8.out rfl rfl HB8.out.size (by omega) ?_; intro v9 W9 hM9 hb9 hf9; rw [HZ.out] at hM9; obtain ⟨A9', c9', rfl, _, _, hh9⟩ := hM9.has; have HS9 := Lib.hid (has_strs_of hh9); have HB9 := Lib.hid (below_trans HB7.out (HB8.out.trans hb9) HB7.out.size); clear hM9 hb9 hf9 hh9)
            | (go_at_call 15; refine (cn2 _ _ _ HS9.out (Utf8Tabs_below (Utf8Tabs_below HTB.out HB3.out) HB9.out)).mono ?_; rintro e W10 ⟨y, rfl, hN2, hb10⟩; have HB10 := Lib.hid (below_trans HB9.out hb10 HB9.out.size); clear hb10))
          go_ret
          exact ⟨rfl, below_trans HB3.out HB10.out HB3.out.size⟩
        | some p =>
          simp only [hP] at cp
          have hpk := patS_ok hP
          have hpl := mayB_len hpk
          have HPK := Lib.hid hpk
          clear hpk
          cases hV : evenB p.2 with
          | false =>
            go_wp2_with (first
              | (go_at_call 24; refine (cg _ (h13.carry (up_drewN W3 q))).mono ?_; rintro e W4 ⟨vg, rfl, Ag, cG, rfl, ⟨hgc, _⟩, hg, hb4⟩; have HB4 := Lib.hid (below_trans (up_drewN W3 q) hb4 (up_drewN W3 q).size); clear hb4)
              | (go_at_call 19; refine (ppoints_ok _ acc Ag cG G _ (by omega) HOK.out (by omega) hgc hGw (HT3.out.below HB4.out) hg).mono ?_; rintro e W5 ⟨r9, ⟨u9, rfl, A9, c9, rfl, _, hu9, hb5⟩, hp9⟩; have he9 : r9 = r1 := (PointsS.great (by rw [HG.out]; exact hp9)).one HP1.out; subst he9; have HB5 := Lib.hid (below_trans HB4.out hb5 HB4.out.size); clear hb5 hp9)
              | (go_at_call 12; refine (eqs_ok A9 Au c9 cu r9.length r9 _ rfl (by omega) hu9 (hu.carry HB5.out)).mono ?_; rintro e W6 ⟨rfl, hb6⟩; have HB6 := Lib.hid (below_trans HB5.out hb6 HB5.out.size); clear hb6 hu9)
              | (go_at_call 9; refine (cp _ (Utf8Tabs_below (Utf8Tabs_below HTB.out HB3.out) HB6.out)).mono ?_; rintro e W7 ⟨v7, u7, rfl, ⟨A7, c7, rfl, _, _, hb7⟩, ⟨D7, d7, rfl, _, hd7, _⟩⟩; have HB7 := Lib.hid (below_trans HB6.out hb7 HB6.out.size); have hz7 := Lib.hid (strs_hasN (h03.carry HB7.out)); have hM7 := Lib.hid (MineN.nil_ (R := LSt) 9 W7 W7.heap.size); clear hb7)
              | (at_builtin; refine wpList_pushallN (R := LSt) rfl _ _ 31 rfl _ Tryd.underlying31 infoSt rfl (by decide) (by decide) W7.heap.size _ [] z0 _ A0 z0.length c0 rfl HE0.out hz7.out hM7.out rfl rfl (Nat.le_refl _) (by simp) hzl ?_; intro v8 W8 hM8 hb8; rw [List.nil_append] at hM8; have HM8 := Lib.hid hM8; have HB8 := Lib.hid hb8; clear hM8 hb8)
              | (at_builtin; refine wpList_pushN (R := LSt) rfl _ _ 31 rfl _ Tryd.underlying31 infoSt rfl (by decide) (by decide) W7.heap.size _ z0 s2 _ _ rfl HM8.out rfl rfl HB8.out.size (by omega) ?_; intro v9 W9 hM9 hb9 hf9; rw [HZ.out] at hM9; obtain ⟨A9', c9', rfl, _, _, hh9⟩ := hM9.has; have HS9 := Lib.hid (has_strs_of hh9); have HB9 := Lib.hid (below_trans HB7.out (HB8.out.trans hb9) HB7.out.size); have HD9 := Lib.hid (hd7.carry (HB8.out.trans hb9)); clear hM9 hb9 hf9 hh9)
              | (go_at_call 15; refine (cn2 _ _ _ HS9.out (Utf8Tabs_below (Utf8Tabs_below HTB.out HB3.out) HB9.out)).mono ?_; rintro e W10 ⟨y, rfl, hN2, hb10⟩; have HB10 := Lib.hid (below_trans HB9.out hb10 HB9.out.size); have HD10 := Lib.hid (HD9.out.carry hb10); clear hb10)
              | (go_at_call 25; refine (even_ok D7 d7 p.2 _ (by omega) HD10.out).mono ?_; rintro e w' ⟨he, rfl⟩; rw [hV] at he; subst he))
            go_ret
            exact ⟨rfl, below_trans HB3.out HB10.out HB3.out.size⟩
          | true =>
          by_cases hE2 : E2 = 0
          · subst hE2
            go_wp2_with (first
              | (go_at_call 24; refine (cg _ (h13.carry (up_drewN W3 q))).mono ?_; rintro e W4 ⟨vg, rfl, Ag, cG, rfl, ⟨hgc, _⟩, hg, hb4⟩; have HB4 := Lib.hid (below_trans (up_drewN W3 q) hb4 (up_drewN W3 q).size); clear hb4)
              | (go_at_call 19; refine (ppoints_ok _ acc2 A1 c1 z1 _ (by omega) HOK2.out (by omega) m1 w1 HT10.out (h13.carry HB10.out)).mono ?_; rintro e W11 ⟨r2, ⟨u2, rfl, Au2, cu2, rfl, _, hu2, hb11⟩, hp2⟩; have HB11 := Lib.hid (below_trans HB10.out hb11 HB10.out.size); clear hb11)
              | (go_at_call 19; refine (ppoints_ok _ acc Ag cG G _ (by omega) HOK.out (by omega) hgc hGw (HT3.out.below HB4.out) hg).mono ?_; rintro e W5 ⟨r9, ⟨u9, rfl, A9, c9, rfl, _, hu9, hb5⟩, hp9⟩; have he9 : r9 = r1 := (PointsS.great (by rw [HG.out]; exact hp9)).one HP1.out; subst he9; have HB5 := Lib.hid (below_trans HB4.out hb5 HB4.out.size); clear hb5 hp9)
              | (go_at_call 12; refine (eqs_ok A9 Au c9 cu r9.length r9 _ rfl (by omega) hu9 (hu.carry HB5.out)).mono ?_; rintro e W6 ⟨rfl, hb6⟩; have HB6 := Lib.hid (below_trans HB5.out hb6 HB5.out.size); clear hb6 hu9)
              | (go_at_call 9; refine (cp _ (Utf8Tabs_below (Utf8Tabs_below HTB.out HB3.out) HB6.out)).mono ?_; rintro e W7 ⟨v7, u7, rfl, ⟨A7, c7, rfl, _, _, hb7⟩, ⟨D7, d7, rfl, _, hd7, _⟩⟩; have HB7 := Lib.hid (below_trans HB6.out hb7 HB6.out.size); have hz7 := Lib.hid (strs_hasN (h03.carry HB7.out)); have hM7 := Lib.hid (MineN.nil_ (R := LSt) 9 W7 W7.heap.size); clear hb7)
              | (at_builtin; refine wpList_pushallN (R := LSt) rfl _ _ 31 rfl _ Tryd.underlying31 infoSt rfl (by decide) (by decide) W7.heap.size _ [] z0 _ A0 z0.length c0 rfl HE0.out hz7.out hM7.out rfl rfl (Nat.le_refl _) (by simp) hzl ?_; intro v8 W8 hM8 hb8; rw [List.nil_append] at hM8; have HM8 := Lib.hid hM8; have HB8 := Lib.hid hb8; clear hM8 hb8)
              | (at_builtin; refine wpList_pushN (R := LSt) rfl _ _ 31 rfl _ Tryd.underlying31 infoSt rfl (by decide) (by decide) W7.heap.size _ z0 s2 _ _ rfl HM8.out rfl rfl HB8.out.size (by omega) ?_; intro v9 W9 hM9 hb9 hf9; rw [HZ.out] at hM9; obtain ⟨A9', c9', rfl, _, _, hh9⟩ := hM9.has; have HS9 := Lib.hid (has_strs_of hh9); have HB9 := Lib.hid (below_trans HB7.out (HB8.out.trans hb9) HB7.out.size); have HD9 := Lib.hid (hd7.carry (HB8.out.trans hb9)); clear hM9 hb9 hf9 hh9)
              | (go_at_call 15; refine (cn2 _ _ _ HS9.out (Utf8Tabs_below (Utf8Tabs_below HTB.out HB3.out) HB9.out)).mono ?_; rintro e W10 ⟨y, rfl, hN2, hb10⟩; have HB10 := Lib.hid (below_trans HB9.out hb10 HB9.out.size); have HD10 := Lib.hid (HD9.out.carry hb10); have hT10 := hN2.1 rfl; obtain ⟨Y, rfl⟩ := hT10.ptr; have HT10 := Lib.hid hT10; clear hT10 hN2;clear hb10)
              | (go_at_call 25; refine (even_ok D7 d7 p.2 _ (by omega) HD10.out).mono ?_; rintro e w' ⟨he, rfl⟩; rw [hV] at he; subst he))
            have hr1 := HRI.out.1
            have hr2 := hp2.rise.1
            have hrl2 := hp2.length
            obtain ⟨p', hp', hacc⟩ := newS_snoc HN1.out (by rw [HZ.out]; exact HN2.out)
            rw [hP] at hp'
            injection hp' with hp'
            subst hp'
            have hsub := PointsS.even HP1.out (by rw [← hacc]; exact hp2) (ok_digits HOK.out) (even_digits HPK.out hV)
            have HSUB := Lib.hid hsub
            have HR1 := Lib.hid hr1
            have HR2 := Lib.hid hr2
            have hA := hu.carry HB11.out
            clear hr1 hr2 hsub hacc hp2 hpl hP hV cp cn cn2 cg cm
            go_loopw [20, 21] (fun kk ii wr => ∃ m n : Nat, m ≤ r9.length ∧ n ≤ r2.length ∧ kk = .int .i64 m ∧ ii = .int .i64 n ∧ Hid (∀ (hn : n < r2.length) (q : Nat) (hq : q < r9.length), q < m → r9[q] < r2[n]) ∧ ∃ d, wr = W11.drewN d) (fun _ ii _ => r2.length - (intOf ii).toNat)
            case atStart => exact ⟨0, 0, by omega, by omega, rfl, rfl, Lib.hid (fun _ q _ h => absurd h (by omega)), 0, rfl⟩
            case round =>
              obtain ⟨m, n, hm, hn, rfl, rfl, HLo, d, rfl⟩ := hrel
              by_cases hlt2 : n < r2.length
              · obtain ⟨b2, off2, rfl, hb2, hc2⟩ := hu2.at_int hlt2
                have hz := HSUB.out _ (List.getElem_mem hlt2)
                have hlo := HLo.out hlt2
                have hnx := fun (h : n + 1 < r2.length) => rise_lt HR2.out (Nat.lt_succ_self n) h
                obtain ⟨Z, hZe⟩ : ∃ Z, r2[n] = Z := ⟨_, rfl⟩
                rw [hZe] at hc2 hz
                simp only [hZe] at hlo hnx
                have HZZ := Lib.hid hz
                have HLO := Lib.hid hlo
                have HNX := Lib.hid hnx
                clear hZe hz hlo hnx HLo hb2
                go_wp2
                go_loopw [20] (fun kk wr2 => ∃ m2 : Nat, m2 ≤ r9.length ∧ kk = .int .i64 m2 ∧ Hid (∀ (q : Nat) (hq : q < r9.length), q < m2 → r9[q] < Z) ∧ ∃ d, wr2 = W11.drewN d) (fun kk _ => r9.length - (intOf kk).toNat)
                case atStart => exact ⟨m, hm, rfl, HLO, d, rfl⟩
                case round =>
                  obtain ⟨m2, hm2, rfl, HL2, d2, rfl⟩ := hrel
                  by_cases hlm : m2 < r9.length
                  · obtain ⟨b1, off1, rfl, hb1, hc1⟩ := hA.at_int hlm
                    have HXE : Hid (∃ X, r9[m2] = X) := Lib.hid ⟨_, rfl⟩
                    obtain ⟨X, hXe⟩ : ∃ X, r9[m2] = X := ⟨_, rfl⟩
                    rw [hXe] at hc1
                    have HXe := Lib.hid hXe
                    clear hXe hb1
                    have hd1 : decide ((m2 : Int) < (r9.length : Int)) = true := decide_eq_true (by omega)
                    have hd2 : decide (m2 < r9.length) = true := decide_eq_true hlm
                    by_cases hXZ : X < Z
                    · have hd3 : decide (X < Z) = true := decide_eq_true hXZ
                      go_wp2
                      go_big_quiet (fail)
                      go_wp2
                      go_roundw
                      case rel =>
                        refine ⟨m2 + 1, by omega, by go_num, Lib.hid (fun q hq hqm => ?_), _, rfl⟩
                        rcases Nat.lt_or_ge q m2 with e | e
                        · exact HL2.out q hq e
                        · have e2 : q = m2 := by omega
                          subst e2
                          rw [HXe.out]; exact hXZ
                      case measure => simp [intOf] <;> omega
                    · obtain ⟨_, hXz⟩ := rise_find HR1.out HZZ.out HL2.out (fun h => by rw [HXe.out]; exact hXZ)
                      have hXz' : X = Z := HXe.out.symm.trans hXz
                      clear hXz
                      have HXe2 := Lib.hid (HXe.out)
                      clear HXe HXE
                      subst hXz'
                      have hd3 : decide (X < X) = false := decide_eq_false hXZ
                      have hd4 : ((m2 : Int) == (r9.length : Int)) = false := beq_eq_false_iff_ne.2 (by omega)
                      have hd5 : (m2 == r9.length) = false := beq_eq_false_iff_ne.2 (by omega)
                      clear hXZ
                      go_wp2
                      go_big_quiet (fail)
                      go_wp2
                      go_big_quiet (fail)
                      go_wp2
                      go_roundw
                      case rel => exact ⟨m2, n + 1, by omega, by omega, rfl, by go_num, Lib.hid (fun hn' q hq hqm => Int.lt_trans (HL2.out q hq hqm) (HNX.out hn')), _, rfl⟩
                      case measure => simp [intOf] <;> omega
                  · exfalso
                    obtain ⟨h, _⟩ := rise_find HR1.out HZZ.out HL2.out (fun h => absurd h hlm)
                    exact hlm h
              · obtain rfl : n = r2.length := by omega
                go_wp2
                go_ret
                exact ⟨rfl, below_trans HB3.out (below_drewN HB11.out _) HB3.out.size⟩
          ·
            go_wp2_with (first
              | (go_at_call 24; refine (cg _ (h13.carry (up_drewN W3 q))).mono ?_; rintro e W4 ⟨vg, rfl, Ag, cG, rfl, ⟨hgc, _⟩, hg, hb4⟩; have HB4 := Lib.hid (below_trans (up_drewN W3 q) hb4 (up_drewN W3 q).size); clear hb4)
              | (go_at_call 19; refine (ppoints_ok _ acc Ag cG G _ (by omega) HOK.out (by omega) hgc hGw (HT3.out.below HB4.out) hg).mono ?_; rintro e W5 ⟨r9, ⟨u9, rfl, A9, c9, rfl, _, hu9, hb5⟩, hp9⟩; have he9 : r9 = r1 := (PointsS.great (by rw [HG.out]; exact hp9)).one HP1.out; subst he9; have HB5 := Lib.hid (below_trans HB4.out hb5 HB4.out.size); clear hb5 hp9)
              | (go_at_call 12; refine (eqs_ok A9 Au c9 cu r9.length r9 _ rfl (by omega) hu9 (hu.carry HB5.out)).mono ?_; rintro e W6 ⟨rfl, hb6⟩; have HB6 := Lib.hid (below_trans HB5.out hb6 HB5.out.size); clear hb6 hu9)
              | (go_at_call 9; refine (cp _ (Utf8Tabs_below (Utf8Tabs_below HTB.out HB3.out) HB6.out)).mono ?_; rintro e W7 ⟨v7, u7, rfl, ⟨A7, c7, rfl, _, _, hb7⟩, ⟨D7, d7, rfl, _, hd7, _⟩⟩; have HB7 := Lib.hid (below_trans HB6.out hb7 HB6.out.size); have hz7 := Lib.hid (strs_hasN (h03.carry HB7.out)); have hM7 := Lib.hid (MineN.nil_ (R := LSt) 9 W7 W7.heap.size); clear hb7)
              | (at_builtin; refine wpList_pushallN (R := LSt) rfl _ _ 31 rfl _ Tryd.underlying31 infoSt rfl (by decide) (by decide) W7.heap.size _ [] z0 _ A0 z0.length c0 rfl HE0.out hz7.out hM7.out rfl rfl (Nat.le_refl _) (by simp) hzl ?_; intro v8 W8 hM8 hb8; rw [List.nil_append] at hM8; have HM8 := Lib.hid hM8; have HB8 := Lib.hid hb8; clear hM8 hb8)
              | (at_builtin; refine wpList_pushN (R := LSt) rfl _ _ 31 rfl _ Tryd.underlying31 infoSt rfl (by decide) (by decide) W7.heap.size _ z0 s2 _ _ rfl HM8.out rfl rfl HB8.out.size (by omega) ?_; intro v9 W9 hM9 hb9 hf9; rw [HZ.out] at hM9; obtain ⟨A9', c9', rfl, _, _, hh9⟩ := hM9.has; have HS9 := Lib.hid (has_strs_of hh9); have HB9 := Lib.hid (below_trans HB7.out (HB8.out.trans hb9) HB7.out.size); have HD9 := Lib.hid (hd7.carry (HB8.out.trans hb9)); clear hM9 hb9 hf9 hh9)
              | (go_at_call 15; refine (cn2 _ _ _ HS9.out (Utf8Tabs_below (Utf8Tabs_below HTB.out HB3.out) HB9.out)).mono ?_; rintro e W10 ⟨y, rfl, hN2, hb10⟩; have HB10 := Lib.hid (below_trans HB9.out hb10 HB9.out.size); have HD10 := Lib.hid (HD9.out.carry hb10); clear hb10)
              | (go_at_call 25; refine (even_ok D7 d7 p.2 _ (by omega) HD10.out).mono ?_; rintro e w' ⟨he, rfl⟩; rw [hV] at he; subst he))
            go_ret
            exact ⟨rfl, below_trans HB3.out HB10.out HB3.out.size⟩
  · go_enter Tryd.func8, Tryd.ntmps8
    go_wp2_with (first
      | (go_at_call 17; refine cm.mono ?_; rintro e w' ⟨rfl, rfl⟩)
      | (go_at_call 15; refine (cn _ h0 HTB.out).mono ?_; rintro e W1 ⟨v, rfl, hN, hb1⟩; obtain rfl := hN.2 hE; clear hN; have HB := Lib.hid hb1; clear hb1)
      | (go_at_call 23; refine (alive_ok _ (Utf8Tabs_below HTB.out HB.out)).mono ?_; rintro e W2 ⟨rfl, hb2⟩; have HB' := Lib.hid (below_trans HB.out hb2 HB.out.size); clear hb2 HB; have HB := HB'; clear HB'))
    go_ret
    exact ⟨rfl, HB.out⟩

theorem laid_met (os : Os) : laidMet Tryd.prog Rows.hyphenKeepsRow.laid ((world8 os).forCall (fun _ _ => 0) ⟨#[], #[.slice none 0 0, .slice none 0 0, .string ⟨#[]⟩], []⟩).memory :=
  laidMet_of_run' 8 (by kernel_rfl) (by kernel_rfl)
theorem reads (os : Os) {H : Type} (enc : TypeId × Value → H) : ∃ places, DataW.whole enc Tryd.prog ((world8 os).forCall (fun _ _ => 0) ⟨#[], #[.slice none 0 0, .slice none 0 0, .string ⟨#[]⟩], []⟩).memory Tryd.f8.params.toList Rows.hyphenKeepsSpec.vars false (#[.slice none 0 0, .slice none 0 0, .string ⟨#[]⟩] : Array Value).toList 8 = some ([.nil, .nil, .lit (.string [])], [], places) :=
  ⟨[], by kernel_rfl⟩
set_option maxRecDepth 100000 in
theorem lifted (os : Os) (started : os.Started) (H : Type) (enc : TypeId × Value → H) (F : Stop.Interp) :
    ReturnsInHanded {} Tryd.checked os 8 .any ((OpenSpec.ofChange Rows.hyphenKeepsSpec).preRow enc Tryd.prog Tryd.f8 Rows.hyphenKeepsRow.domain false Rows.hyphenKeepsRow.laid) (((OpenSpec.ofChange Rows.hyphenKeepsSpec).at F).post enc Tryd.prog Tryd.f8 false true false false) := by
  obtain ⟨places, hx⟩ := reads os enc
  refine returnsInHanded_of_row (C := Tryd.checked) (s := OpenSpec.ofChange Rows.hyphenKeepsSpec) own started (by kernel_rfl) Tryd.func8
    (witness_row_at (enc := enc) (C := Tryd.checked) false (world8 os) #[.slice none 0 0, .slice none 0 0, .string ⟨#[]⟩] rfl (by kernel_rfl) (by kernel_rfl) (by kernel_rfl)
      (OpenSpec.preRow_of_cond 8 hx (by kernel_rfl) (fun k hk => by cases hk) (by kernel_rfl) (laid_met os))) ?_
  intro W base args ds gs before hval0 hW _ _ _ hL _ _
  have hT := tabs8 hL
  have hval : ∀ (j : Nat) t v, Tryd.f8.params[j]? = some t → args[j]? = some v → Value.okWide Tryd.prog W .any base t v := hval0
  have hW' := hW
  obtain ⟨p, q, hA0, hV, rfl, hfz, hnd⟩ := hW
  have hA : DataW.TrodAll enc Tryd.prog W 0 (fun _ => true) true Tryd.f8.params.toList args.toList ds p := hA0
  rw [Tryd.params8] at hA hval
  obtain ⟨v0, vs0, d0, ds0, p0, q0, hargs, rfl, rfl, h0, r0⟩ := trodAll_cons hA
  obtain ⟨v1, vs1, d1, ds1, p1, q1, rfl, rfl, rfl, h1, r1⟩ := trodAll_cons r0
  obtain ⟨v2, vs2, d2, ds2, p2, q2, rfl, rfl, rfl, h2, r2⟩ := trodAll_cons r1
  obtain ⟨rfl, rfl, rfl⟩ := trodAll_nil r2
  obtain rfl : args = #[v0, v1, v2] := by cases args; simp_all
  obtain ⟨rfl, rfl⟩ := trodVars_none hV
  clear hA0 hval0
  have hlt : ∀ x ∈ p0 ++ (p1 ++ (p2 ++ [])), x.block < W.heap.size := fun x hx => by simpa using hW'.lt x (List.mem_append_left _ hx)
  have k0 := h0
  have k1 := h1
  have k2 := h2
  obtain ⟨A0, l0, c0, rfl⟩ := okWide_slice Tryd.underlying31 (hval 0 31 v0 rfl rfl)
  obtain ⟨z0, rfl, n0, m0, w0, hh0⟩ := has_strs Tryd.underlying31 Tryd.underlying9 (by kernel_rfl) h0 (fun x hx => hlt x (List.mem_append_left _ hx))
  have e0 := none_cap_strs Tryd.underlying31 Tryd.underlying9 (by kernel_rfl) k0
  obtain ⟨A1, l1, c1, rfl⟩ := okWide_slice Tryd.underlying22 (hval 1 22 v1 rfl rfl)
  obtain ⟨z1, rfl, n1, m1, w1, hh1⟩ := has_ints Tryd.underlying22 Tryd.underlying21 (by kernel_rfl) h1 (fun x hx => hlt x (List.mem_append_right _ (List.mem_append_left _ hx)))
  have e1 := none_cap Tryd.underlying22 Tryd.underlying21 (by kernel_rfl) k1
  obtain ⟨s2, rfl, rfl, rfl, w2⟩ := Go.ChangeMaps.open_string Tryd.underlying9 (hval 2 9 v2 rfl rfl) h2
  refine (walk A0 c0 z0 A1 c1 z1 s2 W hT n0 m0 w0 hh0 e0 n1 m1 w1 hh1 e1 w2).mono fun e W' ⟨he, hb⟩ => ?_
  subst he
  exact ⟨_, rfl, _, _, _, [], _, [], hW', (trodAll_cons_mk (shut_bool Tryd.underlying4 _) trodAll_mk0), (trodAll_cons_mk (Below.trod laidOut (by kernel_rfl) (of_decide_eq_true (by kernel_rfl)) k0 hb (fun x hx => hlt x (List.mem_append_left _ hx))) (trodAll_cons_mk (Below.trod laidOut (by kernel_rfl) (of_decide_eq_true (by kernel_rfl)) k1 hb (fun x hx => hlt x (List.mem_append_right _ (List.mem_append_left _ hx)))) (trodAll_cons_mk (Below.trod laidOut (by kernel_rfl) (of_decide_eq_true (by kernel_rfl)) k2 hb (fun x hx => hlt x (List.mem_append_right _ (List.mem_append_right _ (List.mem_append_left _ hx))))) trodAll_mk0))), rfl, hb.frame _, fun h => by cases h⟩

theorem over : Rows.HyphenKeepsSaid :=
  OpenClaim.holds_of_cond 8 Tryd.f8 rfl rfl rfl rfl rfl rfl rfl ⟨rfl, rfl, rfl, rfl, rfl⟩ rfl rfl rfl rfl rfl (by kernel_rfl) Tryd.func8 (by kernel_rfl)
    (of_decide_eq_true (by kernel_rfl)) (by unfold Func.isWrapper; first | (rw [if_pos (by decide +kernel)]; kernel_rfl) | (rw [if_neg (by decide +kernel)]; exact ⟨rfl, rfl⟩))
    (fun os started H enc _ F => by rw [OpenClaim.pre_eq_preRow]; exact lifted os started H enc F)

theorem plain (f : FuncId) (fn : Func) (hf : Tryd.pinned.checked.prog.funcNamed "typecase/typecaselaw20.HyphenKeeps" = some f) (hfn : Tryd.pinned.checked.prog.funcs[f]? = some fn) :
    false = Tryd.pinned.checked.prog.looks [] ∧ ∀ (j : Nat) t, fn.params[j]? = some t → Tryd.pinned.checked.prog.wantsStandIn t = false := by
  obtain rfl : f = 8 := Option.some.inj ((show Tryd.prog.funcNamed "typecase/typecaselaw20.HyphenKeeps" = some 8 by kernel_rfl).symm.trans hf) |>.symm
  obtain rfl : fn = Tryd.f8 := (Option.some.inj (Tryd.func8.symm.trans hfn)).symm
  refine ⟨by kernel_rfl, fun j t ht => ?_⟩
  rw [Tryd.params8] at ht
  have hm := Array.mem_of_getElem? ht
  simp only [List.mem_toArray, List.mem_cons, List.not_mem_nil, or_false] at hm
  rcases hm with rfl | rfl | rfl
  · exact (show Tryd.prog.wantsStandIn 31 = false by kernel_rfl)
  · exact (show Tryd.prog.wantsStandIn 22 = false by kernel_rfl)
  · exact (show Tryd.prog.wantsStandIn 9 = false by kernel_rfl)

/-- the statement: the tied card -/
theorem proved : Rows.HyphenKeepsCardSaid :=
  Claim7.holds_tied_plain_at .later [] _ _ _ _ over (fun _ h => by cases h) (by kernel_rfl) (fun _ h => by cases h) hyphenKeeps_row_tie rfl ⟨rfl, rfl⟩ (by kernel_rfl) rfl plain (by kernel_rfl)
#print axioms proved
end Go.Proofs.YtekjejbcdnghjaaDoor.hyphenKeeps
