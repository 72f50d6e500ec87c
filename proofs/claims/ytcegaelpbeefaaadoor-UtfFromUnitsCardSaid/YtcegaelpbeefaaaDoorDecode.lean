/-
  Contracts of Decode and Lossy, the program's. No condition beside the library's tables but that there are at most a million bytes.
-/
import Derived.Test.YtcegaelpbeefaaaDoorRune
import Derived.Test.YtcegaelpbeefaaaDoorEncode
set_option linter.unusedVariables false
namespace Go.Proofs.YtcegaelpbeefaaaDoor
open Go.ChangeShapes Go.WideShapes Go.ChangeAt Go.RowKit

theorem decG_ok (k : Nat) (s : List Int) (p : Nat) (t : List Int) (hp : p < s.length) (h : (standP (s.drop p)).2 = true) : decG (k + 1) s p t = decG k s (p + (standP (s.drop p)).1) (t ++ [runeP (s.drop p)]) := by
  rw [decG, if_pos hp, if_pos h]
theorem decG_bad (k : Nat) (s : List Int) (p : Nat) (t : List Int) (hp : p < s.length) (h : (standP (s.drop p)).2 = false) : decG (k + 1) s p t = ([], p, if truncP (s.drop p) = true then 4 else 3) := by
  rw [decG, if_pos hp, if_neg (by rw [h]; simp)]
theorem decG_end (k : Nat) (s : List Int) (t : List Int) : decG (k + 1) s s.length t = (t, s.length, 0) := by
  rw [decG, if_neg (by omega)]
theorem rest_facts (s : List Int) (p : Nat) (hp : p < s.length) : s.drop p ≠ [] ∧ (s.drop p).length = s.length - p ∧ p + (standP (s.drop p)).1 ≤ s.length := by
  have h1 : (s.drop p).length = s.length - p := List.length_drop
  have h2 : s.drop p ≠ [] := by intro e; rw [e] at h1; simp at h1; omega
  have h3 := standP_le (s.drop p) h2
  exact ⟨h2, h1, by omega⟩

set_option maxHeartbeats 2000000 in
theorem decode_ok (A : Option Addr) (c : Nat) (s : List Int) (w : World) (hn : s.length ≤ 1000000) (hc : s.length ≤ c) (hz : ByteZ s) (hT : Lib.Utf8Tabs 0 1 w) (h : Has w w.heap.size A (s.map (Value.int .u8))) :
    Calls Tryd.prog 17 #[.slice A s.length c] w fun e w' => TripleOf .i32 w w' e (decP s) := by
  have HZ := Lib.hid hz
  have HTT := Lib.hid hT
  clear hz hT
  go_enter Tryd.func17, Tryd.ntmps17
  go_wp2
  go_loopw [5, 6] (fun v i wr => ∃ (k p : Nat) (xs : List Int), p ≤ s.length ∧ xs.length ≤ p ∧ s.length < k + p ∧ i = .int .i64 p ∧ Mine .i32 21 wr w.heap.size v xs ∧ Below w.heap.size w wr ∧ Hid (decP s = decG k s p xs)) (fun _ i _ => s.length - (intOf i).toNat)
  case atStart => exact ⟨s.length + 1, 0, [], by omega, by simp, by omega, rfl, Mine.nil_ _ _ _ _, Below.refl _ _, Lib.hid rfl⟩
  case round =>
    obtain ⟨k, p, xs, hp, hxs, hk, rfl, hown, hbl, HG⟩ := hrel
    obtain ⟨k, rfl⟩ : ∃ k', k = k' + 1 := ⟨k - 1, by omega⟩
    have hsz := hbl.size
    by_cases hlt : p < s.length
    · obtain ⟨b, off, rfl, hb, hcc⟩ := (h.carry hbl).at_int hlt
      obtain ⟨hne, hul, hpn⟩ := rest_facts s p hlt
      have hpos := standP_pos (s.drop p)
      have hcp : ¬ c = p := by omega
      have tabs := tabs_below HTT.out hbl
      have hu := (h.carry hbl).drop p
      have cf := formZ_ok (some ⟨b, off + p, none⟩) (c - p) (s.drop p) _ tabs (HZ.out.drop p) hne hu
      have ct := fun w2 (hb2 : Below _ _ w2) => truncated_ok (some ⟨b, off + p, none⟩) (c - p) (s.drop p) w2 (tabs_below tabs hb2) (HZ.out.drop p) hne (hu.carry hb2)
      rw [hul] at cf ct
      have HOK := fun q => Lib.hid (HG.out.trans (decG_ok k s p xs hlt q))
      have HBAD := fun q => Lib.hid (HG.out.trans (decG_bad k s p xs hlt q))
      obtain ⟨N, hN⟩ : ∃ N, (standP (s.drop p)).1 = N := ⟨_, rfl⟩
      obtain ⟨R, hR⟩ : ∃ R, runeP (s.drop p) = R := ⟨_, rfl⟩
      obtain ⟨T, hTr⟩ : ∃ T, truncP (s.drop p) = T := ⟨_, rfl⟩
      obtain ⟨O, hO⟩ : ∃ O, (standP (s.drop p)).2 = O := ⟨_, rfl⟩
      rw [hN] at hpos hpn
      simp only [hN, hR, hO] at cf HOK
      simp only [hTr, hO] at HBAD ct
      clear h hcc hu tabs hne hul hN hR hTr hO HG
      cases O
      · have HB := HBAD rfl
        simp only [Bool.false_eq_true, if_false] at cf
        clear HOK HBAD hown
        cases T
        · go_wp2_with (first
            | (go_at_call 32; refine cf.mono ?_; rintro e w2 ⟨rfl, hb2⟩)
            | (go_at_call 33; refine (ct _ hb2).mono ?_; rintro e w3 ⟨rfl, hb3⟩))
          go_ret3
          have hd : decP s = ([], p, 3) := HB.out
          rw [hd]
          exact ⟨_, rfl, sliceV_nil _ _ _ (below_trans hbl (below_trans hb2 hb3 hb2.size) hsz)⟩
        · go_wp2_with (first
            | (go_at_call 32; refine cf.mono ?_; rintro e w2 ⟨rfl, hb2⟩)
            | (go_at_call 33; refine (ct _ hb2).mono ?_; rintro e w3 ⟨rfl, hb3⟩))
          go_ret3
          have hd : decP s = ([], p, 4) := HB.out
          rw [hd]
          exact ⟨_, rfl, sliceV_nil _ _ _ (below_trans hbl (below_trans hb2 hb3 hb2.size) hsz)⟩
      · have HO := HOK rfl
        simp only [if_true] at cf
        clear HOK HBAD ct
        have hnb : ((N : Int) == 0) = false := by simp; omega
        have hnz : ¬ (N : Int) = 0 := by omega
        go_wp2_with (first
          | (go_at_call 32; refine cf.mono ?_; rintro e w2 ⟨rfl, hb2⟩; have hown2 := hown.below hb2; have hbl2 := below_trans hbl hb2 hsz; have hsz2 := hbl2.size; clear hown hbl)
          | (at_builtin; refine wpList_push rfl _ _ 22 rfl Tryd.underlying22 infoI32 (by omega) w.heap.size _ xs R w _ hown2 rfl rfl hbl2 hsz2 (by omega) ?_; intro v' w1 hown' hbl'))
        go_roundw
        case rel => exact ⟨k, p + N, xs ++ [R], by omega, by simp; omega, by omega, by go_num, hown', hbl', HO⟩
        case measure => simp [intOf]; omega
    · obtain rfl : p = s.length := by omega
      have HE := Lib.hid (HG.out.trans (decG_end k s xs))
      go_wp2
      go_ret3
      have hd : decP s = (xs, s.length, 0) := HE.out
      rw [hd]
      exact ⟨_, rfl, hown.sliceV hbl⟩

theorem losG_step (k : Nat) (s : List Int) (p : Nat) (t : List Int) (hp : p < s.length) : losG (k + 1) s p t = losG k s (p + (standP (s.drop p)).1) (t ++ [if (standP (s.drop p)).2 = true then runeP (s.drop p) else 65533]) := by
  rw [losG, if_pos hp]
theorem losG_end (k : Nat) (s : List Int) (t : List Int) : losG (k + 1) s s.length t = t := by
  rw [losG, if_neg (by omega)]

set_option maxHeartbeats 2000000 in
theorem lossy_ok (A : Option Addr) (c : Nat) (s : List Int) (w : World) (hn : s.length ≤ 1000000) (hc : s.length ≤ c) (hz : ByteZ s) (hT : Lib.Utf8Tabs 0 1 w) (h : Has w w.heap.size A (s.map (Value.int .u8))) :
    Calls Tryd.prog 20 #[.slice A s.length c] w fun e w' => SliceOf .i32 w w' e (losP s) := by
  have HZ := Lib.hid hz
  have HTT := Lib.hid hT
  clear hz hT
  go_enter Tryd.func20, Tryd.ntmps20
  go_wp2
  go_loopw [3, 4] (fun v i wr => ∃ (k p : Nat) (xs : List Int), p ≤ s.length ∧ xs.length ≤ p ∧ s.length < k + p ∧ i = .int .i64 p ∧ Mine .i32 21 wr w.heap.size v xs ∧ Below w.heap.size w wr ∧ Hid (losP s = losG k s p xs)) (fun _ i _ => s.length - (intOf i).toNat)
  case atStart => exact ⟨s.length + 1, 0, [], by omega, by simp, by omega, rfl, Mine.nil_ _ _ _ _, Below.refl _ _, Lib.hid rfl⟩
  case round =>
    obtain ⟨k, p, xs, hp, hxs, hk, rfl, hown, hbl, HG⟩ := hrel
    obtain ⟨k, rfl⟩ : ∃ k', k = k' + 1 := ⟨k - 1, by omega⟩
    have hsz := hbl.size
    by_cases hlt : p < s.length
    · obtain ⟨b, off, rfl, hb, hcc⟩ := (h.carry hbl).at_int hlt
      obtain ⟨hne, hul, hpn⟩ := rest_facts s p hlt
      have hpos := standP_pos (s.drop p)
      have hcp : ¬ c = p := by omega
      have tabs := tabs_below HTT.out hbl
      have hu := (h.carry hbl).drop p
      have cf := formZ_ok (some ⟨b, off + p, none⟩) (c - p) (s.drop p) _ tabs (HZ.out.drop p) hne hu
      have ci := fun w2 (hb2 : Below _ _ w2) (hbad : (standP (s.drop p)).2 = false) => invalid_ok (some ⟨b, off + p, none⟩) (c - p) (s.drop p) w2 (by rw [hul]; omega) (by rw [hul]; omega) (tabs_below tabs hb2) (HZ.out.drop p) hne (hu.carry hb2) hbad
      rw [hul] at cf ci
      have HS := Lib.hid (HG.out.trans (losG_step k s p xs hlt))
      obtain ⟨N, hN⟩ : ∃ N, (standP (s.drop p)).1 = N := ⟨_, rfl⟩
      obtain ⟨R, hR⟩ : ∃ R, runeP (s.drop p) = R := ⟨_, rfl⟩
      obtain ⟨O, hO⟩ : ∃ O, (standP (s.drop p)).2 = O := ⟨_, rfl⟩
      rw [hN] at hpos hpn
      simp only [hN, hR, hO] at cf HS ci
      clear h hcc hu tabs hne hul hN hR hO HG
      cases O
      · simp only [Bool.false_eq_true, if_false] at cf HS
        go_wp2_with (first
          | (go_at_call 32; refine cf.mono ?_; rintro e w2 ⟨rfl, hb2⟩)
          | (go_at_call 37; refine (ci _ hb2 trivial).mono ?_; rintro e w3 ⟨rfl, hb3⟩; have hown2 := (hown.below hb2).below hb3; have hbl2 := below_trans hbl (below_trans hb2 hb3 hb2.size) hsz; have hsz2 := hbl2.size; clear hown hbl ci cf)
          | (at_builtin; refine wpList_push rfl _ _ 22 rfl Tryd.underlying22 infoI32 (by omega) w.heap.size _ xs 65533 w _ hown2 rfl rfl hbl2 hsz2 (by omega) ?_; intro v' w1 hown' hbl'))
        go_roundw
        case rel => exact ⟨k, p + N, xs ++ [65533], by omega, by simp; omega, by omega, by go_num, hown', hbl', HS⟩
        case measure => simp [intOf]; omega
      · simp only [if_true] at cf HS
        clear ci
        have hnb : ((N : Int) == 0) = false := by simp; omega
        have hnz : ¬ (N : Int) = 0 := by omega
        go_wp2_with (first
          | (go_at_call 32; refine cf.mono ?_; rintro e w2 ⟨rfl, hb2⟩; have hown2 := hown.below hb2; have hbl2 := below_trans hbl hb2 hsz; have hsz2 := hbl2.size; clear hown hbl)
          | (at_builtin; refine wpList_push rfl _ _ 22 rfl Tryd.underlying22 infoI32 (by omega) w.heap.size _ xs R w _ hown2 rfl rfl hbl2 hsz2 (by omega) ?_; intro v' w1 hown' hbl'))
        go_roundw
        case rel => exact ⟨k, p + N, xs ++ [R], by omega, by simp; omega, by omega, by go_num, hown', hbl', HS⟩
        case measure => simp [intOf]; omega
    · obtain rfl : p = s.length := by omega
      have HE := Lib.hid (HG.out.trans (losG_end k s xs))
      go_wp2
      go_ret
      have hd : losP s = xs := HE.out
      rw [hd]
      exact ⟨_, rfl, hown.sliceV hbl⟩
end Go.Proofs.YtcegaelpbeefaaaDoor
