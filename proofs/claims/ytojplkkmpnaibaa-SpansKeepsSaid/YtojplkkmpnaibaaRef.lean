/-
  Contracts of the document's Set, Part, Edit, at a whole list: over its values. No condition but bounds on lengths and numbers.
-/
import Derived.Test.YtojplkkmpnaibaaOf
set_option linter.unusedVariables false
namespace Go.Proofs.Ytojplkkmpnaibaa
open Go.ChangeShapes Go.WideShapes Go.ChangeAt Go.RowKit

/-- the first k values set -/
def setK (xs : List Int) (lo hi val : Int) (k : Nat) : List Int := xs.mapIdx fun i x => if i < k ∧ lo ≤ i ∧ (i : Int) < hi then val else x
def setP (xs : List Int) (lo hi val : Int) : List Int := xs.mapIdx fun i x => if lo ≤ i ∧ (i : Int) < hi then val else x
theorem setK_zero (xs : List Int) (lo hi val : Int) : setK xs lo hi val 0 = xs := by
  apply List.ext_getElem <;> simp [setK]
theorem setK_end (xs : List Int) (lo hi val : Int) : setK xs lo hi val xs.length = setP xs lo hi val := by
  apply List.ext_getElem
  · simp [setK, setP]
  · intro i h1 h2
    simp [setK, setP] at h1 ⊢
    simp [h1]
theorem setK_length (xs : List Int) (lo hi val : Int) (k : Nat) : (setK xs lo hi val k).length = xs.length := by simp [setK]
theorem setK_yes (xs : List Int) (lo hi val : Int) (k : Nat) (h : lo ≤ k ∧ (k : Int) < hi) : setK xs lo hi val (k + 1) = (setK xs lo hi val k).set k val := by
  apply List.ext_getElem
  · simp [setK]
  · intro i h1 h2
    simp only [setK, List.getElem_mapIdx, List.getElem_set]
    by_cases hk : k = i
    · subst hk
      rw [if_pos ⟨by omega, h⟩, if_pos rfl]
    · rw [if_neg hk]
      by_cases hc : i < k + 1 ∧ lo ≤ (i : Int) ∧ (i : Int) < hi
      · rw [if_pos hc, if_pos ⟨by omega, hc.2⟩]
      · rw [if_neg hc, if_neg (fun h => hc ⟨by omega, h.2⟩)]
theorem setK_no (xs : List Int) (lo hi val : Int) (k : Nat) (h : ¬ (lo ≤ k ∧ (k : Int) < hi)) : setK xs lo hi val (k + 1) = setK xs lo hi val k := by
  apply List.ext_getElem
  · simp [setK]
  · intro i h1 h2
    simp only [setK, List.getElem_mapIdx]
    by_cases hk : k = i
    · subst hk
      rw [if_neg (fun h' => h h'.2), if_neg (fun h' => h h'.2)]
    · by_cases hc : i < k + 1 ∧ lo ≤ (i : Int) ∧ (i : Int) < hi
      · rw [if_pos hc, if_pos ⟨by omega, hc.2⟩]
      · rw [if_neg hc, if_neg (fun h => hc ⟨by omega, h.2⟩)]

set_option maxHeartbeats 2000000 in
theorem rset_ok (A : Option Addr) (c n : Nat) (xs : List Int) (lo hi val : Int) (w : World) (hnl : n = (of xs).length) (hn : xs.length ≤ 10000) (hh : HasS w w.heap.size A (of xs)) :
    Calls Try.prog 24 #[.slice A n c, .int .i64 lo, .int .i64 hi, .int .i64 val] w fun e w' => SpansOf w w' e (of (setP xs lo hi val)) := by
  have hlo := length_of xs
  have H30 := Lib.hid (fun w1 (h : HasS w1 w1.heap.size A (of xs)) => End_ok A c n (of xs) w1 w1.heap.size hnl (by omega) h)
  have H29 := Lib.hid (fun w1 (h : HasS w1 w1.heap.size A (of xs)) => valsM_ok A c n (of xs) xs.length w1 hnl (by omega) (by omega) h)
  rw [endS_of] at H30
  rw [vals_of] at H29
  have HZ := Lib.hid (setK_zero xs lo hi val)
  have HY := Lib.hid (setK_yes xs lo hi val)
  have HNo := Lib.hid (setK_no xs lo hi val)
  have HLN := Lib.hid (setK_length xs lo hi val)
  have HEnd := Lib.hid (setK_end xs lo hi val)
  obtain ⟨m, hm⟩ : ∃ m, xs.length = m := ⟨_, rfl⟩
  rw [hm] at H29 H30 HLN HEnd hn
  have H33 := Lib.hid (fun A1 c1 w1 (h : Has w1 w1.heap.size A1 ((setP xs lo hi val).map (Value.int .i64))) => of_ok A1 c1 m (setP xs lo hi val) w1 (by simp [setP, hm]) (by omega) h)
  clear hm hnl hlo
  go_enter Try.func24, Try.ntmps24
  go_wp2_with (first
    | (go_at_call 30; refine (H30.out _ hh).mono ?_; rintro e w' ⟨rfl, rfl⟩)
    | (go_at_call 29; refine (H29.out _ hh).mono ?_; rintro e w1 ⟨v, rfl, hown0, hbl0⟩))
  rw [← HZ.out] at hown0
  obtain ⟨A1, c1, rfl, _⟩ := hown0.reads
  rw [HLN.out] at hown0 ⊢
  go_loopw [10] (fun j wr => ∃ k : Nat, k ≤ m ∧ j = .int .i64 k ∧ Mine .i64 3 wr w.heap.size (.slice A1 m c1) (setK xs lo hi val k) ∧ Below w.heap.size w wr) (fun j _ => m - (intOf j).toNat)
  case atStart => exact ⟨0, by omega, rfl, hown0, hbl0⟩
  case round =>
    clear hown0 hbl0
    obtain ⟨k, hk, rfl, hown, hbl⟩ := hrel
    by_cases hlt : k < m
    · have hsz := hbl.size
      obtain ⟨g, c', hv, hg1, hg2, hcell⟩ := hown.form (by intro h; have := HLN.out k; rw [h] at this; simp at this; omega)
      injection hv with hv1 hv2 hv3
      subst hv1; subst hv3
      have hset := fun y => Mine.set hown k (by rw [HLN.out]; exact hlt) y
      have hfz := hown.free k
      obtain ⟨X, hX⟩ : ∃ X, (setK xs lo hi val k)[k]? = some X := ⟨_, List.getElem?_eq_getElem (by rw [HLN.out]; exact hlt)⟩
      have hck := hcell k X hX
      clear hv2 hcell hX
      by_cases h1 : lo ≤ k
      · by_cases h2 : (k : Int) < hi
        · have HE := HY.out k ⟨h1, h2⟩
          have HF := hset val
          rw [← HE] at HF
          replace HF := Lib.hid HF
          clear HE hset hown
          go_wp2
          go_roundw
          case rel => exact ⟨k + 1, by omega, by go_num, HF.out, hbl.setCell (p := ⟨g, k, none⟩) hg1 _⟩
          case measure => simp [intOf]; omega
        · have HE := HNo.out k (fun h => h2 h.2)
          rw [← HE] at hown
          replace hown := Lib.hid hown
          clear HE hset
          go_wp2
          go_roundw
          case rel => exact ⟨k + 1, by omega, by go_num, hown.out, hbl⟩
          case measure => simp [intOf]; omega
      · have HE := HNo.out k (fun h => h1 h.1)
        rw [← HE] at hown
        replace hown := Lib.hid hown
        clear HE hset
        go_wp2
        go_roundw
        case rel => exact ⟨k + 1, by omega, by go_num, hown.out, hbl⟩
        case measure => simp [intOf]; omega
    · obtain rfl : k = m := by omega
      rw [HEnd.out] at hown
      obtain ⟨A2, c2, hv, hs⟩ := hown.reads
      injection hv with hv1 hv2 hv3
      subst hv1; subst hv3
      clear hv2 hown
      go_wp2_with (go_at_call 33; refine (H33.out A1 c1 _ hs).mono ?_; rintro e w2 ⟨v, rfl, A3, c3, rfl, hc3, hs3, hb3⟩)
      go_ret
      exact ⟨_, rfl, A3, c3, rfl, hc3, hs3, below_trans hbl hb3 hbl.size⟩

theorem pick_yes (xs : List Int) (lo hi : Int) (k : Nat) (h : k < xs.length) (hc : lo ≤ k ∧ (k : Int) < hi) : pick lo hi 0 (xs.take (k + 1)) = pick lo hi 0 (xs.take k) ++ [xs[k]] := by
  rw [List.take_add_one, List.getElem?_eq_getElem h]
  show pick lo hi 0 (xs.take k ++ [xs[k]]) = _
  rw [pick_snoc, if_pos (by rw [List.length_take]; omega)]
theorem pick_no (xs : List Int) (lo hi : Int) (k : Nat) (h : k < xs.length) (hc : ¬ (lo ≤ k ∧ (k : Int) < hi)) : pick lo hi 0 (xs.take (k + 1)) = pick lo hi 0 (xs.take k) := by
  rw [List.take_add_one, List.getElem?_eq_getElem h]
  show pick lo hi 0 (xs.take k ++ [xs[k]]) = _
  rw [pick_snoc, if_neg (by rw [List.length_take]; omega)]
  simp

set_option maxHeartbeats 2000000 in
theorem rpart_ok (A : Option Addr) (c n : Nat) (xs : List Int) (lo hi : Int) (w : World) (hnl : n = (of xs).length) (hn : xs.length ≤ 10000) (hh : HasS w w.heap.size A (of xs)) :
    Calls Try.prog 26 #[.slice A n c, .int .i64 lo, .int .i64 hi] w fun e w' => SpansOf w w' e (of (pick lo hi 0 xs)) := by
  have hlo := length_of xs
  have H30 := Lib.hid (fun w1 (h : HasS w1 w1.heap.size A (of xs)) => End_ok A c n (of xs) w1 w1.heap.size hnl (by omega) h)
  have H29 := Lib.hid (fun w1 (h : HasS w1 w1.heap.size A (of xs)) => vals_ok A c n (of xs) xs.length w1 hnl (by omega) (by omega) h)
  rw [endS_of] at H30
  rw [vals_of] at H29
  have HY := Lib.hid (pick_yes xs lo hi)
  have HNo := Lib.hid (pick_no xs lo hi)
  have HLN := Lib.hid (fun k => length_pick lo hi (xs.take k) 0)
  have H33 := Lib.hid (fun A1 c1 (k : Nat) (hk : xs.length ≤ k) w1 (h : Has w1 w1.heap.size A1 ((pick lo hi 0 (xs.take k)).map (Value.int .i64))) => (show Calls Try.prog 33 #[.slice A1 (pick lo hi 0 (xs.take k)).length c1] w1 fun e w' => SpansOf w1 w' e (of (pick lo hi 0 xs)) from by
    rw [List.take_of_length_le hk] at h ⊢
    exact of_ok A1 c1 _ _ w1 rfl (by have := length_pick lo hi xs 0; omega) h))
  obtain ⟨m, hm⟩ : ∃ m, xs.length = m := ⟨_, rfl⟩
  have HM := Lib.hid hm
  simp only [SliceOf, SliceV, hm] at H29
  rw [hm] at H30 hn
  clear hm hnl hlo
  go_enter Try.func26, Try.ntmps26
  go_wp2_with (first
    | (go_at_call 30; refine (H30.out _ hh).mono ?_; rintro e w' ⟨rfl, rfl⟩)
    | (go_at_call 29; refine (H29.out _ hh).mono ?_; rintro e w1 ⟨v, rfl, A1, c1, rfl, _, hs0, hbl0⟩))
  go_loopw [8, 9] (fun v j wr => ∃ k : Nat, k ≤ m ∧ j = .int .i64 k ∧ Mine .i64 3 wr w1.heap.size v (pick lo hi 0 (xs.take k)) ∧ Below w1.heap.size w1 wr) (fun _ j _ => m - (intOf j).toNat)
  case atStart => exact ⟨0, by omega, rfl, Mine.nil_ _ _ _ _, Below.refl _ _⟩
  case round =>
    obtain ⟨k, hk, rfl, hown, hbl⟩ := hrel
    by_cases hlt : k < m
    · have hsz := hbl.size
      have hlt1 : k < xs.length := by rw [HM.out]; exact hlt
      obtain ⟨b, off, rfl, hb, hc⟩ := (hs0.carry hbl).at_int hlt1
      obtain ⟨X, hX⟩ : ∃ X, xs[k] = X := ⟨_, rfl⟩
      have hlen := HLN.out k
      rw [List.length_take] at hlen
      by_cases h1 : lo ≤ k
      · by_cases h2 : (k : Int) < hi
        · have HE := HY.out k hlt1 ⟨h1, h2⟩
          rw [hX] at HE hc
          replace HE := Lib.hid HE
          have hlen2 : (pick lo hi 0 (xs.take k)).length ≤ 1000000000 := by omega
          generalize pick lo hi 0 (xs.take k) = ys at hown HE hlen2
          clear hX hlen
          go_wp2_with (at_builtin; refine wpList_push rfl _ _ 29 rfl Try.underlying29 full3 (by omega) w1.heap.size _ ys X w1 _ hown rfl rfl hbl hsz hlen2 ?_; intro v' w2 hown' hbl')
          go_roundw
          case rel => exact ⟨k + 1, by omega, by go_num, by rw [HE.out]; exact hown', hbl'⟩
          case measure => simp [intOf]; omega
        · have HE := HNo.out k hlt1 (fun h => h2 h.2)
          rw [← HE] at hown
          replace hown := Lib.hid hown
          clear HE hX hlen
          go_wp2
          go_roundw
          case rel => exact ⟨k + 1, by omega, by go_num, hown.out, hbl⟩
          case measure => simp [intOf]; omega
      · have HE := HNo.out k hlt1 (fun h => h1 h.1)
        rw [← HE] at hown
        replace hown := Lib.hid hown
        clear HE hX hlen
        go_wp2
        go_roundw
        case rel => exact ⟨k + 1, by omega, by go_num, hown.out, hbl⟩
        case measure => simp [intOf]; omega
    · obtain rfl : k = m := by omega
      obtain ⟨A2, c2, rfl, hs⟩ := hown.reads
      have H := Lib.hid (H33.out A2 c2 k (by rw [HM.out]; exact Nat.le_refl _))
      generalize (pick lo hi 0 (xs.take k)).length = q at H
      clear hown
      go_wp2_with (go_at_call 33; refine (H.out _ hs).mono ?_; rintro e w2 ⟨v, rfl, A3, c3, rfl, hc3, hs3, hb3⟩)
      go_ret
      exact ⟨_, rfl, A3, c3, rfl, hc3, hs3, below_trans hbl0 (below_trans hbl hb3 hbl.size) hbl0.size⟩

def atN (m : Nat) (at_ : Int) : Nat := (max 0 (min at_ m)).toNat
def editX (xs : List Int) (a cu : Nat) (put val : Int) : List Int := xs.take a ++ List.replicate put.toNat val ++ xs.drop (a + cu)
theorem take_succ_ (xs : List Int) (i : Nat) (h : i < xs.length) : xs.take (i + 1) = xs.take i ++ [xs[i]] := by
  rw [List.take_add_one, List.getElem?_eq_getElem h]; rfl
theorem drop_take_succ (xs : List Int) (s i : Nat) (h : i < xs.length) (hs : s ≤ i) : (xs.drop s).take (i + 1 - s) = (xs.drop s).take (i - s) ++ [xs[i]] := by
  rw [show i + 1 - s = (i - s) + 1 by omega, List.take_add_one, List.getElem?_eq_getElem (by simp; omega)]
  simp
  congr 1
  omega

set_option maxHeartbeats 4000000 in
theorem redit_ok (A : Option Addr) (c n : Nat) (xs : List Int) (at_ cut put val : Int) (w : World) (hnl : n = (of xs).length) (hn : xs.length ≤ 10000) (hput : put ≤ 10000) (hh : HasS w w.heap.size A (of xs)) :
    Calls Try.prog 28 #[.slice A n c, .int .i64 at_, .int .i64 cut, .int .i64 put, .int .i64 val] w fun e w' =>
      SpansOf w w' e (of (editX xs (atN xs.length at_) (atN (xs.length - atN xs.length at_) cut) put val)) := by
  have hlo := length_of xs
  have H30 := Lib.hid (fun w1 (h : HasS w1 w1.heap.size A (of xs)) => End_ok A c n (of xs) w1 w1.heap.size hnl (by omega) h)
  have H29 := Lib.hid (fun w1 (h : HasS w1 w1.heap.size A (of xs)) => vals_ok A c n (of xs) xs.length w1 hnl (by omega) (by omega) h)
  rw [endS_of] at H30
  rw [vals_of] at H29
  obtain ⟨m, hm⟩ : ∃ m, xs.length = m := ⟨_, rfl⟩
  have HM := Lib.hid hm
  have H40a := Lib.hid (fun w1 => within_ok at_ 0 m w1)
  have H40b := Lib.hid (fun w1 => within_ok cut 0 ((m : Int) - (atN m at_ : Nat)) w1)
  rw [show max 0 (min at_ (m : Int)) = ((atN m at_ : Nat) : Int) by unfold atN; omega] at H40a
  have ha : atN m at_ ≤ m := by unfold atN; omega
  rw [show max 0 (min cut ((m : Int) - (atN m at_ : Nat))) = ((atN (m - atN m at_) cut : Nat) : Int) by unfold atN at ha ⊢; omega] at H40b
  have hc : atN m at_ + atN (m - atN m at_) cut ≤ m := by unfold atN at ha ⊢; omega
  rw [hm]
  simp only [SliceOf, SliceV, hm] at H29
  rw [hm] at H30 hn
  generalize atN (m - atN m at_) cut = cu at H40b hc ⊢
  generalize atN m at_ = a at H40a H40b hc ha ⊢
  have H33 := Lib.hid (fun A1 c1 ys (hy : ys = editX xs a cu put val) w1 (h : Has w1 w1.heap.size A1 (ys.map (Value.int .i64))) => (show Calls Try.prog 33 #[.slice A1 ys.length c1] w1 fun e w' => SpansOf w1 w' e (of (editX xs a cu put val)) from by
    have hl : ys.length ≤ 100000 := by rw [hy]; unfold editX; simp; omega
    have := of_ok A1 c1 _ ys w1 rfl hl h
    rwa [hy] at this ⊢))
  obtain ⟨R, hR⟩ : ∃ R, editX xs a cu put val = R := ⟨_, rfl⟩
  rw [hR] at H33 ⊢
  replace hR := Lib.hid hR
  clear hm hnl hlo
  go_enter Try.func28, Try.ntmps28
  go_wp2_with (first
    | (go_at_call 30; refine (H30.out _ hh).mono ?_; rintro e w' ⟨rfl, rfl⟩)
    | (go_at_call 29; refine (H29.out _ hh).mono ?_; rintro e w1 ⟨v, rfl, A1, c1, rfl, _, hs0, hbl0⟩)
    | (go_at_call 40; (with_reducible refine (H40a.out _).mono ?_); rintro e w' ⟨rfl, rfl⟩)
    | (go_at_call 40; (with_reducible refine (H40b.out _).mono ?_); rintro e w' ⟨rfl, rfl⟩))
  go_loopw [12, 13] (fun v j wr => ∃ k : Nat, k ≤ a ∧ j = .int .i64 k ∧ Mine .i64 3 wr w1.heap.size v (xs.take k) ∧ Below w1.heap.size w1 wr) (fun _ j _ => a - (intOf j).toNat)
  case atStart => exact ⟨0, by omega, rfl, Mine.nil_ _ _ _ _, Below.refl _ _⟩
  case round =>
    obtain ⟨k, hk, rfl, hown, hbl⟩ := hrel
    by_cases hlt : k < a
    · have hsz := hbl.size
      have hlt1 : k < xs.length := by rw [HM.out]; omega
      obtain ⟨b, off, rfl, hb, hcc⟩ := (hs0.carry hbl).at_int hlt1
      have HT := take_succ_ xs k hlt1
      obtain ⟨X, hX⟩ : ∃ X, xs[k] = X := ⟨_, rfl⟩
      rw [hX] at hcc HT
      replace HT := Lib.hid HT
      have hlen2 : (xs.take k).length ≤ 1000000000 := by simp; omega
      generalize xs.take k = ys at hown HT hlen2
      have hkm : k < m := by omega
      clear hX
      go_wp2_with (at_builtin; refine wpList_push rfl _ _ 29 rfl Try.underlying29 full3 (by omega) w1.heap.size _ ys X w1 _ hown rfl rfl hbl hsz hlen2 ?_; intro v' w2 hown' hbl')
      go_roundw
      case rel => exact ⟨k + 1, by omega, by go_num, by rw [HT.out]; exact hown', hbl'⟩
      case measure => simp [intOf]; omega
    · obtain rfl : k = a := by omega
      go_wp2
      go_loopw [12, 14] (fun v j wr2 => ∃ i : Nat, (i : Int) ≤ max put 0 ∧ j = .int .i64 i ∧ Mine .i64 3 wr2 w1.heap.size v (xs.take k ++ List.replicate i val) ∧ Below w1.heap.size w1 wr2) (fun _ j _ => put.toNat - (intOf j).toNat)
      case atStart => exact ⟨0, by omega, rfl, by simpa using hown, hbl⟩
      case round =>
        clear hown hbl
        obtain ⟨i, hi, rfl, hown, hbl⟩ := hrel
        by_cases hlt : (i : Int) < put
        · have hsz := hbl.size
          have hlen2 : (xs.take k ++ List.replicate i val).length ≤ 1000000000 := by simp; omega
          have HT := replicate_snoc i val
          have HT2 : Hid (xs.take k ++ List.replicate (i + 1) val = (xs.take k ++ List.replicate i val) ++ [val]) := Lib.hid (by rw [HT]; simp)
          generalize xs.take k ++ List.replicate i val = ys at hown HT2 hlen2
          clear HT
          go_wp2_with (at_builtin; refine wpList_push rfl _ _ 29 rfl Try.underlying29 full3 (by omega) w1.heap.size _ ys val w1 _ hown rfl rfl hbl hsz hlen2 ?_; intro v' w2 hown' hbl')
          go_roundw
          case rel => exact ⟨i + 1, by omega, by go_num, by rw [HT2.out]; exact hown', hbl'⟩
          case measure => simp [intOf]; omega
        · rw [show i = put.toNat by omega] at hown
          clear hi
          go_wp2
          go_loopw [12, 15] (fun v j wr3 => ∃ q : Nat, k + cu ≤ q ∧ q ≤ m ∧ j = .int .i64 q ∧ Mine .i64 3 wr3 w1.heap.size v (xs.take k ++ List.replicate put.toNat val ++ (xs.drop (k + cu)).take (q - (k + cu))) ∧ Below w1.heap.size w1 wr3) (fun _ j _ => m - (intOf j).toNat)
          case atStart => exact ⟨k + cu, by omega, by omega, by go_num, by simpa using hown, hbl⟩
          case round =>
            clear hown hbl
            obtain ⟨q, hq0, hq, rfl, hown, hbl⟩ := hrel
            by_cases hlt : q < m
            · have hsz := hbl.size
              have hlt1 : q < xs.length := by rw [HM.out]; exact hlt
              obtain ⟨b, off, rfl, hb, hcc⟩ := (hs0.carry hbl).at_int hlt1
              have HT := drop_take_succ xs (k + cu) q hlt1 hq0
              obtain ⟨X, hX⟩ : ∃ X, xs[q] = X := ⟨_, rfl⟩
              rw [hX] at hcc HT
              have HT2 : Hid (xs.take k ++ List.replicate put.toNat val ++ (xs.drop (k + cu)).take (q + 1 - (k + cu)) = (xs.take k ++ List.replicate put.toNat val ++ (xs.drop (k + cu)).take (q - (k + cu))) ++ [X]) := Lib.hid (by rw [HT]; simp)
              have hlen2 : (xs.take k ++ List.replicate put.toNat val ++ (xs.drop (k + cu)).take (q - (k + cu))).length ≤ 1000000000 := by simp; omega
              generalize xs.take k ++ List.replicate put.toNat val ++ (xs.drop (k + cu)).take (q - (k + cu)) = ys at hown HT2 hlen2
              clear HT hX
              go_wp2_with (at_builtin; refine wpList_push rfl _ _ 29 rfl Try.underlying29 full3 (by omega) w1.heap.size _ ys X w1 _ hown rfl rfl hbl hsz hlen2 ?_; intro v' w2 hown' hbl')
              go_roundw
              case rel => exact ⟨q + 1, by omega, by omega, by go_num, by rw [HT2.out]; exact hown', hbl'⟩
              case measure => simp [intOf]; omega
            · obtain rfl : q = m := by omega
              have hl : (xs.drop (k + cu)).length ≤ q - (k + cu) := by rw [List.length_drop, HM.out]; omega
              have e : xs.take k ++ List.replicate put.toNat val ++ (xs.drop (k + cu)).take (q - (k + cu)) = R := by
                rw [← hR.out]
                unfold editX
                rw [List.take_of_length_le hl]
              rw [e] at hown
              obtain ⟨A2, c2, rfl, hs⟩ := hown.reads
              have H := Lib.hid (H33.out A2 c2 _ rfl)
              generalize R.length = p at H ⊢
              clear hown e hl
              go_wp2_with (go_at_call 33; refine (H.out _ hs).mono ?_; rintro e w2 ⟨v, rfl, A3, c3, rfl, hc3, hs3, hb3⟩)
              go_ret
              exact ⟨_, rfl, A3, c3, rfl, hc3, hs3, below_trans hbl0 (below_trans hbl hb3 hbl.size) hbl0.size⟩
#print axioms redit_ok
end Go.Proofs.Ytojplkkmpnaibaa
