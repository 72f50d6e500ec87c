/-
  Contracts of the program's Edit, Set, at a whole list: over its values. No condition but bounds on lengths and numbers.
-/
import Derived.Test.YtojplkkmpnaibaaPart
set_option linter.unusedVariables false
namespace Go.Proofs.Ytojplkkmpnaibaa
open Go.ChangeShapes Go.WideShapes Go.ChangeAt Go.RowKit

theorem length_editF (c d : Int) : ∀ (l : List Sp) (acc : List Sp), (l.foldl (fun acc p => if c < p.t then ext acc (p.t - d) p.v else acc) acc).length ≤ acc.length + l.length
  | [], acc => by simp
  | p :: l, acc => by
    simp only [List.foldl_cons, List.length_cons]
    split
    · have := length_editF c d l (ext acc (p.t - d) p.v)
      have h2 := length_ext acc (p.t - d) p.v
      omega
    · have := length_editF c d l acc
      omega
theorem length_partP (l : List Sp) (a b : Int) : (partP l a b).length ≤ l.length := by
  have := length_foldl_ext (fun p => min p.t (max (max a 0) (min b (endS l))) - max a 0) (fun p => p.v) l []
  simpa [partP] using this

set_option maxHeartbeats 4000000 in
theorem edit_ok (A : Option Addr) (c n : Nat) (xs : List Int) (at_ cut put val : Int) (w : World) (hnl : n = (of xs).length) (hn : xs.length ≤ 10000) (hput : put ≤ 10000) (hh : HasS w w.heap.size A (of xs)) :
    Calls Try.prog 27 #[.slice A n c, .int .i64 at_, .int .i64 cut, .int .i64 put, .int .i64 val] w fun e w' =>
      MineSOf w w' e (of (editX xs (atN xs.length at_) (atN (xs.length - atN xs.length at_) cut) put val)) := by
  have hlo := length_of xs
  have hP : editP (of xs) (atN xs.length at_) (atN (xs.length - atN xs.length at_) cut) put.toNat val = of (editX xs (atN xs.length at_) (atN (xs.length - atN xs.length at_) cut) put val) :=
    editP_of xs _ _ _ val (by unfold atN; omega)
  rw [← hP]
  have hes := endS_of xs
  have hbd : ∀ s ∈ of xs, 1 ≤ s.t ∧ s.t ≤ 10000 := fun s hs => by
    have := (parts_of xs).bounds s hs
    omega
  obtain ⟨m, hm⟩ : ∃ m, xs.length = m := ⟨_, rfl⟩
  rw [hm] at hes hn ⊢ hlo
  generalize of xs = l at hnl hh hlo hes hbd ⊢
  clear hP hm
  have H38a := Lib.hid (fun w1 => clamp_ok at_ 0 m w1)
  have H38b := Lib.hid (fun w1 => clamp_ok cut 0 ((m : Int) - (atN m at_ : Nat)) w1)
  rw [show clampI at_ 0 (m : Int) = ((atN m at_ : Nat) : Int) by unfold atN clampI; omega] at H38a
  have ha : atN m at_ ≤ m := by unfold atN; omega
  rw [show clampI cut 0 ((m : Int) - (atN m at_ : Nat)) = ((atN (m - atN m at_) cut : Nat) : Int) by unfold clampI atN at *; omega] at H38b
  have hc : atN m at_ + atN (m - atN m at_) cut ≤ m := by unfold atN at ha ⊢; omega
  generalize atN (m - atN m at_) cut = cu at H38b hc ⊢
  generalize atN m at_ = a at H38a H38b hc ha ⊢
  have H39 := Lib.hid (fun w1 (h : HasS w1 w1.heap.size A l) => end_ok A c n l w1 w1.heap.size hnl (by omega) h)
  rw [hes] at H39
  have H25 := Lib.hid (fun w1 (h : HasS w1 w1.heap.size A l) => part_ok A c n l 0 a w1 hnl (by omega) hbd (by omega) h)
  have hpl := length_partP l 0 a
  obtain ⟨pt, hpt⟩ : ∃ pt : Nat, put.toNat = pt := ⟨_, rfl⟩
  have HPT : Hid (max put 0 = (pt : Int)) := Lib.hid (by omega)
  have hpt2 : pt ≤ 10000 := by omega
  rw [hpt]
  have HP : Hid (editP l a cu pt val = (l.take n).foldl (fun acc p => if (a : Int) + cu < p.t then ext acc (p.t - ((cu : Int) - pt)) p.v else acc) (ext (partP l 0 a) (a + pt) val)) := Lib.hid (by
    unfold editP
    rw [List.take_of_length_le (by omega)]
    congr 1
    funext acc p
    rw [show p.t - ((cu : Int) - pt) = p.t - cu + pt by omega])
  have HG := Lib.hid (fun k h => foldl_take (fun acc p => if (a : Int) + cu < p.t then ext acc (p.t - ((cu : Int) - pt)) p.v else acc) (ext (partP l 0 a) (a + pt) val) l k h)
  have HLN := Lib.hid (fun k => length_editF ((a : Int) + cu) ((cu : Int) - pt) (l.take k) (ext (partP l 0 a) (a + pt) val))
  have HLE := length_ext (partP l 0 a) (a + pt) val
  obtain ⟨R, hR⟩ : ∃ R, editP l a cu pt val = R := ⟨_, rfl⟩
  rw [hR] at HP ⊢
  generalize partP l 0 a = p0 at *
  obtain ⟨e0, he0⟩ : ∃ e0, ext p0 (a + pt) val = e0 := ⟨_, rfl⟩
  rw [he0] at HP HG HLN HLE
  replace he0 := Lib.hid he0
  have HL := Lib.hid hnl
  have HB := Lib.hid hbd
  have hp0 : p0.length ≤ 100000 := by omega
  have he0l : e0.length ≤ 20000 := by omega
  have hnb : n ≤ 10000 := by omega
  clear hnl hbd hes hlo hpt hR hput HLE hpl
  go_enter Try.func27, Try.ntmps27
  go_wp2_with (first
    | (refine wpList_max rfl _ _ _ rfl put 0 rfl rfl pt HPT.out ?_)
    | (go_at_call 39; refine (H39.out _ hh).mono ?_; rintro e w' ⟨rfl, rfl⟩)
    | (go_at_call 38; (with_reducible refine (H38a.out _).mono ?_); rintro e w' ⟨rfl, rfl⟩)
    | (go_at_call 38; (with_reducible refine (H38b.out _).mono ?_); rintro e w' ⟨rfl, rfl⟩)
    | (go_at_call 25; refine (H25.out _ hh).mono ?_; rintro e w1 ⟨v1, rfl, hown1, hb1⟩)
    | (go_at_call 37; refine (ext_ok w.heap.size v1 p0 (a + pt) val _ hown1 hb1.size hp0).mono ?_; rintro e w2 ⟨v2, rfl, hown2, hb2⟩))
  rw [he0.out] at hown2
  have hbl2 := hb1.trans hb2
  clear hown1 hb1 hb2
  go_loopw [11, 37] (fun v j wr => ∃ k : Nat, k ≤ n ∧ j = .int .i64 k ∧ MineS wr w.heap.size v ((l.take k).foldl (fun acc p => if (a : Int) + cu < p.t then ext acc (p.t - ((cu : Int) - pt)) p.v else acc) e0) ∧ Below w.heap.size w wr) (fun _ j _ => n - (intOf j).toNat)
  case atStart => exact ⟨0, by omega, rfl, hown2, hbl2⟩
  case round =>
    clear hown2 hbl2
    obtain ⟨k, hk, rfl, hown, hbl⟩ := hrel
    by_cases hlt : k < n
    · have hsz := hbl.size
      have hlt1 : k < l.length := by rw [← HL.out]; exact hlt
      obtain ⟨b, off, rfl, hb, hc0, hc1, hc2⟩ := (hh.carry hbl).at_ hlt1
      have hG := HG.out k hlt1
      have hbd := HB.out l[k] (List.getElem_mem hlt1)
      obtain ⟨X, hX⟩ : ∃ X, l[k] = X := ⟨_, rfl⟩
      rw [hX] at hc0 hc1 hc2 hG hbd
      have hlen := HLN.out k
      rw [List.length_take] at hlen
      generalize (l.take k).foldl (fun acc p => if (a : Int) + cu < p.t then ext acc (p.t - ((cu : Int) - pt)) p.v else acc) e0 = acc at hown hG hlen
      obtain ⟨f, t, v⟩ := X
      simp only at hc0 hc1 hc2 hG hbd
      have hlen2 : acc.length ≤ 100000 := by have := Nat.min_le_left k l.length; omega
      have hbl2 := hbl.alloc hsz (.cells #[.int .i64 f, .int .i64 t, .int .i64 v] 49)
      have hown2 := hown.alloc (.cells #[.int .i64 f, .int .i64 t, .int .i64 v] 49)
      obtain ⟨hbd1, hbd2⟩ := hbd
      clear hX hown hlen
      by_cases h1 : (a : Int) + cu < t
      · rw [if_pos h1] at hG
        have HX := Lib.hid (ext_ok w.heap.size u11 acc (t - cu + pt) v _ hown2 hbl2.size hlen2)
        rw [show t - (cu : Int) + pt = t - ((cu : Int) - pt) by omega] at HX
        rw [show t - ((cu : Int) - pt) = t - (cu : Int) + pt by omega] at HX hG
        replace hG := Lib.hid hG
        clear hown2
        go_wp2_with (go_at_call 37; refine HX.out.mono ?_; rintro e w2 ⟨v', rfl, hown', hb'⟩)
        go_roundw
        case rel => exact ⟨k + 1, by omega, by go_num, by rw [hG.out]; exact hown', hbl2.trans hb'⟩
        case measure => simp [intOf]; omega
      · rw [if_neg h1] at hG
        replace hG := Lib.hid hG
        replace hown2 := Lib.hid hown2
        go_wp2
        go_roundw
        case rel => exact ⟨k + 1, by omega, by go_num, by rw [hG.out]; exact hown2.out, hbl2⟩
        case measure => simp [intOf]; omega
    · obtain rfl : k = n := by omega
      rw [← HP.out] at hown
      go_wp2
      go_ret
      exact ⟨_, rfl, hown, hbl⟩

/-- an Edit that puts as many as it takes is Set -/
theorem setP_edit (xs : List Int) (lo hi val : Int) (a q : Nat) (ha : (a : Int) = clampI lo 0 xs.length) (hq : (q : Int) = clampI hi a xs.length - a) : editX xs a q q val = setP xs lo hi val := by
  unfold clampI at ha hq
  have haq : a + q ≤ xs.length := by omega
  unfold editX setP
  apply List.ext_getElem
  · simp; omega
  · intro i h1 h2
    rw [List.length_mapIdx] at h2
    rw [List.getElem_mapIdx]
    by_cases hia : i < a
    · rw [if_neg (by omega), List.getElem_append_left (by simp; omega), List.getElem_append_left (by simp; omega), List.getElem_take]
    · by_cases hiq : i < a + q
      · rw [if_pos (by omega), List.getElem_append_left (by simp; omega), List.getElem_append_right (by simp; omega), List.getElem_replicate]
      · rw [if_neg (by omega), List.getElem_append_right (by simp; omega), List.getElem_drop]
        congr 1
        simp
        omega

set_option maxHeartbeats 4000000 in
theorem set_ok (A : Option Addr) (c n : Nat) (xs : List Int) (lo hi val : Int) (w : World) (hnl : n = (of xs).length) (hn : xs.length ≤ 10000) (hh : HasS w w.heap.size A (of xs)) :
    Calls Try.prog 23 #[.slice A n c, .int .i64 lo, .int .i64 hi, .int .i64 val] w fun e w' => MineSOf w w' e (of (setP xs lo hi val)) := by
  have hlo := length_of xs
  have H39 := Lib.hid (fun w1 (h : HasS w1 w1.heap.size A (of xs)) => end_ok A c n (of xs) w1 w1.heap.size hnl (by omega) h)
  rw [endS_of] at H39
  obtain ⟨a, ha⟩ : ∃ a : Nat, (a : Int) = clampI lo 0 xs.length := ⟨(clampI lo 0 xs.length).toNat, by unfold clampI; omega⟩
  obtain ⟨q, hq⟩ : ∃ q : Nat, (q : Int) = clampI hi a xs.length - a := ⟨(clampI hi a xs.length - a).toNat, by unfold clampI at *; omega⟩
  have haq : a + q ≤ xs.length := by unfold clampI at *; omega
  have H27 := Lib.hid (fun w1 (h : HasS w1 w1.heap.size A (of xs)) => edit_ok A c n xs a q q val w1 hnl hn (by omega) h)
  rw [show atN xs.length a = a by unfold atN; omega, show atN (xs.length - a) q = q by unfold atN; omega, setP_edit xs lo hi val a q ha hq] at H27
  have H38a := Lib.hid (fun w1 => clamp_ok lo 0 xs.length w1)
  have H38b := Lib.hid (fun w1 => clamp_ok hi a xs.length w1)
  rw [← ha] at H38a
  rw [show clampI hi a xs.length = (a : Int) + q by omega] at H38b
  generalize of (setP xs lo hi val) = R at H27 ⊢
  obtain ⟨m, hm⟩ : ∃ m, xs.length = m := ⟨_, rfl⟩
  rw [hm] at H39 H38a H38b haq hn
  clear ha hq hm hnl hlo
  have eq1 : (a : Int) + q - a = q := by omega
  go_enter Try.func23, Try.ntmps23
  go_wp2_with (first
    | (go_at_call 39; refine (H39.out _ hh).mono ?_; rintro e w' ⟨rfl, rfl⟩)
    | (go_at_call 38; (with_reducible refine (H38a.out _).mono ?_); rintro e w' ⟨rfl, rfl⟩)
    | (go_at_call 38; (with_reducible refine (H38b.out _).mono ?_); rintro e w' ⟨rfl, rfl⟩)
    | (go_at_call 27; refine (H27.out _ hh).mono ?_; rintro e w1 ⟨v1, rfl, hown1, hb1⟩))
  go_ret
  exact ⟨_, rfl, hown1, hb1⟩
end Go.Proofs.Ytojplkkmpnaibaa
