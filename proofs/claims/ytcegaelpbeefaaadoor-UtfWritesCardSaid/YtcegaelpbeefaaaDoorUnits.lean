/-
  Contracts of Units, the program's and the document's. No condition but that the text has at most a million runes.
-/
import Derived.Test.YtcegaelpbeefaaaDoorEncode
set_option linter.unusedVariables false
namespace Go.Proofs.YtcegaelpbeefaaaDoor
open Go.ChangeShapes Go.WideShapes Go.ChangeAt Go.RowKit

theorem uniZ_take (t : List Int) (k : Nat) (h : k < t.length) : uniZ (t.take (k + 1)) = uniZ (t.take k) ++ unitsZ t[k] := by
  rw [List.take_add_one, List.getElem?_eq_getElem h]
  unfold uniZ
  rw [List.flatMap_append]
  simp
theorem uniZ_take_len (t : List Int) (k : Nat) (h : t.length ≤ 1000000) : (uniZ (t.take k)).length ≤ 2000000 := by
  have := uniZ_len (t.take k)
  rw [List.length_take] at this
  omega

theorem and1023 (x : Int) (h0 : 0 ≤ x) (h1 : x < 2147483648) : bits .and .i32 x 1023 = x % 1024 := bits_mask .i32 31 (by decide) wraps_i32 10 (by decide) x h0 h1
set_option maxHeartbeats 1000000 in
theorem units_ok (A : Option Addr) (c : Nat) (t : List Int) (w : World) (hn : t.length ≤ 1000000) (h : Has w w.heap.size A (t.map (Value.int .i32))) :
    Calls Tryd.prog 12 #[.slice A t.length c] w fun e w' => PairOf .u16 w w' e (uniP t) (codeP t) := by
  have cr := right_ok A c t w (by omega) h
  by_cases hv : allP t = true
  · rw [hv] at cr
    have e1 : uniP t = uniZ t := if_pos hv
    have e2 : codeP t = 0 := if_pos hv
    rw [e1, e2]
    have HV := Lib.hid hv
    clear hv e1 e2
    go_enter Tryd.func12, Tryd.ntmps12
    go_wp2_with (go_at_call 14; refine cr.mono ?_; rintro e w' ⟨rfl, rfl⟩)
    go_loopw [4, 13] (fun v i wr => ∃ k : Nat, k ≤ t.length ∧ i = .int .i64 k ∧ Mine .u16 42 wr w.heap.size v (uniZ (t.take k)) ∧ Below w.heap.size w wr) (fun _ i _ => t.length - (intOf i).toNat)
    case atStart => exact ⟨0, by omega, rfl, Mine.nil_ _ _ _ _, Below.refl _ _⟩
    case round =>
      obtain ⟨k, hk, rfl, hown, hbl⟩ := hrel
      by_cases hlt : k < t.length
      · obtain ⟨b, off, rfl, hb, hcc⟩ := (h.carry hbl).at_int hlt
        have HE := Lib.hid (uniZ_take t k hlt)
        have hlen := uniZ_take_len t k hn
        have hr := valid_range (allP_at t k hlt HV.out)
        obtain ⟨X, hX⟩ : ∃ X, t[k] = X := ⟨_, rfl⟩
        rw [hX] at hcc hr
        have HX := Lib.hid hX
        obtain ⟨xs, hxs⟩ : ∃ xs, uniZ (t.take k) = xs := ⟨_, rfl⟩
        rw [hxs] at hown hlen
        have HXS := Lib.hid hxs
        have hsz := hbl.size
        clear hX h cr hxs
        by_cases hx : X < 65536
        · have HU := Lib.hid (show unitsZ X = [X] from if_pos hx)
          go_wp2_with (at_builtin; refine wpList_push rfl _ _ 28 rfl Tryd.underlying28 infoU16 (by omega) w.heap.size _ xs X w _ hown rfl rfl hbl hsz (by omega) ?_; intro v' w1 hown' hbl')
          go_roundw
          case rel => exact ⟨k + 1, by omega, by go_num, by rw [HE.out, HX.out, HU.out, HXS.out]; exact hown', hbl'⟩
          case measure => simp [intOf]; omega
        · have HU := Lib.hid (show unitsZ X = [55296 + (X - 65536) / 1024, 56320 + (X - 65536) % 1024] from if_neg hx)
          obtain ⟨M, hM⟩ : ∃ M, (X - 65536) % 1024 = M := ⟨_, rfl⟩
          have hand := and1023 (X - 65536) (by omega) (by omega)
          have hm0 : 0 ≤ M := by omega
          have hm1 : M < 1024 := by omega
          rw [hM] at hand HU
          clear hM
          go_wp2_with (at_builtin; refine wpList_pushs rfl _ _ 28 rfl Tryd.underlying28 infoU16 (by omega) w.heap.size _ xs [55296 + (X - 65536) / 1024, 56320 + M] w _ _ rfl hown rfl 2 rfl rfl hbl hsz (by omega) (by simp) ?_; intro v' w1 hown' hbl')
          go_roundw
          case rel => exact ⟨k + 1, by omega, by go_num, by rw [HE.out, HX.out, HU.out, HXS.out]; exact hown', hbl'⟩
          case measure => simp [intOf]; omega
      · obtain rfl : k = t.length := by omega
        rw [List.take_length] at hown
        go_wp2
        go_ret2
        exact ⟨_, rfl, hown.sliceV hbl⟩
  · have hv' : allP t = false := by simpa using hv
    rw [hv'] at cr
    have e1 : uniP t = [] := if_neg hv
    have e2 : codeP t = 13 := if_neg hv
    rw [e1, e2]
    clear hv hv' e1 e2
    go_enter Tryd.func12, Tryd.ntmps12
    go_wp2_with (go_at_call 14; refine cr.mono ?_; rintro e w' ⟨rfl, rfl⟩)
    go_ret2
    exact ⟨_, rfl, sliceV_nil _ _ _ (Below.refl _ _)⟩

set_option maxHeartbeats 1000000 in
theorem refUnits_ok (A : Option Addr) (c : Nat) (t : List Int) (w : World) (hn : t.length ≤ 1000000) (h : Has w w.heap.size A (t.map (Value.int .i32))) :
    Calls Tryd.prog 13 #[.slice A t.length c] w fun e w' => PairOf .u16 w w' e (uniP t) (codeP t) := by
  have cr := refRight_ok A c t w (by omega) h
  by_cases hv : allP t = true
  · rw [hv] at cr
    have e1 : uniP t = uniZ t := if_pos hv
    have e2 : codeP t = 0 := if_pos hv
    rw [e1, e2]
    have HV := Lib.hid hv
    clear hv e1 e2
    go_enter Tryd.func13, Tryd.ntmps13
    go_wp2_with (go_at_call 15; refine cr.mono ?_; rintro e w' ⟨rfl, rfl⟩)
    go_loopw [4, 5] (fun v i wr => ∃ k : Nat, k ≤ t.length ∧ i = .int .i64 k ∧ Mine .u16 42 wr w.heap.size v (uniZ (t.take k)) ∧ Below w.heap.size w wr) (fun _ i _ => t.length - (intOf i).toNat)
    case atStart => exact ⟨0, by omega, rfl, Mine.nil_ _ _ _ _, Below.refl _ _⟩
    case round =>
      obtain ⟨k, hk, rfl, hown, hbl⟩ := hrel
      by_cases hlt : k < t.length
      · obtain ⟨b, off, rfl, hb, hcc⟩ := (h.carry hbl).at_int hlt
        have HE := Lib.hid (uniZ_take t k hlt)
        have hlen := uniZ_take_len t k hn
        have hr := valid_range (allP_at t k hlt HV.out)
        obtain ⟨X, hX⟩ : ∃ X, t[k] = X := ⟨_, rfl⟩
        rw [hX] at hcc hr
        have HX := Lib.hid hX
        obtain ⟨xs, hxs⟩ : ∃ xs, uniZ (t.take k) = xs := ⟨_, rfl⟩
        rw [hxs] at hown hlen
        have HXS := Lib.hid hxs
        have hsz := hbl.size
        clear hX h cr hxs
        by_cases hx : X < 65536
        · have HU := Lib.hid (show unitsZ X = [X] from if_pos hx)
          go_wp2_with (at_builtin; refine wpList_push rfl _ _ 28 rfl Tryd.underlying28 infoU16 (by omega) w.heap.size _ xs X w _ hown rfl rfl hbl hsz (by omega) ?_; intro v' w1 hown' hbl')
          go_roundw
          case rel => exact ⟨k + 1, by omega, by go_num, by rw [HE.out, HX.out, HU.out, HXS.out]; exact hown', hbl'⟩
          case measure => simp [intOf]; omega
        · have HU := Lib.hid (show unitsZ X = [55296 + (X - 65536) / 1024, 56320 + (X - 65536) % 1024] from if_neg hx)
          obtain ⟨M, hM⟩ : ∃ M, (X - 65536) % 1024 = M := ⟨_, rfl⟩
          obtain ⟨D, hD⟩ : ∃ D, (X - 65536) / 1024 = D := ⟨_, rfl⟩
          have hm0 : 0 ≤ M ∧ M < 1024 := by omega
          have hd0 : 0 ≤ D ∧ D < 1024 := by omega
          rw [hM, hD] at HU
          have hlen2 : (xs ++ [55296 + D]).length ≤ 2000001 := by simp; omega
          go_wp2_with (first
            | (at_builtin; (with_reducible refine wpList_push rfl _ _ 28 rfl Tryd.underlying28 infoU16 (by omega) w.heap.size _ xs (55296 + D) w _ hown rfl rfl hbl hsz (by omega) ?_); intro v' w1 hown' hbl'; have hsz1 := hbl'.size; clear hown hbl)
            | (at_builtin; refine wpList_push rfl _ _ 28 rfl Tryd.underlying28 infoU16 (by omega) w.heap.size _ _ (56320 + M) w _ hown' rfl rfl hbl' hsz1 (by omega) ?_; intro v2 w2 hown2 hbl2))
          go_roundw
          case rel => exact ⟨k + 1, by omega, by go_num, by rw [HE.out, HX.out, HU.out, HXS.out]; simpa using hown2, hbl2⟩
          case measure => simp [intOf]; omega
      · obtain rfl : k = t.length := by omega
        rw [List.take_length] at hown
        go_wp2
        go_ret2
        exact ⟨_, rfl, hown.sliceV hbl⟩
  · have hv' : allP t = false := by simpa using hv
    rw [hv'] at cr
    have e1 : uniP t = [] := if_neg hv
    have e2 : codeP t = 13 := if_neg hv
    rw [e1, e2]
    clear hv hv' e1 e2
    go_enter Tryd.func13, Tryd.ntmps13
    go_wp2_with (go_at_call 15; refine cr.mono ?_; rintro e w' ⟨rfl, rfl⟩)
    go_ret2
    exact ⟨_, rfl, sliceV_nil _ _ _ (Below.refl _ _)⟩
end Go.Proofs.YtcegaelpbeefaaaDoor
