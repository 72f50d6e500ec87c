/-
  Contracts of FromUnits, the program's and the document's. No condition but that there are at most a million units.
-/
import Derived.Test.YtcegaelpbeefaaaDoorFrom
set_option linter.unusedVariables false
set_option linter.unusedSimpArgs false
namespace Go.Proofs.YtcegaelpbeefaaaDoor
open Go.ChangeShapes Go.WideShapes Go.ChangeAt Go.RowKit

set_option maxHeartbeats 2000000 in
theorem fromUnits_ok (A : Option Addr) (c : Nat) (u : List Int) (w : World) (hn : u.length ≤ 1000000) (hc : u.length ≤ c) (hz : UnitZ u) (h : Has w w.heap.size A (u.map (Value.int .u16))) :
    Calls Tryd.prog 22 #[.slice A u.length c] w fun e w' => TripleOf .i32 w w' e (fromP u) := by
  have HZ := Lib.hid hz
  clear hz
  go_enter Tryd.func22, Tryd.ntmps22
  go_wp2
  go_loopw [5, 6] (fun v i wr => ∃ (k p : Nat) (xs : List Int), p ≤ u.length ∧ xs.length ≤ p ∧ u.length < k + p ∧ i = .int .i64 p ∧ Mine .i32 21 wr w.heap.size v xs ∧ Below w.heap.size w wr ∧ Hid (fromP u = fromG k u p xs)) (fun _ i _ => u.length - (intOf i).toNat)
  case atStart => exact ⟨u.length + 1, 0, [], by omega, by simp, by omega, rfl, Mine.nil_ _ _ _ _, Below.refl _ _, Lib.hid rfl⟩
  case round =>
    obtain ⟨k, p, xs, hp, hxs, hk, rfl, hown, hbl, HG⟩ := hrel
    obtain ⟨k, rfl⟩ : ∃ k', k = k' + 1 := ⟨k - 1, by omega⟩
    have hsz := hbl.size
    by_cases hlt : p < u.length
    · have hw := h.carry hbl
      obtain ⟨b, off, hA, hb, hcc⟩ := hw.getD_cell (s := u) (by intro e; rw [e] at hlt; simp at hlt)
      have hcell := hcc p hlt
      subst hA
      have hul : (u.drop p).length = u.length - p := List.length_drop
      have hne : u.drop p ≠ [] := by intro e; rw [e] at hul; simp at hul; omega
      have hcp : ¬ c = p := by omega
      have cc := character_ok (some ⟨b, off + p, none⟩) (c - p) (u.drop p) _ (by rw [hul]; omega) (HZ.out.drop p) hne (hw.drop p)
      rw [hul] at cc
      have hx := HZ.out.get p
      have ch := fun w => high_ok (u.getD p 0) w
      obtain ⟨D, hD⟩ : ∃ D, u.length - p = D := ⟨_, rfl⟩
      have HDD := Lib.hid hD
      rw [hD] at cc
      have hdp : 1 ≤ D := by omega
      by_cases q1 : highP (u.getD p 0)
      · by_cases q3 : p + 1 = u.length
        · obtain ⟨e1, e2⟩ := from_last k u p xs q3 q1
          have HE := Lib.hid (HG.out.trans e2)
          rw [e1] at cc
          simp only [q1, decide_true] at ch
          have hd1 : D = 1 := by omega
          subst hd1
          obtain ⟨X, hX⟩ : ∃ X, u.getD p 0 = X := ⟨_, rfl⟩
          rw [hX] at hcell hx
          simp only [hX] at ch
          clear h hcc hul hne hX e1 e2 q1 hw HG hown
          go_wp2_with (first
            | (go_at_call 38; refine cc.mono ?_; rintro e w2 ⟨rfl, rfl⟩)
            | (go_at_call 39; refine (ch _).mono ?_; rintro e w2 ⟨rfl, rfl⟩))
          go_ret3
          rw [HE.out]
          exact ⟨_, rfl, sliceV_nil _ _ _ hbl⟩
        · have hd1 : ¬ (D : Int) = 1 := by omega
          have hd2 : ((D : Int) == 1) = false := by simpa using hd1
          by_cases q4 : lowP (u.getD (p + 1) 0)
          · obtain ⟨e1, e2⟩ := from_pair k u p xs (by omega) q1 q4
            have HE := Lib.hid (HG.out.trans e2)
            rw [e1] at cc
            obtain ⟨R, hR⟩ : ∃ R, 65536 + (u.getD p 0 - 55296) * 1024 + (u.getD (p + 1) 0 - 56320) = R := ⟨_, rfl⟩
            rw [hR] at cc HE
            clear h hcc hul hne e1 e2 q1 q4 hw HG ch hcell hx hR
            go_wp2_with (first
              | (go_at_call 38; refine cc.mono ?_; rintro e w2 ⟨rfl, rfl⟩)
              | (at_builtin; refine wpList_push rfl _ _ 22 rfl Tryd.underlying22 infoI32 (by omega) w.heap.size _ xs R w _ hown rfl rfl hbl hsz (by omega) ?_; intro v' w1 hown' hbl'))
            go_roundw
            case rel => exact ⟨k, p + 2, xs ++ [R], by omega, by simp; omega, by omega, by go_num, hown', hbl', HE⟩
            case measure => simp [intOf]; omega
          · obtain ⟨e1, e2⟩ := from_alone k u p xs (by omega) q1 q4
            have HE := Lib.hid (HG.out.trans e2)
            rw [e1] at cc
            clear h hcc hul hne e1 e2 q1 q4 hw HG hown ch hcell hx
            go_wp2_with (first
              | (go_at_call 38; refine cc.mono ?_; rintro e w2 ⟨rfl, rfl⟩))
            go_ret3
            rw [HE.out]
            exact ⟨_, rfl, sliceV_nil _ _ _ hbl⟩
      · by_cases q2 : lowP (u.getD p 0)
        · obtain ⟨e1, e2⟩ := from_low k u p xs hlt q2
          have HE := Lib.hid (HG.out.trans e2)
          rw [e1] at cc
          simp only [q1, decide_false] at ch
          obtain ⟨X, hX⟩ : ∃ X, u.getD p 0 = X := ⟨_, rfl⟩
          rw [hX] at hcell hx
          simp only [hX] at ch
          clear h hcc hul hne hX e1 e2 q1 q2 hw HG hown
          by_cases hd1 : (D : Int) = 1
          · go_wp2_with (first
              | (go_at_call 38; refine cc.mono ?_; rintro e w2 ⟨rfl, rfl⟩)
              | (go_at_call 39; refine (ch _).mono ?_; rintro e w2 ⟨rfl, rfl⟩))
            go_ret3
            rw [HE.out]
            exact ⟨_, rfl, sliceV_nil _ _ _ hbl⟩
          · have hd2 : ((D : Int) == 1) = false := by simpa using hd1
            go_wp2_with (first
              | (go_at_call 38; refine cc.mono ?_; rintro e w2 ⟨rfl, rfl⟩)
              | (go_at_call 39; refine (ch _).mono ?_; rintro e w2 ⟨rfl, rfl⟩))
            go_ret3
            rw [HE.out]
            exact ⟨_, rfl, sliceV_nil _ _ _ hbl⟩
        · obtain ⟨e1, e2⟩ := from_one k u p xs hlt q1 q2
          have HE := Lib.hid (HG.out.trans e2)
          rw [e1] at cc
          obtain ⟨X, hX⟩ : ∃ X, u.getD p 0 = X := ⟨_, rfl⟩
          rw [hX] at cc HE
          clear h hcc hul hne e1 e2 q1 q2 hw HG ch hcell hx hX
          go_wp2_with (first
            | (go_at_call 38; refine cc.mono ?_; rintro e w2 ⟨rfl, rfl⟩)
            | (at_builtin; refine wpList_push rfl _ _ 22 rfl Tryd.underlying22 infoI32 (by omega) w.heap.size _ xs X w _ hown rfl rfl hbl hsz (by omega) ?_; intro v' w1 hown' hbl'))
          go_roundw
          case rel => exact ⟨k, p + 1, xs ++ [X], by omega, by simp; omega, by omega, by go_num, hown', hbl', HE⟩
          case measure => simp [intOf]; omega
    · obtain rfl : p = u.length := by omega
      have HE := Lib.hid (HG.out.trans (fromG_end k u xs))
      go_wp2
      go_ret3
      have hd : fromP u = (xs, u.length, 0) := HE.out
      rw [hd]
      exact ⟨_, rfl, hown.sliceV hbl⟩

set_option maxHeartbeats 2000000 in
theorem refFromUnits_ok (A : Option Addr) (c : Nat) (u : List Int) (w : World) (hn : u.length ≤ 1000000) (hc : u.length ≤ c) (hz : UnitZ u) (h : Has w w.heap.size A (u.map (Value.int .u16))) :
    Calls Tryd.prog 23 #[.slice A u.length c] w fun e w' => TripleOf .i32 w w' e (fromP u) := by
  have HZ := Lib.hid hz
  clear hz
  go_enter Tryd.func23, Tryd.ntmps23
  go_wp2
  go_loopw [5, 6] (fun v i wr => ∃ (k p : Nat) (xs : List Int), p ≤ u.length ∧ xs.length ≤ p ∧ u.length < k + p ∧ i = .int .i64 p ∧ Mine .i32 21 wr w.heap.size v xs ∧ Below w.heap.size w wr ∧ Hid (fromP u = fromG k u p xs)) (fun _ i _ => u.length - (intOf i).toNat)
  case atStart => exact ⟨u.length + 1, 0, [], by omega, by simp, by omega, rfl, Mine.nil_ _ _ _ _, Below.refl _ _, Lib.hid rfl⟩
  case round =>
    obtain ⟨k, p, xs, hp, hxs, hk, rfl, hown, hbl, HG⟩ := hrel
    obtain ⟨k, rfl⟩ : ∃ k', k = k' + 1 := ⟨k - 1, by omega⟩
    have hsz := hbl.size
    by_cases hlt : p < u.length
    · have hw := h.carry hbl
      obtain ⟨b, off, hA, hb, hcc⟩ := hw.getD_cell (s := u) (by intro e; rw [e] at hlt; simp at hlt)
      have hcell := hcc p hlt
      subst hA
      have hx := HZ.out.get p
      have hy := HZ.out.get (p + 1)
      have HL := fun (q : p + 1 = u.length ∧ highP (u.getD p 0)) => Lib.hid (HG.out.trans (from_last k u p xs q.1 q.2).2)
      have HP := fun (q : p + 1 < u.length ∧ highP (u.getD p 0) ∧ lowP (u.getD (p + 1) 0)) => Lib.hid (HG.out.trans (from_pair k u p xs q.1 q.2.1 q.2.2).2)
      have HA := fun (q : p + 1 < u.length ∧ highP (u.getD p 0) ∧ ¬ lowP (u.getD (p + 1) 0)) => Lib.hid (HG.out.trans (from_alone k u p xs q.1 q.2.1 q.2.2).2)
      have HW := fun (q : lowP (u.getD p 0)) => Lib.hid (HG.out.trans (from_low k u p xs hlt q).2)
      have HO := fun (q : ¬ highP (u.getD p 0) ∧ ¬ lowP (u.getD p 0)) => Lib.hid (HG.out.trans (from_one k u p xs hlt q.1 q.2).2)
      have hcell2 := fun q : p + 1 < u.length => hcc (p + 1) q
      obtain ⟨X, hX⟩ : ∃ X, u.getD p 0 = X := ⟨_, rfl⟩
      obtain ⟨Y, hY⟩ : ∃ Y, u.getD (p + 1) 0 = Y := ⟨_, rfl⟩
      rw [hX] at hcell hx
      rw [hY] at hy hcell2
      simp only [hX, hY] at HL HP HA HW HO
      clear h hcc hX hY hw HG
      by_cases k1 : X < 55296
      · have HE := HO ⟨by unfold highP; omega, by unfold lowP; omega⟩
        clear HL HP HA HW HO hcell2
        go_wp2_with (at_builtin; refine wpList_push rfl _ _ 22 rfl Tryd.underlying22 infoI32 (by omega) w.heap.size _ xs X w _ hown rfl rfl hbl hsz (by omega) ?_; intro v' w1 hown' hbl')
        go_roundw
        case rel => exact ⟨k, p + 1, xs ++ [X], by omega, by simp; omega, by omega, by go_num, hown', hbl', HE⟩
        case measure => simp [intOf]; omega
      by_cases k2 : X > 57343
      · have HE := HO ⟨by unfold highP; omega, by unfold lowP; omega⟩
        clear HL HP HA HW HO hcell2
        go_wp2_with (at_builtin; refine wpList_push rfl _ _ 22 rfl Tryd.underlying22 infoI32 (by omega) w.heap.size _ xs X w _ hown rfl rfl hbl hsz (by omega) ?_; intro v' w1 hown' hbl')
        go_roundw
        case rel => exact ⟨k, p + 1, xs ++ [X], by omega, by simp; omega, by omega, by go_num, hown', hbl', HE⟩
        case measure => simp [intOf]; omega
      by_cases k3 : X > 56319
      · have HE := HW (by unfold lowP; omega)
        clear HL HP HA HW HO hcell2 hown
        go_wp2
        go_ret3
        rw [HE.out]
        exact ⟨_, rfl, sliceV_nil _ _ _ hbl⟩
      have hhi : highP X := by unfold highP; omega
      by_cases k4 : p + 1 = u.length
      · have HE := HL ⟨k4, hhi⟩
        have k4' : (p : Int) + 1 = u.length := by omega
        clear HL HP HA HW HO hcell2 hown hhi
        go_wp2
        go_ret3
        rw [HE.out]
        exact ⟨_, rfl, sliceV_nil _ _ _ hbl⟩
      have k4' : ¬ (p : Int) + 1 = u.length := by omega
      have k4'' : (p : Int) + 1 < u.length := by omega
      have hc2 := hcell2 (by omega)
      by_cases k5 : Y < 56320
      · have HE := HA ⟨by omega, hhi, by unfold lowP; omega⟩
        clear HL HP HA HW HO hcell2 hown hhi
        go_wp2
        go_ret3
        rw [HE.out]
        exact ⟨_, rfl, sliceV_nil _ _ _ hbl⟩
      by_cases k6 : Y > 57343
      · have HE := HA ⟨by omega, hhi, by unfold lowP; omega⟩
        clear HL HP HA HW HO hcell2 hown hhi
        go_wp2
        go_ret3
        rw [HE.out]
        exact ⟨_, rfl, sliceV_nil _ _ _ hbl⟩
      · have HE := HP ⟨by omega, hhi, by unfold lowP; omega⟩
        have e : 65536 + (X - 55296) * 1024 + (Y - 56320) = 65536 + (X - 55296) * 1024 + Y - 56320 := by omega
        rw [e] at HE
        clear HL HP HA HW HO hcell2 hhi e
        go_wp2_with (at_builtin; refine wpList_push rfl _ _ 22 rfl Tryd.underlying22 infoI32 (by omega) w.heap.size _ xs (65536 + (X - 55296) * 1024 + Y - 56320) w _ hown rfl rfl hbl hsz (by omega) ?_; intro v' w1 hown' hbl')
        go_roundw
        case rel => exact ⟨k, p + 2, xs ++ [65536 + (X - 55296) * 1024 + Y - 56320], by omega, by simp; omega, by omega, by go_num, hown', hbl', HE⟩
        case measure => simp [intOf]; omega
    · obtain rfl : p = u.length := by omega
      have HE := Lib.hid (HG.out.trans (fromG_end k u xs))
      go_wp2
      go_ret3
      have hd : fromP u = (xs, u.length, 0) := HE.out
      rw [hd]
      exact ⟨_, rfl, hown.sliceV hbl⟩
end Go.Proofs.YtcegaelpbeefaaaDoor
