/-
  Contracts of Encode, the program's and the document's. No condition but that the text has at most a million runes.
-/
import Derived.Test.YtcegaelpbeefaaaDoorPlace
set_option linter.unusedVariables false
namespace Go.Proofs.YtcegaelpbeefaaaDoor
open Go.ChangeShapes Go.WideShapes Go.ChangeAt Go.RowKit

theorem encZ_take (t : List Int) (k : Nat) (h : k < t.length) : encZ (t.take (k + 1)) = encZ (t.take k) ++ Lib.encodeRuneZ t[k] := by
  rw [List.take_add_one, List.getElem?_eq_getElem h]
  unfold encZ
  rw [List.flatMap_append]
  simp
theorem encZ_take_len (t : List Int) (k : Nat) (h : t.length ≤ 1000000) : (encZ (t.take k)).length ≤ 4000000 := by
  have := encZ_len (t.take k)
  rw [List.length_take] at this
  omega
theorem valid_range {r : Int} (h : Lib.validRune r = true) : 0 ≤ r ∧ r ≤ 1114111 := by
  have h := of_decide_eq_true h
  omega
theorem appendRune_ok (B : Nat) (v : Value) (xs : List Int) (r : Int) (w : World) (hown : Mine .u8 5 w B v xs) (hn : xs.length ≤ 1000000000) (hB : B ≤ w.heap.size) (h0 : -2147483648 ≤ r) (h1 : r ≤ 2147483647) :
    Calls Tryd.prog 28 #[v, .int .i32 r] w fun e w' => ∃ v', e = .returned v' ∧ Mine .u8 5 w' B v' (xs ++ Lib.encodeRuneZ r) ∧ Below B w w' := by
  refine (Tryd.utf8_AppendRune_plain B v xs.length _ r h0 h1 w hown (by omega) hB).mono ?_
  rintro e w' ⟨v', rfl, ho, o, hg⟩
  refine ⟨v', rfl, ?_, ((Below.refl B w).alloc hB o).grown hg (by simp; omega) fun j hj => (World.ownsRow.lt hown j hj).1⟩
  unfold Mine
  simpa [Lib.runeCells] using ho

set_option maxHeartbeats 1000000 in
theorem encode_ok (A : Option Addr) (c : Nat) (t : List Int) (w : World) (hn : t.length ≤ 1000000) (h : Has w w.heap.size A (t.map (Value.int .i32))) :
    Calls Tryd.prog 10 #[.slice A t.length c] w fun e w' => PairOf .u8 w w' e (encP t) (codeP t) := by
  have cr := right_ok A c t w (by omega) h
  by_cases hv : allP t = true
  · rw [hv] at cr
    have e1 : encP t = encZ t := if_pos hv
    have e2 : codeP t = 0 := if_pos hv
    rw [e1, e2]
    have HV := Lib.hid hv
    clear hv e1 e2
    go_enter Tryd.func10, Tryd.ntmps10
    go_wp2_with (go_at_call 14; refine cr.mono ?_; rintro e w' ⟨rfl, rfl⟩)
    go_loopw [4, 12] (fun v i wr => ∃ k : Nat, k ≤ t.length ∧ i = .int .i64 k ∧ Mine .u8 5 wr w.heap.size v (encZ (t.take k)) ∧ Below w.heap.size w wr) (fun _ i _ => t.length - (intOf i).toNat)
    case atStart => exact ⟨0, by omega, rfl, Mine.nil_ _ _ _ _, Below.refl _ _⟩
    case round =>
      obtain ⟨k, hk, rfl, hown, hbl⟩ := hrel
      by_cases hlt : k < t.length
      · obtain ⟨b, off, rfl, hb, hcc⟩ := (h.carry hbl).at_int hlt
        have HE := Lib.hid (encZ_take t k hlt)
        have hlen := encZ_take_len t k hn
        have hr := valid_range (allP_at t k hlt HV.out)
        obtain ⟨X, hX⟩ : ∃ X, t[k] = X := ⟨_, rfl⟩
        rw [hX] at hcc hr
        have HX := Lib.hid hX
        have ca := appendRune_ok w.heap.size _ _ X _ hown (by omega) hbl.size (by omega) (by omega)
        clear hX h hown cr
        go_wp2_with (go_at_call 28; refine ca.mono ?_; rintro e w2 ⟨v2, rfl, hown2, hb2⟩)
        go_roundw
        case rel => exact ⟨k + 1, by omega, by go_num, by rw [HE.out, HX.out]; exact hown2, hbl.trans hb2⟩
        case measure => simp [intOf]; omega
      · obtain rfl : k = t.length := by omega
        rw [List.take_length] at hown
        go_wp2
        go_ret2
        exact ⟨_, rfl, hown.sliceV hbl⟩
  · have hv' : allP t = false := by simpa using hv
    rw [hv'] at cr
    have e1 : encP t = [] := if_neg hv
    have e2 : codeP t = 13 := if_neg hv
    rw [e1, e2]
    clear hv hv' e1 e2
    go_enter Tryd.func10, Tryd.ntmps10
    go_wp2_with (go_at_call 14; refine cr.mono ?_; rintro e w' ⟨rfl, rfl⟩)
    go_ret2
    exact ⟨_, rfl, sliceV_nil _ _ _ (Below.refl _ _)⟩

theorem infoU8 : (Tryd.prog.info? 5).map (fun i => (i.zero, i.size, i.bytes)) = some (some (.int .u8 0), 1, 1) := by kernel_rfl
theorem infoI32 : (Tryd.prog.info? 21).map (fun i => (i.zero, i.size, i.bytes)) = some (some (.int .i32 0), 1, 4) := by kernel_rfl
theorem infoU16 : (Tryd.prog.info? 42).map (fun i => (i.zero, i.size, i.bytes)) = some (some (.int .u16 0), 1, 2) := by kernel_rfl
set_option maxHeartbeats 2000000 in
theorem refEncode_ok (A : Option Addr) (c : Nat) (t : List Int) (w : World) (hn : t.length ≤ 1000000) (h : Has w w.heap.size A (t.map (Value.int .i32))) :
    Calls Tryd.prog 11 #[.slice A t.length c] w fun e w' => PairOf .u8 w w' e (encP t) (codeP t) := by
  have cr := refRight_ok A c t w (by omega) h
  by_cases hv : allP t = true
  · rw [hv] at cr
    have e1 : encP t = encZ t := if_pos hv
    have e2 : codeP t = 0 := if_pos hv
    rw [e1, e2]
    have HV := Lib.hid hv
    clear hv e1 e2
    go_enter Tryd.func11, Tryd.ntmps11
    go_wp2_with (go_at_call 15; refine cr.mono ?_; rintro e w' ⟨rfl, rfl⟩)
    go_loopw [4, 5] (fun v i wr => ∃ k : Nat, k ≤ t.length ∧ i = .int .i64 k ∧ Mine .u8 5 wr w.heap.size v (encZ (t.take k)) ∧ Below w.heap.size w wr) (fun _ i _ => t.length - (intOf i).toNat)
    case atStart => exact ⟨0, by omega, rfl, Mine.nil_ _ _ _ _, Below.refl _ _⟩
    case round =>
      obtain ⟨k, hk, rfl, hown, hbl⟩ := hrel
      by_cases hlt : k < t.length
      · obtain ⟨b, off, rfl, hb, hcc⟩ := (h.carry hbl).at_int hlt
        have HE := Lib.hid (encZ_take t k hlt)
        have hlen := encZ_take_len t k hn
        have hval := allP_at t k hlt HV.out
        obtain ⟨X, hX⟩ : ∃ X, t[k] = X := ⟨_, rfl⟩
        rw [hX] at hcc hval
        have HX := Lib.hid hX
        have hl4 := lenP_range X
        unfold lenP at hl4
        obtain ⟨ys, hys⟩ : ∃ ys, Lib.encodeRuneZ X = ys := ⟨_, rfl⟩
        have cf := fun w => form_ok X w hval
        simp only [hys] at cf hl4
        have HY := Lib.hid hys
        obtain ⟨xs, hxs⟩ : ∃ xs, encZ (t.take k) = xs := ⟨_, rfl⟩
        rw [hxs] at hown hlen
        have HXS := Lib.hid hxs
        clear hX h cr hys hxs hval
        go_wp2_with (go_at_call 29; refine (cf _).mono ?_; rintro e w2 ⟨v, rfl, A1, c1, rfl, hc1, hh1, hb1⟩; have hown1 := hown.below hb1; have hbl1 := below_trans hbl hb1 hbl.size; have hap : ∀ a, A1 = some a → Value.ownBlock _ ≠ some a.block := (fun a ha e => by have h1 := hc1.2 a ha; have h2 := (World.ownsRow.lt hown _ e).2; omega); clear hown hb1 hcc hbl hb)
        go_loopw [4, 7] (fun v i wr => ∃ j : Nat, j ≤ ys.length ∧ i = .int .i64 j ∧ Mine .u8 5 wr w.heap.size v (xs ++ ys.take j) ∧ Below w.heap.size w wr ∧ Has wr wr.heap.size A1 (ys.map (Value.int .u8)) ∧ (∀ a, A1 = some a → v.ownBlock ≠ some a.block)) (fun _ i _ => ys.length - (intOf i).toNat)
        case atStart => exact ⟨0, by omega, rfl, by simpa using hown1, hbl1, hh1, hap⟩
        case round =>
          obtain ⟨j, hj, rfl, hown3, hbl3, hh3, hap3⟩ := hrel
          by_cases hjl : j < ys.length
          · obtain ⟨b1, off1, hA1, hb1, hc3⟩ := hh3.at_int hjl
            have hne3 := hap3 _ hA1
            have HA1 := Lib.hid hA1
            subst hA1
            obtain ⟨Y, hY⟩ : ∃ Y, ys[j] = Y := ⟨_, rfl⟩
            rw [hY] at hc3
            have HT := Lib.hid (show ys.take (j + 1) = ys.take j ++ [Y] by rw [List.take_add_one, List.getElem?_eq_getElem hjl, hY]; rfl)
            have hsz := hbl3.size
            have hlen2 : (xs ++ ys.take j).length ≤ 5000000 := by rw [List.length_append, List.length_take]; omega
            clear hY hh1 hown1 hbl1
            go_wp2_with (at_builtin; refine wpList_push_far rfl _ _ 24 rfl Tryd.underlying24 infoU8 (by omega) w.heap.size _ _ Y _ hown3 rfl rfl hsz (by omega) ?_; intro v' w1 hown4 hbl4 hfar; have hfar1 := hfar b1 hb1 hne3; clear hfar)
            go_roundw
            case rel => exact ⟨j + 1, by omega, by go_num, by rw [HT.out, ← List.append_assoc]; exact hown4, hbl3.trans hbl4, hh3.stays hbl4.size (fun a ha _ => by injection ha with ha; subst ha; exact hfar1.2), (fun a ha => by injection ha with ha; subst ha; exact hfar1.1)⟩
            case measure => simp [intOf]; omega
          · obtain rfl : j = ys.length := by omega
            rw [List.take_length] at hown3
            go_wp2
            go_roundw
            case rel => exact ⟨k + 1, by omega, by go_num, by rw [HE.out, HX.out, HY.out, HXS.out]; exact hown3, hbl3⟩
            case measure => simp [intOf]; omega
      · obtain rfl : k = t.length := by omega
        rw [List.take_length] at hown
        go_wp2
        go_ret2
        exact ⟨_, rfl, hown.sliceV hbl⟩
  · have hv' : allP t = false := by simpa using hv
    rw [hv'] at cr
    have e1 : encP t = [] := if_neg hv
    have e2 : codeP t = 13 := if_neg hv
    rw [e1, e2]
    clear hv hv' e1 e2
    go_enter Tryd.func11, Tryd.ntmps11
    go_wp2_with (go_at_call 15; refine cr.mono ?_; rintro e w' ⟨rfl, rfl⟩)
    go_ret2
    exact ⟨_, rfl, sliceV_nil _ _ _ (Below.refl _ _)⟩
end Go.Proofs.YtcegaelpbeefaaaDoor
