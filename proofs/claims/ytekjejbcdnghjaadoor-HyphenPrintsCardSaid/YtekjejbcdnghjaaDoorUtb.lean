/-
  UTF-8, the document's: whether a rune, a text is right; the bytes of a rune; Encode. No condition but that the text has at most a million runes.
-/
import Derived.Test.YtekjejbcdnghjaaDoorUta
import Derived.Test.YtekjejbcdnghjaaDoorGives
import Derived.Test.YtekjejbcdnghjaaDoorOwn
set_option linter.unusedVariables false
set_option linter.unusedSimpArgs false
namespace Go.Proofs.YtekjejbcdnghjaaDoor
open Go.ChangeShapes Go.WideShapes Go.ChangeAt Go.RowKit
theorem ByteZ.get {s : List Int} (h : ByteZ s) (j : Nat) : 0 ≤ s.getD j 0 ∧ s.getD j 0 ≤ 255 := by
  rw [List.getD_eq_getElem?_getD]
  by_cases hj : j < s.length
  · rw [List.getElem?_eq_getElem hj]; exact h _ (List.getElem_mem hj)
  · rw [List.getElem?_eq_none (by omega)]; simp
theorem ByteZ.drop {s : List Int} (h : ByteZ s) (k : Nat) : ByteZ (s.drop k) := fun z hz => h z (List.mem_of_mem_drop hz)
theorem ByteZ.take {s : List Int} (h : ByteZ s) (k : Nat) : ByteZ (s.take k) := fun z hz => h z (List.mem_of_mem_take hz)
theorem Has.getD_cell {w : World} {B : Nat} {A : Option Addr} {q : IntKind} {s : List Int} (h : Has w B A (s.map (Value.int q))) (hne : s ≠ []) :
    ∃ b off, A = some ⟨b, off, none⟩ ∧ b < B ∧ ∀ j, j < s.length → w.cell? ⟨b, off + j, none⟩ = some (.int q (s.getD j 0)) := by
  obtain ⟨b, off, e, hb, hc⟩ := h (by simpa using hne)
  refine ⟨b, off, e, hb, fun j hj => hc j _ ?_⟩
  rw [List.getElem?_map, List.getElem?_eq_getElem hj, List.getD_eq_getElem?_getD, List.getElem?_eq_getElem hj]
  rfl
theorem one_ok (r : Int) (w : World) : Calls Tryd.prog 76 #[.int .i32 r] w fun e w' => e = .returned (.bool (Lib.validRune r)) ∧ w = w' := by
  have hv : Lib.validRune r = decide ((0 ≤ r ∧ r < 55296) ∨ (57343 < r ∧ r ≤ 1114111)) := rfl
  rw [hv]
  clear hv
  by_cases h1 : 0 ≤ r
  · by_cases h2 : r < 55296
    · have e : decide ((0 ≤ r ∧ r < 55296) ∨ (57343 < r ∧ r ≤ 1114111)) = true := by simp; omega
      rw [e]
      go_enter Tryd.func76, Tryd.ntmps76
      go_wp2
      all_goals go_ret
      all_goals exact ⟨by first | rfl | (simp <;> omega), rfl⟩
    · by_cases h3 : 57343 < r
      · have e : decide ((0 ≤ r ∧ r < 55296) ∨ (57343 < r ∧ r ≤ 1114111)) = decide (r ≤ 1114111) := by apply decide_eq_decide.2; omega
        rw [e]
        go_enter Tryd.func76, Tryd.ntmps76
        go_wp2
        all_goals go_ret
        all_goals exact ⟨by first | rfl | (simp <;> omega), rfl⟩
      · have e : decide ((0 ≤ r ∧ r < 55296) ∨ (57343 < r ∧ r ≤ 1114111)) = false := by simp; omega
        rw [e]
        go_enter Tryd.func76, Tryd.ntmps76
        go_wp2
        all_goals go_ret
        all_goals exact ⟨by first | rfl | (simp <;> omega), rfl⟩
  · have e : decide ((0 ≤ r ∧ r < 55296) ∨ (57343 < r ∧ r ≤ 1114111)) = false := by simp; omega
    have h3 : ¬ 57343 < r := by omega
    rw [e]
    go_enter Tryd.func76, Tryd.ntmps76
    go_wp2
    all_goals go_ret
    all_goals exact ⟨by first | rfl | (simp <;> omega), rfl⟩
theorem allP_take (t : List Int) (k : Nat) (h : k < t.length) (hk : allP (t.take k) = true) (hv : Lib.validRune t[k] = true) : allP (t.take (k + 1)) = true := by
  rw [List.take_add_one, List.getElem?_eq_getElem h]
  unfold allP at hk ⊢
  rw [List.all_append, hk, Bool.true_and]
  simp [hv]
theorem allP_bad (t : List Int) (k : Nat) (h : k < t.length) (hv : Lib.validRune t[k] = false) : allP t = false := by
  unfold allP
  rw [List.all_eq_false]
  exact ⟨t[k], List.getElem_mem h, by simp [hv]⟩
/-- the document's Right -/
theorem refRight_ok (A : Option Addr) (c : Nat) (t : List Int) (w : World) (hn : t.length ≤ 9223372036854775807) (h : Has w w.heap.size A (t.map (Value.int .i32))) :
    Calls Tryd.prog 58 #[.slice A t.length c] w fun e w' => e = .returned (.bool (allP t)) ∧ w = w' := by
  obtain ⟨V, hV⟩ : ∃ V, allP t = V := ⟨_, rfl⟩
  rw [hV]
  have HV := Lib.hid hV
  clear hV
  go_enter Tryd.func58, Tryd.ntmps58
  go_wp2
  go_loop [3] (fun i => ∃ k : Nat, k ≤ t.length ∧ i = .int .i64 k ∧ Hid (allP (t.take k) = true)) (fun i => t.length - (intOf i).toNat)
  case atStart => exact ⟨0, by omega, rfl, Lib.hid rfl⟩
  case round =>
    obtain ⟨k, hk, rfl, HK⟩ := hrel
    by_cases hlt : k < t.length
    · obtain ⟨b, off, rfl, hb, hc⟩ := h.at_int hlt
      obtain ⟨X, hX⟩ : ∃ X, t[k] = X := ⟨_, rfl⟩
      rw [hX] at hc
      obtain ⟨v, hv⟩ : ∃ v, Lib.validRune X = v := ⟨_, rfl⟩
      have cv := fun w => one_ok X w
      rw [hv] at cv
      have HX := Lib.hid hX
      have Hv := Lib.hid hv
      clear hX hv h
      cases v
      · go_wp2_with (go_at_call 76; refine (cv _).mono ?_; rintro e w' ⟨rfl, rfl⟩)
        go_ret
        exact ⟨by rw [← HV.out, allP_bad t k hlt (by rw [HX.out]; exact Hv.out)]; rfl, rfl⟩
      · go_wp2_with (go_at_call 76; refine (cv _).mono ?_; rintro e w' ⟨rfl, rfl⟩)
        go_round
        case rel => exact ⟨k + 1, by omega, by go_num, Lib.hid (allP_take t k hlt HK.out (by rw [HX.out]; exact Hv.out))⟩
        case measure => simp [intOf]; omega
    · obtain rfl : k = t.length := by omega
      have HT : Hid (V = true) := Lib.hid (by rw [← HV.out]; simpa using HK.out)
      go_wp2
      go_ret
      exact ⟨by rw [HT.out]; rfl, rfl⟩
theorem long_ok (x : Int) (w : World) : Calls Tryd.prog 52 #[.int .i64 x] w fun e w' => e = .returned (.int .i64 (longP x)) ∧ w = w' := by
  obtain ⟨L, hL⟩ : ∃ L, longP x = L := ⟨_, rfl⟩
  have HL := Lib.hid hL
  rw [hL]
  clear hL
  unfold longP at HL
  go_enter Tryd.func52, Tryd.ntmps52
  go_wp2
  all_goals go_ret
  all_goals refine ⟨?_, rfl⟩
  all_goals (have hl := HL.out; repeat' split at hl)
  all_goals first | (subst hl; rfl) | (exfalso; omega)
theorem second_ok (a b : Int) (w : World) : Calls Tryd.prog 72 #[.int .i64 a, .int .i64 b] w fun e w' => e = .returned (.bool (decide (secP a b))) ∧ w = w' := by
  obtain ⟨V, hV⟩ : ∃ V, decide (secP a b) = V := ⟨_, rfl⟩
  have HV := Lib.hid hV
  rw [hV]
  clear hV
  unfold secP loP hiP at HV
  by_cases k1 : a = 224
  · subst k1
    go_enter Tryd.func72, Tryd.ntmps72
    go_wp2
    all_goals go_ret
    all_goals refine ⟨?_, rfl⟩
    all_goals (have hv := HV.out; subst hv)
    all_goals simp [*] <;> omega
  by_cases k2 : a = 237
  · subst k2
    go_enter Tryd.func72, Tryd.ntmps72
    go_wp2
    all_goals go_ret
    all_goals refine ⟨?_, rfl⟩
    all_goals (have hv := HV.out; subst hv)
    all_goals simp [*] <;> omega
  by_cases k3 : a = 240
  · subst k3
    go_enter Tryd.func72, Tryd.ntmps72
    go_wp2
    all_goals go_ret
    all_goals refine ⟨?_, rfl⟩
    all_goals (have hv := HV.out; subst hv)
    all_goals simp [*] <;> omega
  by_cases k4 : a = 244
  · subst k4
    go_enter Tryd.func72, Tryd.ntmps72
    go_wp2
    all_goals go_ret
    all_goals refine ⟨?_, rfl⟩
    all_goals (have hv := HV.out; subst hv)
    all_goals simp [*] <;> omega
  go_enter Tryd.func72, Tryd.ntmps72
  go_wp2
  all_goals go_ret
  all_goals refine ⟨?_, rfl⟩
  all_goals (have hv := HV.out; subst hv)
  all_goals simp [*] <;> omega
set_option maxHeartbeats 1000000 in
theorem form_ok (r : Int) (w : World) (hv : Lib.validRune r = true) :
    Calls Tryd.prog 59 #[.int .i32 r] w fun e w' => SliceOf .u8 w w' e (Lib.encodeRuneZ r) := by
  have h := of_decide_eq_true hv
  have h0 : 0 ≤ r := by omega
  have h1 : r ≤ 1114111 := by omega
  have HV := Lib.hid h
  clear hv h
  by_cases k1 : r < 128
  · have e1 : Lib.encodeRuneZ r = [r] := by unfold Lib.encodeRuneZ; rw [if_pos (by omega)]
    rw [e1]
    clear e1
    go_enter Tryd.func59, Tryd.ntmps59
    go_wp2
    go_ret
    exact ⟨_, rfl, sliceV_lit w .u8 5 [r] _ rfl _ rfl⟩
  by_cases k2 : r < 2048
  · have e1 := Lib.encodeRuneZ_two (r := r) (by omega) (by omega)
    rw [e1]
    clear e1
    go_enter Tryd.func59, Tryd.ntmps59
    go_wp2
    go_ret
    exact ⟨_, rfl, sliceV_lit w .u8 5 [_, _] _ rfl _ rfl⟩
  by_cases k3 : r < 65536
  · have e1 := Lib.encodeRuneZ_three (r := r) (by have := HV.out; omega)
    rw [e1]
    clear e1
    go_enter Tryd.func59, Tryd.ntmps59
    go_wp2
    go_ret
    exact ⟨_, rfl, sliceV_lit w .u8 5 [_, _, _] _ rfl _ rfl⟩
  · have e1 := Lib.encodeRuneZ_four (r := r) (by omega) (by omega)
    rw [e1]
    clear e1
    go_enter Tryd.func59, Tryd.ntmps59
    go_wp2
    go_ret
    exact ⟨_, rfl, sliceV_lit w .u8 5 [_, _, _, _] _ rfl _ rfl⟩
theorem allP_at (t : List Int) (k : Nat) (h : k < t.length) (hv : allP t = true) : Lib.validRune t[k] = true := by
  unfold allP at hv
  rw [List.all_eq_true] at hv
  exact hv _ (List.getElem_mem h)
theorem encZ_take (t : List Int) (k : Nat) (h : k < t.length) : encZ (t.take (k + 1)) = encZ (t.take k) ++ Lib.encodeRuneZ t[k] := by
  rw [List.take_add_one, List.getElem?_eq_getElem h]
  unfold encZ
  rw [List.flatMap_append]
  simp
theorem encZ_take_len (t : List Int) (k : Nat) (h : t.length ≤ 1000000) : (encZ (t.take k)).length ≤ 4000000 := by
  have := encZ_len (t.take k)
  rw [List.length_take] at this
  omega
theorem valid_range {r : Int} (h : Lib.validRune r = true) : 0 ≤ r ∧ r ≤ 1114111 := by
  have h := of_decide_eq_true h
  omega
theorem infoU8 : (Tryd.prog.info? 5).map (fun i => (i.zero, i.size, i.bytes)) = some (some (.int .u8 0), 1, 1) := by kernel_rfl
theorem infoI32 : (Tryd.prog.info? 21).map (fun i => (i.zero, i.size, i.bytes)) = some (some (.int .i32 0), 1, 4) := by kernel_rfl
set_option maxHeartbeats 2000000 in
theorem refEncode_ok (A : Option Addr) (c : Nat) (t : List Int) (w : World) (hn : t.length ≤ 1000000) (h : Has w w.heap.size A (t.map (Value.int .i32))) :
    Calls Tryd.prog 37 #[.slice A t.length c] w fun e w' => PairOf .u8 w w' e (encP t) (codeP t) := by
  have cr := refRight_ok A c t w (by omega) h
  by_cases hv : allP t = true
  · rw [hv] at cr
    have e1 : encP t = encZ t := if_pos hv
    have e2 : codeP t = 0 := if_pos hv
    rw [e1, e2]
    have HV := Lib.hid hv
    clear hv e1 e2
    go_enter Tryd.func37, Tryd.ntmps37
    go_wp2_with (go_at_call 58; refine cr.mono ?_; rintro e w' ⟨rfl, rfl⟩)
    go_loopw [4, 5] (fun v i wr => ∃ k : Nat, k ≤ t.length ∧ i = .int .i64 k ∧ Mine .u8 5 wr w.heap.size v (encZ (t.take k)) ∧ Below w.heap.size w wr) (fun _ i _ => t.length - (intOf i).toNat)
    case atStart => exact ⟨0, by omega, rfl, Mine.nil_ _ _ _ _, Below.refl _ _⟩
    case round =>
      obtain ⟨k, hk, rfl, hown, hbl⟩ := hrel
      by_cases hlt : k < t.length
      · obtain ⟨b, off, rfl, hb, hcc⟩ := (h.carry hbl).at_int hlt
        have HE := Lib.hid (encZ_take t k hlt)
        have hlen := encZ_take_len t k hn
        have hval := allP_at t k hlt HV.out
        obtain ⟨X, hX⟩ : ∃ X, t[k] = X := ⟨_, rfl⟩
        rw [hX] at hcc hval
        have HX := Lib.hid hX
        have hl4 := lenP_range X
        unfold lenP at hl4
        obtain ⟨ys, hys⟩ : ∃ ys, Lib.encodeRuneZ X = ys := ⟨_, rfl⟩
        have cf := fun w => form_ok X w hval
        simp only [hys] at cf hl4
        have HY := Lib.hid hys
        obtain ⟨xs, hxs⟩ : ∃ xs, encZ (t.take k) = xs := ⟨_, rfl⟩
        rw [hxs] at hown hlen
        have HXS := Lib.hid hxs
        clear hX h cr hys hxs hval
        go_wp2_with (go_at_call 59; refine (cf _).mono ?_; rintro e w2 ⟨v, rfl, A1, c1, rfl, hc1, hh1, hb1⟩; have hown1 := hown.below hb1; have hbl1 := below_trans hbl hb1 hbl.size; have hap : ∀ a, A1 = some a → Value.ownBlock _ ≠ some a.block := (fun a ha e => by have h1 := hc1.2 a ha; have h2 := (World.ownsRow.lt hown _ e).2; omega); clear hown hb1 hcc hbl hb)
        go_loopw [4, 7] (fun v i wr => ∃ j : Nat, j ≤ ys.length ∧ i = .int .i64 j ∧ Mine .u8 5 wr w.heap.size v (xs ++ ys.take j) ∧ Below w.heap.size w wr ∧ Has wr wr.heap.size A1 (ys.map (Value.int .u8)) ∧ (∀ a, A1 = some a → v.ownBlock ≠ some a.block)) (fun _ i _ => ys.length - (intOf i).toNat)
        case atStart => exact ⟨0, by omega, rfl, by simpa using hown1, hbl1, hh1, hap⟩
        case round =>
          obtain ⟨j, hj, rfl, hown3, hbl3, hh3, hap3⟩ := hrel
          by_cases hjl : j < ys.length
          · obtain ⟨b1, off1, hA1, hb1, hc3⟩ := hh3.at_int hjl
            have hne3 := hap3 _ hA1
            have HA1 := Lib.hid hA1
            subst hA1
            obtain ⟨Y, hY⟩ : ∃ Y, ys[j] = Y := ⟨_, rfl⟩
            rw [hY] at hc3
            have HT := Lib.hid (show ys.take (j + 1) = ys.take j ++ [Y] by rw [List.take_add_one, List.getElem?_eq_getElem hjl, hY]; rfl)
            have hsz := hbl3.size
            have hlen2 : (xs ++ ys.take j).length ≤ 5000000 := by rw [List.length_append, List.length_take]; omega
            clear hY hh1 hown1 hbl1
            go_wp2_with (at_builtin; refine wpList_push_far rfl _ _ 54 rfl Tryd.underlying54 infoU8 (by omega) w.heap.size _ _ Y _ hown3 rfl rfl hsz (by omega) ?_; intro v' w1 hown4 hbl4 hfar; have hfar1 := hfar b1 hb1 hne3; clear hfar)
            go_roundw
            case rel => exact ⟨j + 1, by omega, by go_num, by rw [HT.out, ← List.append_assoc]; exact hown4, hbl3.trans hbl4, hh3.stays hbl4.size (fun a ha _ => by injection ha with ha; subst ha; exact hfar1.2), (fun a ha => by injection ha with ha; subst ha; exact hfar1.1)⟩
            case measure => simp [intOf]; omega
          · obtain rfl : j = ys.length := by omega
            rw [List.take_length] at hown3
            go_wp2
            go_roundw
            case rel => exact ⟨k + 1, by omega, by go_num, by rw [HE.out, HX.out, HY.out, HXS.out]; exact hown3, hbl3⟩
            case measure => simp [intOf]; omega
      · obtain rfl : k = t.length := by omega
        rw [List.take_length] at hown
        go_wp2
        go_ret2
        exact ⟨_, rfl, hown.sliceV hbl⟩
  · have hv' : allP t = false := by simpa using hv
    rw [hv'] at cr
    have e1 : encP t = [] := if_neg hv
    have e2 : codeP t = 13 := if_neg hv
    rw [e1, e2]
    clear hv hv' e1 e2
    go_enter Tryd.func37, Tryd.ntmps37
    go_wp2_with (go_at_call 58; refine cr.mono ?_; rintro e w' ⟨rfl, rfl⟩)
    go_ret2
    exact ⟨_, rfl, sliceV_nil _ _ _ (Below.refl _ _)⟩
end Go.Proofs.YtekjejbcdnghjaaDoor
