/-
  Contracts of the document's digit, may, small and stands. No condition.
-/
import Derived.Test.YtekjejbcdnghjaaDoorHyb
import Derived.Test.YtekjejbcdnghjaaDoorOwn
import Derived.Test.YtekjejbcdnghjaaDoorGives
import Derived.Deep.QuietTactic
import Derived.BigQuiet
set_option linter.unusedVariables false
set_option linter.unusedSimpArgs false
namespace Go.Proofs.YtekjejbcdnghjaaDoor
open Go.ChangeShapes Go.WideShapes Go.ChangeAt Go.RowKit

theorem rdigit_ok (r : Int) (w : World) : Calls Tryd.prog 32 #[.int .i32 r] w fun e w' => e = .returned (.bool (decide (isD r))) ∧ w = w' := by
  unfold isD
  by_cases h1 : 48 ≤ r
  · have e : decide (48 ≤ r ∧ r ≤ 57) = decide (r ≤ 57) := by apply decide_eq_decide.2; omega
    rw [e]
    go_enter Tryd.func32, Tryd.ntmps32
    go_wp2
    all_goals go_ret
    all_goals exact ⟨by first | rfl | (simp <;> omega), rfl⟩
  · have e : decide (48 ≤ r ∧ r ≤ 57) = false := by simp; omega
    rw [e]
    go_enter Tryd.func32, Tryd.ntmps32
    go_wp2
    all_goals go_ret
    all_goals exact ⟨by first | rfl | (simp <;> omega), rfl⟩
theorem rsmall_ok (r : Int) (w : World) : Calls Tryd.prog 40 #[.int .i32 r] w fun e w' => e = .returned (.int .i32 (smallZ r)) ∧ w = w' := by
  obtain ⟨V, hV⟩ : ∃ V, smallZ r = V := ⟨_, rfl⟩
  have HV := Lib.hid hV
  rw [hV]
  clear hV
  unfold smallZ at HV
  by_cases h1 : 65 ≤ r
  · by_cases h2 : r ≤ 90
    · have e : V = r + 32 := by rw [← HV.out, if_pos ⟨h1, h2⟩]
      subst e
      go_enter Tryd.func40, Tryd.ntmps40
      go_wp2
      go_ret
      exact ⟨by go_num, rfl⟩
    · have e : V = r := by rw [← HV.out, if_neg (by omega)]
      subst e
      go_enter Tryd.func40, Tryd.ntmps40
      go_wp2
      go_ret
      exact ⟨rfl, rfl⟩
  · have e : V = r := by rw [← HV.out, if_neg (by omega)]
    subst e
    go_enter Tryd.func40, Tryd.ntmps40
    go_wp2
    go_ret
    exact ⟨rfl, rfl⟩

theorem ownN_take (l : List Int) (k : Nat) (h : k < l.length) : ownN (l.take (k + 1)) = ownN (l.take k) + (if l[k] = 46 then 0 else 1) := by
  rw [List.take_add_one, List.getElem?_eq_getElem h, Option.toList_some, ownN_snoc]
theorem rmay_ok (A : Option Addr) (c : Nat) (l : List Int) (w : World) (hn : l.length ≤ 9223372036854775807) (h : Has w w.heap.size A (l.map (Value.int .i32))) :
    Calls Tryd.prog 33 #[.slice A l.length c] w fun e w' => e = .returned (.bool (mayB l)) ∧ w = w' := by
  obtain ⟨V, hV⟩ : ∃ V, mayB l = V := ⟨_, rfl⟩
  rw [hV]
  have HV := Lib.hid hV
  clear hV
  go_enter Tryd.func33, Tryd.ntmps33
  go_wp2
  go_loop [3, 4] (fun o i => ∃ k : Nat, k ≤ l.length ∧ o = .int .i64 (ownN (l.take k)) ∧ i = .int .i64 k ∧ Hid (∀ j, j < k → l.getD j 0 = 46 → j = 0 ∨ j + 1 = l.length)) (fun _ i => l.length - (intOf i).toNat)
  case atStart => exact ⟨0, by omega, rfl, rfl, Lib.hid (fun j hj => absurd hj (by omega))⟩
  case round =>
    obtain ⟨k, hk, rfl, rfl, HK⟩ := hrel
    have ho := Nat.le_trans (ownN_le (l.take k)) (List.length_take_le _ _)
    have hol := ownN_le l
    obtain ⟨O, hO⟩ : ∃ O, ownN (l.take k) = O := ⟨_, rfl⟩
    rw [hO] at ho ⊢
    by_cases hlt : k < l.length
    · obtain ⟨b, off, rfl, hb, hc⟩ := h.at_int hlt
      have HT := ownN_take l k hlt
      have hD : l.getD k 0 = l[k] := by simp [List.getD, List.getElem?_eq_getElem hlt]
      obtain ⟨X, hX⟩ : ∃ X, l[k] = X := ⟨_, rfl⟩
      rw [hX] at hc HT hD
      rw [hO] at HT
      have HT := Lib.hid HT
      have HD := Lib.hid hD
      have HO := Lib.hid hO
      clear hX hD hO h hol
      by_cases hx : X = 46
      · subst hx
        by_cases q : 0 < k ∧ k + 1 < l.length
        · have q1 : (k : Int) > 0 := by omega
          have q2 : (k : Int) < (l.length : Int) - 1 := by omega
          have HF : Hid (V = false) := Lib.hid (by
            rw [← HV.out, Bool.eq_false_iff]
            intro hm
            have := ((mayB_iff l).1 hm).2.2 k hlt HD.out
            omega)
          clear HT HD HK
          go_wp2
          go_ret
          exact ⟨by rw [HF.out]; rfl, rfl⟩
        · have HN : Hid (∀ j, j < k + 1 → l.getD j 0 = 46 → j = 0 ∨ j + 1 = l.length) := Lib.hid (fun j hj e => by
            rcases Nat.lt_or_ge j k with h1 | h1
            · exact HK.out j h1 e
            · omega)
          have HE : Hid (ownN (l.take (k + 1)) = O) := Lib.hid (by rw [HT.out, if_pos rfl]; rfl)
          clear HT HD HK
          by_cases q1 : (k : Int) > 0
          · have q2 : ¬ (k : Int) < (l.length : Int) - 1 := by omega
            go_wp2
            go_round
            case rel => exact ⟨k + 1, by omega, by rw [HE.out], by go_num, HN⟩
            case measure => simp [intOf]; omega
          · go_wp2
            go_round
            case rel => exact ⟨k + 1, by omega, by rw [HE.out], by go_num, HN⟩
            case measure => simp [intOf]; omega
      · have HN : Hid (∀ j, j < k + 1 → l.getD j 0 = 46 → j = 0 ∨ j + 1 = l.length) := Lib.hid (fun j hj e => by
          rcases Nat.lt_or_ge j k with h1 | h1
          · exact HK.out j h1 e
          · have : j = k := by omega
            subst this
            exact absurd (HD.out.symm.trans e) hx)
        have HE : Hid (ownN (l.take (k + 1)) = O + 1) := Lib.hid (by rw [HT.out, if_neg hx])
        clear HT HD HK
        go_wp2
        go_round
        case rel => exact ⟨k + 1, by omega, by rw [HE.out]; go_num, by go_num, HN⟩
        case measure => simp [intOf]; omega
    · obtain rfl : k = l.length := by omega
      have hO' : ownN l = O := by rw [← hO, List.take_length]
      have HR : Hid (V = decide (1 ≤ O ∧ O ≤ 16)) := Lib.hid (by
        rw [← HV.out, Bool.eq_iff_iff, mayB_iff, hO', decide_eq_true_eq]
        exact ⟨fun h => ⟨h.1, h.2.1⟩, fun h => ⟨h.1, h.2, fun i hi e => HK.out i hi e⟩⟩)
      clear hO hO' hol
      by_cases q1 : 1 ≤ O
      · have q1' : (O : Int) ≥ 1 := by omega
        by_cases q2 : O ≤ 16
        · have q2' : (O : Int) ≤ 16 := by omega
          go_wp2
          go_ret
          exact ⟨by rw [HR.out, decide_eq_true ⟨q1, q2⟩]; first | rfl | (simp <;> omega), rfl⟩
        · have q2' : ¬ (O : Int) ≤ 16 := by omega
          go_wp2
          go_ret
          exact ⟨by rw [HR.out, decide_eq_false (fun h => q2 h.2)]; first | rfl | (simp <;> omega), rfl⟩
      · have q1' : ¬ (O : Int) ≥ 1 := by omega
        go_wp2
        go_ret
        exact ⟨by rw [HR.out, decide_eq_false (fun h => q1 h.1)]; first | rfl | (simp <;> omega), rfl⟩

theorem pre_take (l u : List Int) (k : Nat) (hl : k < l.length) (hu : k < u.length) (h : l.take k = u.take k) (e : l[k] = u[k]) : l.take (k + 1) = u.take (k + 1) := by
  rw [List.take_add_one, List.take_add_one, h, List.getElem?_eq_getElem hl, List.getElem?_eq_getElem hu, e]
theorem pre_all (l u : List Int) (h : l.take l.length = u.take l.length) (hl : l.length ≤ u.length) : l.isPrefixOf u = true := by
  rw [List.isPrefixOf_iff_prefix, List.prefix_iff_eq_take, ← h, List.take_length]
theorem pre_not (l u : List Int) (k : Nat) (hl : k < l.length) (hu : k < u.length) (e : l[k] ≠ u[k]) : l.isPrefixOf u = false := by
  rw [Bool.eq_false_iff]
  intro h
  rw [List.isPrefixOf_iff_prefix] at h
  obtain ⟨v, rfl⟩ := h
  exact e (by rw [List.getElem_append_left hl])
theorem pre_long (l u : List Int) (h : u.length < l.length) : l.isPrefixOf u = false := by
  rw [Bool.eq_false_iff]
  intro h'
  rw [List.isPrefixOf_iff_prefix] at h'
  have := h'.length_le
  omega
theorem drew_two (w : World) (q r : Nat) : ∃ s, (w.drewN q).drewN r = w.drewN s := ⟨q + r, by simp [World.drewN, Nat.add_assoc]⟩
theorem rstands_ok (A B : Option Addr) (c d : Nat) (l t : List Int) (a : Nat) (w : World) (hn : l.length ≤ 1000000000) (hm : t.length ≤ 1000000000) (ha : a ≤ t.length)
    (h1 : Has w w.heap.size A (l.map (Value.int .i32))) (h2 : Has w w.heap.size B (t.map (Value.int .i32))) :
    Calls Tryd.prog 41 #[.slice A l.length c, .slice B t.length d, .int .i64 a] w fun e w' => e = .returned (.bool (l.isPrefixOf (t.drop a))) ∧ ∃ q, w' = w.drewN q := by
  obtain ⟨V, hV⟩ : ∃ V, l.isPrefixOf (t.drop a) = V := ⟨_, rfl⟩
  rw [hV]
  have HV := Lib.hid hV
  clear hV
  have hul : (t.drop a).length = t.length - a := List.length_drop ..
  have HU := Lib.hid hul
  clear hul
  by_cases hl : a + l.length ≤ t.length
  · have hl' : ¬ (a : Int) + l.length > t.length := by omega
    go_enter Tryd.func41, Tryd.ntmps41
    go_wp2
    go_loopw [7] (fun i wr => ∃ k : Nat, k ≤ l.length ∧ i = .int .i64 k ∧ Hid (l.take k = (t.drop a).take k) ∧ ∃ q, wr = w.drewN q) (fun i _ => l.length - (intOf i).toNat)
    case atStart => exact ⟨0, by omega, rfl, Lib.hid rfl, 0, rfl⟩
    case round =>
      obtain ⟨k, hk, rfl, HT, q, rfl⟩ := hrel
      by_cases hlt : k < l.length
      · have hlt2 : a + k < t.length := by omega
        have hlt3 : k < (t.drop a).length := by rw [HU.out]; omega
        obtain ⟨b, off, rfl, hb, hc⟩ := h1.at_int hlt
        obtain ⟨b2, off2, rfl, hb2, hc2⟩ := h2.at_int hlt2
        have hY3 : (t.drop a)[k] = t[a + k] := List.getElem_drop ..
        obtain ⟨X, hX⟩ : ∃ X, l[k] = X := ⟨_, rfl⟩
        obtain ⟨Y, hY⟩ : ∃ Y, t[a + k] = Y := ⟨_, rfl⟩
        rw [hX] at hc
        rw [hY] at hc2 hY3
        have HX := Lib.hid hX
        have HY := Lib.hid hY3
        clear hX hY hY3 h1 h2
        by_cases hxy : Y = X
        · have HTn := Lib.hid (pre_take l (t.drop a) k hlt hlt3 HT.out (by rw [HX.out, HY.out, hxy]))
          subst hxy
          go_wp2
          go_quiet (fail)
          go_wp2
          go_roundw
          case rel => exact ⟨k + 1, by omega, by go_num, HTn, _, rfl⟩
          case measure => simp [intOf]; omega
        · have HF := Lib.hid (pre_not l (t.drop a) k hlt hlt3 (by rw [HX.out, HY.out]; exact fun e => hxy e.symm))
          go_wp2
          go_quiet (fail)
          go_wp2
          go_ret
          exact ⟨by rw [← HV.out, HF.out]; rfl, drew_two _ _ _⟩
      · obtain rfl : k = l.length := by omega
        have HE : Hid (V = true) := Lib.hid (by rw [← HV.out]; exact pre_all l _ HT.out (by rw [HU.out]; omega))
        go_wp2
        go_ret
        exact ⟨by rw [HE.out]; rfl, _, rfl⟩
  · have hl' : (a : Int) + l.length > t.length := by omega
    have HE : Hid (V = false) := Lib.hid (by rw [← HV.out]; exact pre_long l _ (by rw [HU.out]; omega))
    go_enter Tryd.func41, Tryd.ntmps41
    go_wp2
    go_ret
    exact ⟨by rw [HE.out]; rfl, 0, rfl⟩
end Go.Proofs.YtekjejbcdnghjaaDoor
