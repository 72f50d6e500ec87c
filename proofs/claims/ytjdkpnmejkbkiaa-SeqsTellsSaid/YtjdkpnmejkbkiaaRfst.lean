/-
  Contract of the document's First: the first strong class of a range, by the matches. Condition: at most 1000 classes.
-/
import Derived.Test.YtjdkpnmejkbkiaaRmch
set_option linter.unusedVariables false
set_option linter.unusedSimpArgs false
namespace Go.Proofs.Ytjdkpnmejkbkiaa
open Go.ChangeShapes Go.WideShapes Go.ChangeAt Go.RowKit

set_option maxRecDepth 20000 in
set_option maxHeartbeats 4000000 in
theorem rfirst_ok (A : Option Addr) (n c : Nat) (cs : List Int) (a b : Int) (w : World) (hn : n = cs.length) (hc : n ≤ c) (hmax : n ≤ 1000) (h : Has w w.heap.size A (cs.map (Value.int .i64))) :
    Calls Try.prog 43 #[.slice A n c, .int .i64 a, .int .i64 b] w fun e w' => e = .returned (.int .i64 (firstV cs a b)) ∧ Below w.heap.size w w' := by
  obtain ⟨F, hF⟩ : ∃ F : Nat, max a 0 = (F : Int) := ⟨(max a 0).toNat, by omega⟩
  obtain ⟨T, hT⟩ : ∃ T : Int, min b (n : Int) = T := ⟨_, rfl⟩
  have hTn : T ≤ n := by omega
  have hV := firstV_eq cs a b
  rw [← hn, hF, hT] at hV
  obtain ⟨R, hR⟩ : ∃ R, firstV cs a b = R := ⟨_, rfl⟩
  rw [hR] at hV ⊢
  have HF := Lib.hid hF
  have HT := Lib.hid hT
  clear hF hT hR
  by_cases hft : T ≤ F
  · have HV : Hid (R = 0) := Lib.hid (by rw [hV, List.drop_of_length_le (by rw [List.length_take]; omega)]; rfl)
    clear hn h hV hc
    go_enter Try.func43, Try.ntmps43
    go_wp2_with (first
      | (refine wpList_max rfl _ _ _ rfl a 0 rfl rfl (F : Int) HF.out ?_)
      | (refine wpList_min rfl _ _ _ rfl b n rfl rfl T HT.out ?_))
    go_ret
    exact ⟨by rw [HV.out]; rfl, Below.refl _ _⟩
  obtain ⟨N, rfl⟩ : ∃ N : Nat, T = (F : Int) + (N : Int) := ⟨(T - F).toNat, by omega⟩
  have hN0 : 0 < N := by omega
  have htn : F + N ≤ n := by omega
  have htc : F + N ≤ c := by omega
  obtain ⟨L, hL⟩ : ∃ L, (cs.take (F + N)).drop F = L := ⟨_, rfl⟩
  have hLn : L.length = N := by rw [← hL, List.length_drop, List.length_take]; omega
  obtain ⟨b1, o1, rfl, hb1, hb1'⟩ := h.at_int (k := 0) (by omega)
  have hh : Has w w.heap.size (some ⟨b1, o1 + F, none⟩) (L.map (Value.int .i64)) := by
    have h1 := (h.front (F + N)).drop F
    rw [← List.map_take, ← List.map_drop, hL] at h1
    exact h1
  have HV : Hid (R = fst0 0 (L.drop 0)) := Lib.hid (by rw [hV, show ((F : Int) + (N : Int)).toNat = F + N by omega, Int.toNat_natCast, hL]; rfl)
  have HLN := Lib.hid hLn
  have HM := Lib.hid (rmatch_ok (some ⟨b1, o1 + F, none⟩) N (c - F) L w hLn.symm (by omega) hh)
  have hFc : F ≤ c := by omega
  have q1 : (0 : Int) ≤ (F : Int) := by omega
  have q2 : (F : Int) ≤ (F : Int) + (N : Int) := by omega
  have q3 : (F : Int) + (N : Int) ≤ (c : Int) := by omega
  have q4 : decide ((F : Int) + (N : Int) ≤ (F : Int)) = false := decide_eq_false (by omega)
  clear hn h hV hL hLn hft hc hTn hb1'
  go_enter Try.func43, Try.ntmps43
  go_wp2_with (first
    | (refine wpList_max rfl _ _ _ rfl a 0 rfl rfl (F : Int) HF.out ?_)
    | (refine wpList_min rfl _ _ _ rfl b n rfl rfl ((F : Int) + (N : Int)) HT.out ?_)
    | (go_at_call 18; (with_reducible refine HM.out.mono ?_); rintro e u ⟨M, rfl, hM, hbu⟩))
  have hgL := (hh.below hbu).more hbu.size
  obtain ⟨A3, c3, rfl, hc3, _, hgM⟩ := hM.size
  have hML : (matL L).length = N := by rw [mat_len, HLN.out]
  rw [hML] at hc3 ⊢
  have HML := Lib.hid hML
  clear hM hML hh HM HF HT
  go_loopw [9] (fun v9 wr => ∃ x : Nat, x ≤ N ∧ v9 = .int .i64 x ∧ Hid (R = fst0 0 (L.drop x)) ∧ u = wr) (fun v9 _ => N - (intOf v9).toNat)
  case atStart => exact ⟨0, by omega, rfl, HV, rfl⟩
  case round =>
    clear HV
    obtain ⟨x, hxN, rfl, HR, rfl⟩ := hrel
    have HBU := Lib.hid hbu
    clear hbu
    by_cases hlt : x < N
    · have hxL : x < L.length := by have := HLN.out; omega
      have hxM : x < (matL L).length := by have := HML.out; omega
      obtain ⟨b2, o2, hA, hb2, hcX⟩ := hgL.at_int hxL
      injection hA with hA
      injection hA with e1 e2
      subst e1; subst e2
      obtain ⟨b3, o3, rfl, hb3, hcM⟩ := hgM.at_int hxM
      have hgX : L.getD x 0 = L[x] := by rw [List.getD_eq_getElem?_getD, List.getElem?_eq_getElem hxL]; rfl
      have hgY : (matL L).getD x 0 = (matL L)[x] := by rw [List.getD_eq_getElem?_getD, List.getElem?_eq_getElem hxM]; rfl
      have f1 := fst_strong (cs := L) x hxL
      have f2 := fst_b (cs := L) x hxL
      have f3 := fst_open_none (cs := L) x hxL
      have f4 := fun k => fst_open_some (cs := L) x k hxL
      have f5 := fst_skip (cs := L) x hxL
      have f6 := (inv_mat L L.length).vals x hxL
      rw [hgX] at f1 f2 f3 f4 f5
      rw [hgY] at f3 f4
      have f7 : (matL L)[x] = -1 ∨ ∃ k : Nat, (matL L)[x] = (k : Int) := by
        rw [← hgY]
        rcases f6 with h | ⟨k, h, _⟩
        · exact .inl h
        · exact .inr ⟨k, h⟩
      rw [← HR.out] at f1 f2 f3 f4 f5
      generalize L[x] = X at *
      generalize (matL L)[x] = Y at *
      have HOP := Lib.hid (fun W => opens_ok X W)
      clear hgX hgY f6 hxL hxM hgL hgM HR
      by_cases hs : strC X = true
      · have HR2 := Lib.hid (f1 hs)
        clear f1 f2 f3 f4 f5 f7 hcM
        unfold strC at hs
        simp only [Bool.or_eq_true, beq_iff_eq] at hs
        rcases hs with (rfl | rfl) | rfl
        all_goals
          go_wp2
          go_ret
          exact ⟨by rw [HR2.out]; rfl, HBU.out⟩
      · have hs2 : strC X = false := by simpa using hs
        have hs3 := hs2
        unfold strC at hs3
        simp only [Bool.or_eq_false_iff] at hs3
        obtain ⟨⟨s1', s2'⟩, s3'⟩ := hs3
        by_cases hB : X = 11
        · subst hB
          have HR2 := Lib.hid (f2 rfl)
          clear f1 f2 f3 f4 f5 f7 hcM hs hs2 s1' s2' s3'
          go_wp2
          go_ret
          exact ⟨by rw [HR2.out]; rfl, HBU.out⟩
        · have pB : (X == 11) = false := by simpa using hB
          cases ho : opnC X with
          | true =>
            rw [ho] at HOP
            rcases f7 with rfl | ⟨k, rfl⟩
            · have HR2 := Lib.hid (f3 ho rfl)
              clear f1 f2 f3 f4 f5 hs hs2 ho hB
              go_wp2_with (go_at_call 39; (with_reducible refine (HOP.out _).mono ?_); rintro e w0 ⟨rfl, rfl⟩)
              go_ret
              exact ⟨by rw [HR2.out]; rfl, HBU.out⟩
            · obtain ⟨k1, k2, k3⟩ := f4 k ho rfl
              have HR2 := Lib.hid k3
              rw [HLN.out] at k2
              have hk0 : ((k : Int) == -1) = false := by simp
              clear f1 f2 f3 f4 f5 hs hs2 ho hB k3
              go_wp2_with (go_at_call 39; (with_reducible refine (HOP.out _).mono ?_); rintro e w0 ⟨rfl, rfl⟩)
              go_roundw
              case rel => exact ⟨k + 1, by omega, by go_num, HR2, trivial⟩
              case measure => simp [intOf] <;> omega
          | false =>
            rw [ho] at HOP
            have HR2 := Lib.hid (f5 hs2 hB ho)
            clear f1 f2 f3 f4 f5 f7 hs hs2 ho hB
            go_wp2_with (go_at_call 39; (with_reducible refine (HOP.out _).mono ?_); rintro e w0 ⟨rfl, rfl⟩)
            go_roundw
            case rel => exact ⟨x + 1, by omega, by go_num, HR2, trivial⟩
            case measure => simp [intOf] <;> omega
    · have HR3 : Hid (R = 0) := Lib.hid (by rw [HR.out, List.drop_of_length_le (by rw [HLN.out]; omega)]; rfl)
      clear HR
      go_wp2
      go_ret
      exact ⟨by rw [HR3.out]; rfl, HBU.out⟩
end Go.Proofs.Ytjdkpnmejkbkiaa
