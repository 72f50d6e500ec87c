/-
  Contract: where the isolates of the initiators end (the program's isolateEnds). Condition: at most 1000 classes.
-/
import Derived.Test.YthikjknikdacbaaXsf
set_option linter.unusedVariables false
set_option linter.unusedSimpArgs false
namespace Go.Proofs.Ythikjknikdacbaa
open Go.ChangeShapes Go.WideShapes Go.ChangeAt Go.RowKit Go.Sort

theorem getD_get (l : List Int) (j : Nat) (h : j < l.length) : l.getD j 0 = l[j] := by rw [List.getD_eq_getElem?_getD, List.getElem?_eq_getElem h]; rfl
set_option maxRecDepth 20000 in
set_option maxHeartbeats 4000000 in
theorem ends_ok (A : Option Addr) (n c : Nat) (cs : List Int) (w : World) (hn : n = cs.length) (hmax : n ≤ 1000) (h : Has w w.heap.size A (cs.map (Value.int .i64))) :
    Calls Try.prog 18 #[.slice A n c] w fun e w' => ∃ v L, e = .returned v ∧ Mine .i64 3 w' w.heap.size v L ∧ L.length = n ∧ (∀ j, j < n → L.getD j 0 = endI cs j) ∧ Below w.heap.size w w' := by
  have HM := Lib.hid (match_ok A n c cs w hn hmax h)
  have HV : Hid (∀ j, j < n → ((matL cs).getD j 0 = -1 ∧ endI cs j = n) ∨ (0 ≤ (matL cs).getD j 0 ∧ endI cs j = (matL cs).getD j 0)) := Lib.hid fun j hj => by
    rcases (inv_mat cs cs.length).vals j (by omega) with hv | ⟨k, k1, _⟩
    · have hv' : (matL cs).getD j 0 = -1 := hv
      exact .inl ⟨hv', by unfold endI; rw [hv', if_pos (by decide), hn]⟩
    · have k1' : (matL cs).getD j 0 = k := k1
      exact .inr ⟨by omega, by unfold endI; rw [k1', if_neg (by omega)]⟩
  have HML : Hid ((matL cs).length = n) := Lib.hid (by rw [mat_len, hn])
  clear hn h
  go_enter Try.func18, Try.ntmps18
  go_wp2_with (go_at_call 36; (with_reducible refine HM.out.mono ?_); rintro e u ⟨v, rfl, hM, hb⟩; obtain ⟨A3, c3, rfl, _, _, _⟩ := hM.size; rw [HML.out] at hM ⊢)
  go_loopw [10] (fun v10 wr => ∃ k : Nat, k ≤ n ∧ v10 = .int .i64 k ∧ Hid (∃ L, Mine .i64 3 wr w.heap.size (.slice A3 n c3) L ∧ L.length = n ∧ (∀ j, j < n → L.getD j 0 = if j < k then endI cs j else (matL cs).getD j 0) ∧ Below w.heap.size w wr)) (fun v10 _ => n - (intOf v10).toNat)
  case atStart => exact ⟨0, by omega, rfl, Lib.hid ⟨matL cs, hM, HML.out, fun j _ => by simp, hb⟩⟩
  case round =>
    clear hM hb
    obtain ⟨k, hkn, rfl, HS⟩ := hrel
    obtain ⟨L, hL1, hL2, hL3, hL4⟩ := HS.out
    by_cases hlt : k < n
    · have hkL : k < L.length := by omega
      obtain ⟨g, c', hA, hc', hg1, hg2⟩ := hL1.formB (by omega)
      injection hA with hA1 hA2 hA3
      subst hA1
      subst hA3
      have hcell := hL1.cellAt k hkL
      have hfree := hL1.free k
      have hLk : L[k] = (matL cs).getD k 0 := by rw [← getD_get L k hkL, hL3 k hlt, if_neg (by omega)]
      rw [hLk] at hcell
      rcases HV.out k hlt with ⟨v1, v2⟩ | ⟨v1, v2⟩
      · rw [v1] at hcell
        have HS2 : Hid (∃ L, Mine .i64 3 (wr.setCell ⟨g, k, none⟩ (.int .i64 (n : Int))) w.heap.size (.slice (some ⟨g, 0, none⟩) n c3) L ∧ L.length = n ∧ (∀ j, j < n → L.getD j 0 = if j < k + 1 then endI cs j else (matL cs).getD j 0) ∧ Below w.heap.size w (wr.setCell ⟨g, k, none⟩ (.int .i64 (n : Int)))) := Lib.hid (by
          refine ⟨L.set k (n : Int), hL1.set k hkL _, by rw [List.length_set]; exact hL2, fun j hj => ?_, hL4.setCell hg1 _⟩
          rw [getD_set L k _ j hkL]
          by_cases e : j = k
          · subst e; rw [if_pos rfl, if_pos (by omega), v2]
          · rw [if_neg e, hL3 j hj]
            by_cases e2 : j < k
            · rw [if_pos e2, if_pos (by omega)]
            · rw [if_neg e2, if_neg (by omega)])
        clear HS hL1 hL2 hL3 hL4 hkL hLk v1 v2 hA2
        go_wp2
        go_roundw
        case rel => exact ⟨k + 1, by omega, by go_num, HS2⟩
        case measure => simp [intOf] <;> omega
      · have HS2 : Hid (∃ L, Mine .i64 3 wr w.heap.size (.slice (some ⟨g, 0, none⟩) n c3) L ∧ L.length = n ∧ (∀ j, j < n → L.getD j 0 = if j < k + 1 then endI cs j else (matL cs).getD j 0) ∧ Below w.heap.size w wr) := Lib.hid (by
          refine ⟨L, hL1, hL2, fun j hj => ?_, hL4⟩
          rw [hL3 j hj]
          by_cases e : j = k
          · subst e; rw [if_neg (by omega), if_pos (by omega), v2]
          · by_cases e2 : j < k
            · rw [if_pos e2, if_pos (by omega)]
            · rw [if_neg e2, if_neg (by omega)])
        have hne : ((matL cs).getD k 0 == -1) = false := beq_eq_false_iff_ne.2 (by omega)
        generalize (matL cs).getD k 0 = X at *
        clear HS hL1 hL2 hL3 hL4 hkL hLk v1 v2 hA2
        go_wp2
        go_roundw
        case rel => exact ⟨k + 1, by omega, by go_num, HS2⟩
        case measure => simp [intOf] <;> omega
    · obtain rfl : k = n := by omega
      have HS2 := Lib.hid (⟨L, hL1, hL2, fun j hj => by rw [hL3 j hj, if_pos hj], hL4⟩ : ∃ L, Mine .i64 3 wr w.heap.size (.slice A3 k c3) L ∧ L.length = k ∧ (∀ j, j < k → L.getD j 0 = endI cs j) ∧ Below w.heap.size w wr)
      clear HS hL1 hL2 hL3 hL4
      go_wp2
      go_ret
      obtain ⟨L, a1, a2, a3, a4⟩ := HS2.out
      exact ⟨_, L, rfl, a1, a2, a3, a4⟩
end Go.Proofs.Ythikjknikdacbaa
