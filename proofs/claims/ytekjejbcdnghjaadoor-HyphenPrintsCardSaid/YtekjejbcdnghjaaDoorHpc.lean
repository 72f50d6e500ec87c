/-
  The program's reading of a pattern: its form ('hasForm'). Condition: at most a million letters.
-/
import Derived.Test.YtekjejbcdnghjaaDoorHpb
set_option linter.unusedVariables false
set_option linter.unusedSimpArgs false
namespace Go.Proofs.YtekjejbcdnghjaaDoor
open Go.ChangeShapes Go.WideShapes Go.ChangeAt Go.RowKit Go.Sort

theorem formL_no {m : List Int} {q : Nat} (hq : m.length = q) (h : q = 0 ∨ 16 < q) : formL m = false := by
  unfold formL
  rw [hq]
  rcases h with h | h
  · subst h; simp
  · rw [decide_eq_false (show ¬ q ≤ 16 by omega)]; simp
theorem formL_yes {m : List Int} {q : Nat} (hq : m.length = q) (h0 : 0 < q) (h1 : q ≤ 16) : formL m = !(m.any fun r => decide (r = 46)) := by
  unfold formL
  rw [hq, decide_eq_true h0, decide_eq_true h1]; simp
theorem strip2_same {m : List Int} {q : Nat} (hq : m.length = q + 1) (h : m.getD q 0 ≠ 46) : strip2 m = m := by
  unfold strip2
  rw [if_neg]
  rw [List.getLast?_eq_getElem?, show m.length - 1 = q by omega, List.getElem?_eq_getElem (by omega)]
  intro e
  injection e with e
  apply h
  simp [List.getD, List.getElem?_eq_getElem (show q < m.length by omega), e]
theorem strip2_cut {m : List Int} {q : Nat} (hq : m.length = q + 1) (h : m.getD q 0 = 46) : strip2 m = m.take q := by
  unfold strip2
  rw [if_pos, List.dropLast_eq_take, show m.length - 1 = q by omega]
  rw [List.getLast?_eq_getElem?, show m.length - 1 = q by omega, List.getElem?_eq_getElem (by omega), ← h]
  simp [List.getD, List.getElem?_eq_getElem (show q < m.length by omega)]

set_option maxRecDepth 20000 in
set_option maxHeartbeats 4000000 in
theorem form_nn (b off c q : Nat) (x y : Int) (m3 : List Int) (w : World) (hq : q ≤ 1000000) (hc : q + 1 ≤ c) (h0 : w.cell? ⟨b, off, none⟩ = some (.int .i32 x)) (hx : x ≠ 46) (hl : w.cell? ⟨b, off + q, none⟩ = some (.int .i32 y)) (hy : y ≠ 46) (hm3 : q + 1 = m3.length) (h3 : Has w w.heap.size (some ⟨b, off, none⟩) (m3.map (Value.int .i32))) :
    Calls Tryd.prog 28 #[.slice (some ⟨b, off, none⟩) (q + 1) c] w fun e w' => e = .returned (.bool (formL m3)) ∧ w = w' := by
  have cK := containsR_ok (some ⟨b, off, none⟩) c (q + 1) 46 m3 w hm3 (by omega) h3
  by_cases g : (q + 1) = 0 ∨ 16 < (q + 1)
  · rw [formL_no hm3.symm g]
    clear cK h3 hm3
    rcases g with g | g
    · have g1 : ¬ ((((q + 1) : Nat) : Int) > 0) := by omega
      exfalso; omega
    · have g1 : (((q + 1) : Nat) : Int) > 0 := by omega
      have g2 : ¬ ((((q + 1) : Nat) : Int) ≤ 16) := by omega
      go_enter Tryd.func28, Tryd.ntmps28
      go_wp2
      go_ret
      exact ⟨rfl, rfl⟩
  · rw [formL_yes hm3.symm (by omega) (by omega)]
    have g1 : (((q + 1) : Nat) : Int) > 0 := by omega
    have g2 : (((q + 1) : Nat) : Int) ≤ 16 := by omega
    obtain ⟨K, hK⟩ : ∃ K, (m3.any fun r => decide (r = 46)) = K := ⟨_, rfl⟩
    rw [hK] at cK ⊢
    clear hK h3 g hm3
    go_enter Tryd.func28, Tryd.ntmps28
    go_wp2_with (go_at_call 49; refine cK.mono ?_; rintro e u ⟨rfl, rfl⟩)
    go_ret
    exact ⟨rfl, rfl⟩

set_option maxRecDepth 20000 in
set_option maxHeartbeats 4000000 in
theorem form_nd (b off c q : Nat) (x y : Int) (m3 : List Int) (w : World) (hq : q ≤ 1000000) (hc : q + 1 ≤ c) (h0 : w.cell? ⟨b, off, none⟩ = some (.int .i32 x)) (hx : x ≠ 46) (hl : w.cell? ⟨b, off + q, none⟩ = some (.int .i32 y)) (hy : y = 46) (hm3 : q = m3.length) (h3 : Has w w.heap.size (some ⟨b, off, none⟩) (m3.map (Value.int .i32))) :
    Calls Tryd.prog 28 #[.slice (some ⟨b, off, none⟩) (q + 1) c] w fun e w' => e = .returned (.bool (formL m3)) ∧ w = w' := by
  subst hy
  have hs := fun W => rs_hi (some ⟨b, off, none⟩) (q + 1) c q (q : Int) rfl (by omega) (by omega) W
  have cK := containsR_ok (some ⟨b, off, none⟩) c q 46 m3 w hm3 (by omega) h3
  by_cases g : q = 0 ∨ 16 < q
  · rw [formL_no hm3.symm g]
    clear cK h3 hm3
    rcases g with g | g
    · have g1 : ¬ (((q : Nat) : Int) > 0) := by omega
      clear g
      go_enter Tryd.func28, Tryd.ntmps28
      go_wp2
      go_ret
      exact ⟨rfl, rfl⟩
    · have g1 : ((q : Nat) : Int) > 0 := by omega
      have g2 : ¬ (((q : Nat) : Int) ≤ 16) := by omega
      go_enter Tryd.func28, Tryd.ntmps28
      go_wp2
      go_ret
      exact ⟨rfl, rfl⟩
  · rw [formL_yes hm3.symm (by omega) (by omega)]
    have g1 : ((q : Nat) : Int) > 0 := by omega
    have g2 : ((q : Nat) : Int) ≤ 16 := by omega
    obtain ⟨K, hK⟩ : ∃ K, (m3.any fun r => decide (r = 46)) = K := ⟨_, rfl⟩
    rw [hK] at cK ⊢
    clear hK h3 g hm3
    go_enter Tryd.func28, Tryd.ntmps28
    go_wp2_with (go_at_call 49; refine cK.mono ?_; rintro e u ⟨rfl, rfl⟩)
    go_ret
    exact ⟨rfl, rfl⟩

set_option maxRecDepth 20000 in
set_option maxHeartbeats 4000000 in
theorem form_dn (b off c q : Nat) (b1 off1 c1 : Nat) (y : Int) (m3 : List Int) (w : World) (hq : q ≤ 1000000) (hc : q + 1 ≤ c1) (h0 : w.cell? ⟨b, off, none⟩ = some (.int .i32 46)) (hs1 : ∀ W, (Instr.slice 22 (.slice (some ⟨b, off, none⟩) (q + 1 + 1) c) (some (.int .i64 1)) none none).run Tryd.prog W = .ok (.slice (some ⟨b1, off1, none⟩) (q + 1) c1) W) (hl : w.cell? ⟨b1, off1 + q, none⟩ = some (.int .i32 y)) (hy : y ≠ 46) (hm3 : q + 1 = m3.length) (h3 : Has w w.heap.size (some ⟨b1, off1, none⟩) (m3.map (Value.int .i32))) :
    Calls Tryd.prog 28 #[.slice (some ⟨b, off, none⟩) (q + 1 + 1) c] w fun e w' => e = .returned (.bool (formL m3)) ∧ w = w' := by
  have cK := containsR_ok (some ⟨b1, off1, none⟩) c1 (q + 1) 46 m3 w hm3 (by omega) h3
  by_cases g : (q + 1) = 0 ∨ 16 < (q + 1)
  · rw [formL_no hm3.symm g]
    clear cK h3 hm3
    rcases g with g | g
    · have g1 : ¬ ((((q + 1) : Nat) : Int) > 0) := by omega
      exfalso; omega
    · have g1 : (((q + 1) : Nat) : Int) > 0 := by omega
      have g2 : ¬ ((((q + 1) : Nat) : Int) ≤ 16) := by omega
      go_enter Tryd.func28, Tryd.ntmps28
      go_wp2
      go_ret
      exact ⟨rfl, rfl⟩
  · rw [formL_yes hm3.symm (by omega) (by omega)]
    have g1 : (((q + 1) : Nat) : Int) > 0 := by omega
    have g2 : (((q + 1) : Nat) : Int) ≤ 16 := by omega
    obtain ⟨K, hK⟩ : ∃ K, (m3.any fun r => decide (r = 46)) = K := ⟨_, rfl⟩
    rw [hK] at cK ⊢
    clear hK h3 g hm3
    go_enter Tryd.func28, Tryd.ntmps28
    go_wp2_with (go_at_call 49; refine cK.mono ?_; rintro e u ⟨rfl, rfl⟩)
    go_ret
    exact ⟨rfl, rfl⟩

set_option maxRecDepth 20000 in
set_option maxHeartbeats 4000000 in
theorem form_dd (b off c q : Nat) (b1 off1 c1 : Nat) (y : Int) (m3 : List Int) (w : World) (hq : q ≤ 1000000) (hc : q + 1 ≤ c1) (h0 : w.cell? ⟨b, off, none⟩ = some (.int .i32 46)) (hs1 : ∀ W, (Instr.slice 22 (.slice (some ⟨b, off, none⟩) (q + 1 + 1) c) (some (.int .i64 1)) none none).run Tryd.prog W = .ok (.slice (some ⟨b1, off1, none⟩) (q + 1) c1) W) (hl : w.cell? ⟨b1, off1 + q, none⟩ = some (.int .i32 y)) (hy : y = 46) (hm3 : q = m3.length) (h3 : Has w w.heap.size (some ⟨b1, off1, none⟩) (m3.map (Value.int .i32))) :
    Calls Tryd.prog 28 #[.slice (some ⟨b, off, none⟩) (q + 1 + 1) c] w fun e w' => e = .returned (.bool (formL m3)) ∧ w = w' := by
  subst hy
  have hs := fun W => rs_hi (some ⟨b1, off1, none⟩) (q + 1) c1 q (q : Int) rfl (by omega) (by omega) W
  have cK := containsR_ok (some ⟨b1, off1, none⟩) c1 q 46 m3 w hm3 (by omega) h3
  by_cases g : q = 0 ∨ 16 < q
  · rw [formL_no hm3.symm g]
    clear cK h3 hm3
    rcases g with g | g
    · have g1 : ¬ (((q : Nat) : Int) > 0) := by omega
      clear g
      go_enter Tryd.func28, Tryd.ntmps28
      go_wp2
      go_ret
      exact ⟨rfl, rfl⟩
    · have g1 : ((q : Nat) : Int) > 0 := by omega
      have g2 : ¬ (((q : Nat) : Int) ≤ 16) := by omega
      go_enter Tryd.func28, Tryd.ntmps28
      go_wp2
      go_ret
      exact ⟨rfl, rfl⟩
  · rw [formL_yes hm3.symm (by omega) (by omega)]
    have g1 : ((q : Nat) : Int) > 0 := by omega
    have g2 : ((q : Nat) : Int) ≤ 16 := by omega
    obtain ⟨K, hK⟩ : ∃ K, (m3.any fun r => decide (r = 46)) = K := ⟨_, rfl⟩
    rw [hK] at cK ⊢
    clear hK h3 g hm3
    go_enter Tryd.func28, Tryd.ntmps28
    go_wp2_with (go_at_call 49; refine cK.mono ?_; rintro e u ⟨rfl, rfl⟩)
    go_ret
    exact ⟨rfl, rfl⟩

set_option maxRecDepth 20000 in
set_option maxHeartbeats 4000000 in
theorem form_d (b off c : Nat) (w : World) (hc : 1 ≤ c) (h0 : w.cell? ⟨b, off, none⟩ = some (.int .i32 46)) :
    Calls Tryd.prog 28 #[.slice (some ⟨b, off, none⟩) 1 c] w fun e w' => e = .returned (.bool false) ∧ w = w' := by
  have hs1 := fun W => rs_lo (some ⟨b, off, none⟩) 1 c 1 1 rfl (by omega) W
  obtain ⟨A1, hA1⟩ : ∃ A1, subA (some ⟨b, off, none⟩) c 1 = A1 := ⟨_, rfl⟩
  rw [hA1] at hs1
  simp only [Nat.sub_self] at hs1
  go_enter Tryd.func28, Tryd.ntmps28
  go_wp2
  go_ret
  exact ⟨rfl, rfl⟩
set_option maxRecDepth 20000 in
set_option maxHeartbeats 4000000 in
theorem form_none (A : Option Addr) (c : Nat) (w : World) :
    Calls Tryd.prog 28 #[.slice A 0 c] w fun e w' => e = .returned (.bool false) ∧ w = w' := by
  go_enter Tryd.func28, Tryd.ntmps28
  go_wp2
  go_ret
  exact ⟨rfl, rfl⟩

theorem get_of {m : List Int} {q : Nat} (h : q < m.length) : m[q] = m.getD q 0 := by simp [List.getD, List.getElem?_eq_getElem h]
theorem hform_ok (A : Option Addr) (c : Nat) (l : List Int) (w : World) (hn : l.length ≤ 1000000) (hc : l.length ≤ c) (h : Has w w.heap.size A (l.map (Value.int .i32))) :
    Calls Tryd.prog 28 #[.slice A l.length c] w fun e w' => e = .returned (.bool (mayB l)) ∧ w = w' := by
  rw [form_may]
  rcases hl : l.length with _ | n
  · have e : l = [] := List.eq_nil_of_length_eq_zero hl
    subst e
    exact form_none A c w
  · obtain ⟨b, off, rfl, hb, hc0⟩ := h.at_int (k := 0) (by omega)
    obtain ⟨x, m, rfl⟩ : ∃ x m, l = x :: m := by
      cases l with
      | nil => simp at hl
      | cons x m => exact ⟨x, m, rfl⟩
    have hm : m.length = n := by simpa using hl
    replace hc0 : w.cell? ⟨b, off, none⟩ = some (.int .i32 x) := by simpa using hc0
    simp only [List.length_cons] at hc hn
    by_cases hx : x = 46
    · subst hx
      have e1 : strip1 (46 :: m) = m := by simp [strip1]
      rw [e1]
      rcases n with _ | q
      · have e : m = [] := List.eq_nil_of_length_eq_zero hm
        subst e
        exact form_d b off c w (by omega) hc0
      · have hd := h.sub 1 c (by simpa using hc)
        have hs := fun W => rs_lo (some ⟨b, off, none⟩) (q + 1 + 1) c 1 1 rfl (by omega) W
        rw [show (List.map (Value.int .i32) (46 :: m)).drop 1 = m.map (Value.int .i32) from rfl] at hd
        obtain ⟨b1, off1, hA, hb1, hl1⟩ := hd.at_int (k := q) (by omega)
        rw [hA] at hs hd
        rw [get_of] at hl1
        by_cases hy : m.getD q 0 = 46
        · rw [strip2_cut hm hy]
          exact form_dd b off c q b1 off1 (c - 1) _ (m.take q) w (by omega) (by omega) hc0 hs hl1 hy (by rw [List.length_take]; omega) (by rw [List.map_take]; exact hd.front' q)
        · rw [strip2_same hm hy]
          exact form_dn b off c q b1 off1 (c - 1) _ m w (by omega) (by omega) hc0 hs hl1 hy hm.symm hd
    · have e1 : strip1 (x :: m) = x :: m := by simp [strip1, hx]
      rw [e1]
      obtain ⟨b1, off1, hA, hb1, hl1⟩ := h.at_int (k := n) (by omega)
      injection hA with hA
      injection hA with hA1 hA2
      subst hA1
      subst hA2
      rw [get_of] at hl1
      by_cases hy : (x :: m).getD n 0 = 46
      · rw [strip2_cut hl hy]
        exact form_nd b off c n x _ ((x :: m).take n) w (by omega) (by omega) hc0 hx hl1 hy (by rw [List.length_take]; omega) (by rw [List.map_take]; exact h.front' n)
      · rw [strip2_same hl hy]
        exact form_nn b off c n x _ (x :: m) w (by omega) (by omega) hc0 hx hl1 hy hl.symm h
end Go.Proofs.YtekjejbcdnghjaaDoor
