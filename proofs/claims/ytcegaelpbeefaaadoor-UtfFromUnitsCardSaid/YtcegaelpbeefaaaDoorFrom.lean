/-
  Contracts of FromUnits, the program's and the document's, and of the program's 'character'. No condition but that there are at most a million units.
-/
import Derived.Test.YtcegaelpbeefaaaDoorRefDecode
import Derived.Test.YtcegaelpbeefaaaDoorUnits
set_option linter.unusedVariables false
set_option linter.unusedSimpArgs false
namespace Go.Proofs.YtcegaelpbeefaaaDoor
open Go.ChangeShapes Go.WideShapes Go.ChangeAt Go.RowKit

def UnitZ (s : List Int) : Prop := ∀ z ∈ s, 0 ≤ z ∧ z ≤ 65535
theorem UnitZ.get {s : List Int} (h : UnitZ s) (j : Nat) : 0 ≤ s.getD j 0 ∧ s.getD j 0 ≤ 65535 := by
  rw [List.getD_eq_getElem?_getD]
  by_cases hj : j < s.length
  · rw [List.getElem?_eq_getElem hj]; exact h _ (List.getElem_mem hj)
  · rw [List.getElem?_eq_none (by omega)]; simp
theorem UnitZ.drop {s : List Int} (h : UnitZ s) (k : Nat) : UnitZ (s.drop k) := fun z hz => h z (List.mem_of_mem_drop hz)

set_option maxHeartbeats 1000000 in
/-- the program's 'character' -/
theorem character_ok (A : Option Addr) (c : Nat) (u : List Int) (w : World) (hn : u.length ≤ 1000000000) (hz : UnitZ u) (hne : u ≠ []) (h : Has w w.heap.size A (u.map (Value.int .u16))) :
    Calls Tryd.prog 38 #[.slice A u.length c] w fun e w' => e = .returned (.tuple #[.int .i32 (charP u).1, .int .i64 (charP u).2]) ∧ w = w' := by
  obtain ⟨b, off, rfl, hb, hcc⟩ := h.getD_cell hne
  have hl : 1 ≤ u.length := by cases u with | nil => exact absurd rfl hne | cons a l => simp
  have c0 := hcc 0 (by omega)
  rw [Nat.add_zero] at c0
  have ga := hz.get 0
  have gb := hz.get 1
  obtain ⟨X, hX⟩ : ∃ X, u.getD 0 0 = X := ⟨_, rfl⟩
  obtain ⟨Y, hY⟩ : ∃ Y, u.getD 1 0 = Y := ⟨_, rfl⟩
  have c1 : 1 < u.length → w.cell? ⟨b, off + 1, none⟩ = some (.int .u16 Y) := fun h => by rw [← hY]; exact hcc 1 h
  unfold charP
  rw [hX, hY]
  rw [hX] at c0 ga
  rw [hY] at gb
  have chX := fun w => high_ok X w
  have clX := fun w => low_ok X w
  have clY := fun w => low_ok Y w
  clear h hcc hX hY hz hne
  obtain ⟨n, hnn⟩ : ∃ n, u.length = n := ⟨_, rfl⟩
  rw [hnn] at hn hl c1 ⊢
  clear hnn
  by_cases q1 : highP X
  · have q2 : ¬ lowP X := by unfold highP at q1; unfold lowP; omega
    have hr : 55296 ≤ X ∧ X ≤ 56319 := q1
    by_cases q3 : n = 1
    · have e : charN n X Y = (0, 0) := by unfold charN; rw [if_neg (fun h => h.1 q1), if_pos (Or.inr (Or.inl q3))]
      rw [e]
      simp only [q1, q2, decide_true, decide_false] at chX clX
      subst q3
      clear e q1 q2 clY
      go_enter Tryd.func38, Tryd.ntmps38
      go_wp2_with (first
        | (go_at_call 39; refine (chX _).mono ?_; rintro e w' ⟨rfl, rfl⟩)
        | (go_at_call 45; refine (clX _).mono ?_; rintro e w' ⟨rfl, rfl⟩))
      go_ret2
      exact ⟨rfl, rfl⟩
    · have c1' := c1 (by omega)
      have q3' : ¬ (n : Int) = 1 := by omega
      have q3b : ((n : Int) == 1) = false := by simpa using q3'
      by_cases q4 : lowP Y
      · have e : charN n X Y = (65536 + (X - 55296) * 1024 + (Y - 56320), 2) := by unfold charN; rw [if_neg (fun h => h.1 q1), if_neg (by rintro (h | h | h); exact q2 h; exact q3 h; exact h q4)]
        have hy : 56320 ≤ Y ∧ Y ≤ 57343 := q4
        rw [e]
        simp only [q1, q2, q4, decide_true, decide_false] at chX clX clY
        clear e q1 q2 q4 c1
        go_enter Tryd.func38, Tryd.ntmps38
        go_wp2_with (first
          | (go_at_call 39; refine (chX _).mono ?_; rintro e w' ⟨rfl, rfl⟩)
          | (go_at_call 45; with_reducible refine (clX _).mono ?_; rintro e w' ⟨rfl, rfl⟩)
          | (go_at_call 45; refine (clY _).mono ?_; rintro e w' ⟨rfl, rfl⟩))
        go_ret2
        exact ⟨rfl, rfl⟩
      · have e : charN n X Y = (0, 0) := by unfold charN; rw [if_neg (fun h => h.1 q1), if_pos (Or.inr (Or.inr q4))]
        rw [e]
        simp only [q1, q2, q4, decide_true, decide_false] at chX clX clY
        clear e q1 q2 q4 c1
        go_enter Tryd.func38, Tryd.ntmps38
        go_wp2_with (first
          | (go_at_call 39; refine (chX _).mono ?_; rintro e w' ⟨rfl, rfl⟩)
          | (go_at_call 45; with_reducible refine (clX _).mono ?_; rintro e w' ⟨rfl, rfl⟩)
          | (go_at_call 45; refine (clY _).mono ?_; rintro e w' ⟨rfl, rfl⟩))
        go_ret2
        exact ⟨rfl, rfl⟩
  · by_cases q2 : lowP X
    · have e : charN n X Y = (0, 0) := by unfold charN; rw [if_neg (fun h => h.2 q2), if_pos (Or.inl q2)]
      rw [e]
      simp only [q1, q2, decide_true, decide_false] at chX clX
      clear e q1 q2 clY
      go_enter Tryd.func38, Tryd.ntmps38
      go_wp2_with (first
        | (go_at_call 39; refine (chX _).mono ?_; rintro e w' ⟨rfl, rfl⟩)
        | (go_at_call 45; refine (clX _).mono ?_; rintro e w' ⟨rfl, rfl⟩))
      go_ret2
      exact ⟨rfl, rfl⟩
    · have e : charN n X Y = (X, 1) := by unfold charN; rw [if_pos ⟨q1, q2⟩]
      rw [e]
      simp only [q1, q2, decide_true, decide_false] at chX clX
      clear e q1 q2 clY
      go_enter Tryd.func38, Tryd.ntmps38
      go_wp2_with (first
        | (go_at_call 39; refine (chX _).mono ?_; rintro e w' ⟨rfl, rfl⟩)
        | (go_at_call 45; refine (clX _).mono ?_; rintro e w' ⟨rfl, rfl⟩))
      go_ret2
      exact ⟨rfl, rfl⟩

theorem fromG_end (k : Nat) (u t : List Int) : fromG (k + 1) u u.length t = (t, u.length, 0) := by
  rw [fromG, if_neg (by omega)]
theorem charP_drop (u : List Int) (p : Nat) (hp : p < u.length) : charP (u.drop p) = charN (u.length - p) (u.getD p 0) (u.getD (p + 1) 0) := by
  unfold charP
  rw [List.length_drop, getD_drop, getD_drop]
  rfl
theorem from_one (k : Nat) (u : List Int) (p : Nat) (t : List Int) (hp : p < u.length) (h1 : ¬ highP (u.getD p 0)) (h2 : ¬ lowP (u.getD p 0)) :
    charP (u.drop p) = (u.getD p 0, 1) ∧ fromG (k + 1) u p t = fromG k u (p + 1) (t ++ [u.getD p 0]) := by
  have e : charP (u.drop p) = (u.getD p 0, 1) := by rw [charP_drop u p hp]; unfold charN; rw [if_pos ⟨h1, h2⟩]
  refine ⟨e, ?_⟩
  rw [fromG, if_pos hp, e, if_neg (by simp)]
theorem from_low (k : Nat) (u : List Int) (p : Nat) (t : List Int) (hp : p < u.length) (h2 : lowP (u.getD p 0)) :
    charP (u.drop p) = (0, 0) ∧ fromG (k + 1) u p t = ([], p, 3) := by
  have e : charP (u.drop p) = (0, 0) := by rw [charP_drop u p hp]; unfold charN; rw [if_neg (fun h => h.2 h2), if_pos (Or.inl h2)]
  refine ⟨e, ?_⟩
  have h1 : ¬ highP (u.getD p 0) := by unfold lowP at h2; unfold highP; omega
  rw [fromG, if_pos hp, e, if_pos rfl, getD_drop, if_neg (fun h => h1 h.2)]
theorem from_last (k : Nat) (u : List Int) (p : Nat) (t : List Int) (hp : p + 1 = u.length) (h1 : highP (u.getD p 0)) :
    charP (u.drop p) = (0, 0) ∧ fromG (k + 1) u p t = ([], p, 4) := by
  have e : charP (u.drop p) = (0, 0) := by rw [charP_drop u p (by omega)]; unfold charN; rw [if_neg (fun h => h.1 h1), if_pos (Or.inr (Or.inl (by omega)))]
  refine ⟨e, ?_⟩
  rw [fromG, if_pos (by omega), e, if_pos rfl, getD_drop, List.length_drop, if_pos ⟨by omega, h1⟩]
theorem from_alone (k : Nat) (u : List Int) (p : Nat) (t : List Int) (hp : p + 1 < u.length) (h1 : highP (u.getD p 0)) (h3 : ¬ lowP (u.getD (p + 1) 0)) :
    charP (u.drop p) = (0, 0) ∧ fromG (k + 1) u p t = ([], p, 3) := by
  have e : charP (u.drop p) = (0, 0) := by rw [charP_drop u p (by omega)]; unfold charN; rw [if_neg (fun h => h.1 h1), if_pos (Or.inr (Or.inr h3))]
  refine ⟨e, ?_⟩
  rw [fromG, if_pos (by omega), e, if_pos rfl, List.length_drop, if_neg (fun h => by omega)]
theorem from_pair (k : Nat) (u : List Int) (p : Nat) (t : List Int) (hp : p + 1 < u.length) (h1 : highP (u.getD p 0)) (h3 : lowP (u.getD (p + 1) 0)) :
    charP (u.drop p) = (65536 + (u.getD p 0 - 55296) * 1024 + (u.getD (p + 1) 0 - 56320), 2) ∧ fromG (k + 1) u p t = fromG k u (p + 2) (t ++ [65536 + (u.getD p 0 - 55296) * 1024 + (u.getD (p + 1) 0 - 56320)]) := by
  have h2 : ¬ lowP (u.getD p 0) := by unfold highP at h1; unfold lowP; omega
  have e : charP (u.drop p) = (65536 + (u.getD p 0 - 55296) * 1024 + (u.getD (p + 1) 0 - 56320), 2) := by
    rw [charP_drop u p (by omega)]; unfold charN; rw [if_neg (fun h => h.1 h1), if_neg (by rintro (h | h | h); exact h2 h; omega; exact h h3)]
  refine ⟨e, ?_⟩
  rw [fromG, if_pos (by omega), e, if_neg (by simp)]
end Go.Proofs.YtcegaelpbeefaaaDoor
