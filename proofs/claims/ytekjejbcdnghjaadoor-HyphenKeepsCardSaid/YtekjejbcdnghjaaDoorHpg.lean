/-
  The program's Points, of a trie and of none. Condition: a word of at most a million letters.
-/
import Derived.Test.YtekjejbcdnghjaaDoorHpf
set_option linter.unusedVariables false
set_option linter.unusedSimpArgs false
namespace Go.Proofs.YtekjejbcdnghjaaDoor
open Go.ChangeShapes Go.WideShapes Go.ChangeAt Go.RowKit Go.Sort

set_option maxRecDepth 20000 in
set_option maxHeartbeats 8000000 in
theorem ppoints_ok (v : Value) (acc : List Pat) (B : Option Addr) (c : Nat) (wd : List Int) (w : World) (ha : acc.length ≤ 1000) (hok0 : ∀ p ∈ acc, OkP p.1 p.2) (hw : wd.length ≤ 1000000) (hc : wd.length ≤ c) (hwf : ∀ z ∈ wd, (Lit.int .i32 z).wf = true) (hT : TrieV w v acc) (h : Has w w.heap.size B (wd.map (Value.int .i32))) :
    Calls Tryd.prog 19 #[v, .slice B wd.length c] w fun e w' => ∃ r, SliceOf .i64 w w' e r ∧ PointsS acc wd r := by
  obtain ⟨R, B0, n, P, M, V, rfl, hTP, hok⟩ := hT
  by_cases h64 : 64 < wd.length
  · have e : (wd.length : Int) > 64 := by omega
    clear hTP hok
    go_enter Tryd.func19, Tryd.ntmps19
    go_wp2
    go_ret
    refine ⟨[], ⟨_, rfl, sliceV_nil _ _ _ (Below.refl _ _)⟩, ?_⟩
    unfold PointsS
    rw [if_pos h64]
  have e64 : ¬ (wd.length : Int) > 64 := by omega
  have cw := weights_ok _ B0 n R P M V acc B c wd w hTP hok (by omega) hwf h
  clear hTP hok hok0 hwf h
  go_enter Tryd.func19, Tryd.ntmps19
  go_wp2_with (go_at_call 39; refine cw.mono ?_; rintro e wr ⟨G, m, W6, b, rfl, hm, hBS, hbest⟩; clear cw)
  have HMM := Lib.hid hm
  have hmw : wd.length + 3 ≤ m := by omega
  have HPT : Hid (PointsS acc wd (pts wd.length b)) := Lib.hid (by
    unfold PointsS
    rw [if_neg h64]
    exact ⟨b, by rw [hBS.len, hm], hbest, rfl⟩)
  have HCE := Lib.hid (fun (W : World) (hb : Below wr.heap.size wr W) (i : Nat) (hi : i < m) => by
    obtain ⟨_, h2, h3, _, _⟩ := hBS.own.spotG (i := i) (by rw [hBS.len]; exact hi)
    exact (hb.cell (p := ⟨G, i, none⟩) h2).trans h3)
  have HN0 : Hid (∀ i, 0 ≤ b.getD i 0) := Lib.hid (fun i => by
    by_cases e : i < b.length
    · have := (hbest i _ (List.getElem?_eq_getElem e)).1
      simp only [List.getD, List.getElem?_eq_getElem e, Option.getD_some]; exact this
    · simp only [List.getD, List.getElem?_eq_none (show b.length ≤ i by omega), Option.getD_none]; omega)
  have HBL := Lib.hid hBS.bel
  clear hbest hBS hm
  go_loopw [5, 7] (fun v ii w8 => ∃ i : Nat, 2 ≤ i ∧ (i = 2 ∨ i + 2 ≤ wd.length) ∧ ii = .int .i64 i ∧ Mine .i64 3 w8 wr.heap.size v (ptsN b i) ∧ Below wr.heap.size wr w8) (fun _ ii _ => wd.length - (intOf ii).toNat)
  case atStart => exact ⟨2, by omega, by omega, rfl, by rw [ptsN_two]; exact Mine.nil_ _ _ _ _, Below.refl _ _⟩
  case round =>
    obtain ⟨i, hi2, hin, rfl, hM, hbl⟩ := hrel
    have hB := hbl.size
    have HBW := Lib.hid (below_trans HBL.out hbl HBL.out.size)
    have hpl : (ptsN b i).length ≤ i := by
      unfold ptsN
      rw [List.length_map]
      have := List.length_filter_le (fun i => decide (2 ≤ i) && decide (b.getD (i + 1) 0 % 2 = 1)) (List.range i)
      rwa [List.length_range] at this
    by_cases hle : i + 3 ≤ wd.length
    · have hle' : (i : Int) ≤ (wd.length : Int) - 3 := by omega
      have hcx := HCE.out _ hbl (1 + i) (by omega)
      rw [Nat.add_comm 1 i] at hcx
      have hcy : ∀ W : World, W.cell? ⟨G, i + 1, none⟩ = some (.int .i64 (b.getD (i + 1) 0)) → W.cell? ⟨G, 1 + i, none⟩ = some (.int .i64 (b.getD (i + 1) 0)) := fun W h => by rw [Nat.add_comm 1 i]; exact h
      replace hcx := hcy _ hcx
      clear hcy
      have hx9 := HN0.out (i + 1)
      have HPS := ptsN_succ b hi2
      obtain ⟨X, hX⟩ : ∃ X, b.getD (i + 1) 0 = X := ⟨_, rfl⟩
      rw [hX] at hcx hx9 HPS
      have HPS := Lib.hid HPS
      have htm : X.tmod 2 = X % 2 := Int.tmod_eq_emod_of_nonneg hx9
      obtain ⟨R, hR⟩ : ∃ R, X % 2 = R := ⟨_, rfl⟩
      rw [hR] at htm HPS
      have hR2 : 0 ≤ R ∧ R ≤ 1 := by omega
      clear hX hR
      by_cases hr1 : R = 1
      · subst hr1
        rw [if_pos rfl] at HPS
        go_wp2_with (at_builtin; refine wpList_push rfl _ _ 23 rfl Tryd.underlying23 infoI64 (by omega) _ _ _ (i : Int) _ _ hM rfl rfl hbl hB (by omega) ?_; intro v' w9 hM9 hb9)
        go_roundw
        case rel => exact ⟨i + 1, by omega, by omega, by go_num, by rw [HPS.out]; exact hM9, hb9⟩
        case measure => simp [intOf]; omega
      · have hr0 : R = 0 := by omega
        subst hr0
        rw [if_neg (by decide), List.append_nil] at HPS
        go_wp2
        go_roundw
        case rel => exact ⟨i + 1, by omega, by omega, by go_num, by rw [HPS.out]; exact hM, hbl⟩
        case measure => simp [intOf]; omega
    · have hle' : ¬ (i : Int) ≤ (wd.length : Int) - 3 := by omega
      have HE : Hid (ptsN b i = pts wd.length b) := Lib.hid (by
        rw [pts_is]
        rcases hin with rfl | h2
        · rw [ptsN_two, ptsN_small b (by omega)]
        · rw [show wd.length - 2 = i by omega])
      go_wp2
      go_ret
      refine ⟨_, ⟨_, rfl, ?_⟩, HPT.out⟩
      rw [← HE.out]
      exact hM.give HBL.out hbl
end Go.Proofs.YtekjejbcdnghjaaDoor
