/-
  Contracts of the document's of12 to of14: the first of its rows that holds r, and whether there is one. No condition.
-/
import Derived.Test.YtnpcakeagpbgiaaGreatBase
set_option linter.unusedVariables false
namespace Go.Proofs.YtnpcakeagpbgiaaGreat
open Go.ChangeShapes Go.WideShapes Go.ChangeAt Go.RowKit Go.Sort

set_option maxRecDepth 100000 in
set_option maxHeartbeats 8000000 in
theorem of12_ok (r : Int) (w : World) : Calls Tryz.prog 140 #[.int .i32 r] w fun e w' => e = .returned (fndV (findR R12 r)) ∧ Up w w' := by
  obtain ⟨X, hX⟩ : ∃ X, fndV (findR R12 r) = X := ⟨_, rfl⟩
  rw [hX]
  have HX := Lib.hid hX
  clear hX
  go_enter Tryz.func140, Tryz.ntmps140
  go_wp2_with (first | (go_at_call 143; refine (row_ok _ _ _ _ _ _ _ _ _ _).mono ?_; rintro e w' ⟨rfl, hu⟩; simp only [Pr.v]) | (go_at_call 113; refine (rest_ok _).mono ?_; rintro e w' ⟨rfl, hu⟩; simp only [Pr.v, Pr.rest]) | (refine wpList_store_at rfl 91 _ _ rfl w.heap.size _ rfl rfl 91 _ (At.up (at_new _ _ _) (by assumption)) (by exact Tryz.info91) (by rfl) (by simp [Value.oneCell']) w (Up.trans ((Up.refl _).alloc _) (by assumption)) (Nat.le_refl _) ?_; intro w1 hat hk hs hu1))
  all_goals
    refine bodyPost_ret (results_cell_tmp_at Tryz.results140 _ _ w.heap.size 91 _ _ (by rfl) (by assumption) Tryz.underlying91 rfl (by exact Tryz.info91) _ (by rfl)) rfl ⟨?_, by assumption⟩
    rw [← HX.out, R12]
    repeat (first | rw [findR_yes _ _ _ (by dsimp only; omega)] | rw [findR_no _ _ _ (by dsimp only; omega)])
    rfl

set_option maxRecDepth 100000 in
set_option maxHeartbeats 8000000 in
theorem of13_ok (r : Int) (w : World) : Calls Tryz.prog 141 #[.int .i32 r] w fun e w' => e = .returned (fndV (findR R13 r)) ∧ Up w w' := by
  obtain ⟨X, hX⟩ : ∃ X, fndV (findR R13 r) = X := ⟨_, rfl⟩
  rw [hX]
  have HX := Lib.hid hX
  clear hX
  go_enter Tryz.func141, Tryz.ntmps141
  go_wp2_with (first | (go_at_call 143; refine (row_ok _ _ _ _ _ _ _ _ _ _).mono ?_; rintro e w' ⟨rfl, hu⟩; simp only [Pr.v]) | (go_at_call 113; refine (rest_ok _).mono ?_; rintro e w' ⟨rfl, hu⟩; simp only [Pr.v, Pr.rest]) | (refine wpList_store_at rfl 91 _ _ rfl w.heap.size _ rfl rfl 91 _ (At.up (at_new _ _ _) (by assumption)) (by exact Tryz.info91) (by rfl) (by simp [Value.oneCell']) w (Up.trans ((Up.refl _).alloc _) (by assumption)) (Nat.le_refl _) ?_; intro w1 hat hk hs hu1))
  all_goals
    refine bodyPost_ret (results_cell_tmp_at Tryz.results141 _ _ w.heap.size 91 _ _ (by rfl) (by assumption) Tryz.underlying91 rfl (by exact Tryz.info91) _ (by rfl)) rfl ⟨?_, by assumption⟩
    rw [← HX.out, R13]
    repeat (first | rw [findR_yes _ _ _ (by dsimp only; omega)] | rw [findR_no _ _ _ (by dsimp only; omega)])
    rfl

set_option maxRecDepth 100000 in
set_option maxHeartbeats 8000000 in
theorem of14_ok (r : Int) (w : World) : Calls Tryz.prog 142 #[.int .i32 r] w fun e w' => e = .returned (fndV (findR R14 r)) ∧ Up w w' := by
  obtain ⟨X, hX⟩ : ∃ X, fndV (findR R14 r) = X := ⟨_, rfl⟩
  rw [hX]
  have HX := Lib.hid hX
  clear hX
  go_enter Tryz.func142, Tryz.ntmps142
  go_wp2_with (first | (go_at_call 143; refine (row_ok _ _ _ _ _ _ _ _ _ _).mono ?_; rintro e w' ⟨rfl, hu⟩; simp only [Pr.v]) | (go_at_call 113; refine (rest_ok _).mono ?_; rintro e w' ⟨rfl, hu⟩; simp only [Pr.v, Pr.rest]) | (refine wpList_store_at rfl 91 _ _ rfl w.heap.size _ rfl rfl 91 _ (At.up (at_new _ _ _) (by assumption)) (by exact Tryz.info91) (by rfl) (by simp [Value.oneCell']) w (Up.trans ((Up.refl _).alloc _) (by assumption)) (Nat.le_refl _) ?_; intro w1 hat hk hs hu1))
  all_goals
    refine bodyPost_ret (results_cell_tmp_at Tryz.results142 _ _ w.heap.size 91 _ _ (by rfl) (by assumption) Tryz.underlying91 rfl (by exact Tryz.info91) _ (by rfl)) rfl ⟨?_, by assumption⟩
    rw [← HX.out, R14]
    repeat (first | rw [findR_yes _ _ _ (by dsimp only; omega)] | rw [findR_no _ _ _ (by dsimp only; omega)])
    rfl
end Go.Proofs.YtnpcakeagpbgiaaGreat
