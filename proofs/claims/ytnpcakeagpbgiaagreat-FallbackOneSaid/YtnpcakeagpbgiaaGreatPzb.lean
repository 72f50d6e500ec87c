/-
  Contracts of the document's of0 to of3: the first of its rows that holds r, and whether there is one. No condition.
-/
import Derived.Test.YtnpcakeagpbgiaaGreatBase
set_option linter.unusedVariables false
namespace Go.Proofs.YtnpcakeagpbgiaaGreat
open Go.ChangeShapes Go.WideShapes Go.ChangeAt Go.RowKit Go.Sort

set_option maxRecDepth 100000 in
set_option maxHeartbeats 8000000 in
theorem of0_ok (r : Int) (w : World) : Calls Tryz.prog 128 #[.int .i32 r] w fun e w' => e = .returned (fndV (findR R0 r)) ∧ Up w w' := by
  obtain ⟨X, hX⟩ : ∃ X, fndV (findR R0 r) = X := ⟨_, rfl⟩
  rw [hX]
  have HX := Lib.hid hX
  clear hX
  go_enter Tryz.func128, Tryz.ntmps128
  go_wp2_with (first | (go_at_call 143; refine (row_ok _ _ _ _ _ _ _ _ _ _).mono ?_; rintro e w' ⟨rfl, hu⟩; simp only [Pr.v]) | (go_at_call 113; refine (rest_ok _).mono ?_; rintro e w' ⟨rfl, hu⟩; simp only [Pr.v, Pr.rest]) | (refine wpList_store_at rfl 91 _ _ rfl w.heap.size _ rfl rfl 91 _ (At.up (at_new _ _ _) (by assumption)) (by exact Tryz.info91) (by rfl) (by simp [Value.oneCell']) w (Up.trans ((Up.refl _).alloc _) (by assumption)) (Nat.le_refl _) ?_; intro w1 hat hk hs hu1))
  all_goals
    refine bodyPost_ret (results_cell_tmp_at Tryz.results128 _ _ w.heap.size 91 _ _ (by rfl) (by assumption) Tryz.underlying91 rfl (by exact Tryz.info91) _ (by rfl)) rfl ⟨?_, by assumption⟩
    rw [← HX.out, R0]
    repeat (first | rw [findR_yes _ _ _ (by dsimp only; omega)] | rw [findR_no _ _ _ (by dsimp only; omega)])
    rfl

set_option maxRecDepth 100000 in
set_option maxHeartbeats 8000000 in
theorem of1_ok (r : Int) (w : World) : Calls Tryz.prog 129 #[.int .i32 r] w fun e w' => e = .returned (fndV (findR R1 r)) ∧ Up w w' := by
  obtain ⟨X, hX⟩ : ∃ X, fndV (findR R1 r) = X := ⟨_, rfl⟩
  rw [hX]
  have HX := Lib.hid hX
  clear hX
  go_enter Tryz.func129, Tryz.ntmps129
  go_wp2_with (first | (go_at_call 143; refine (row_ok _ _ _ _ _ _ _ _ _ _).mono ?_; rintro e w' ⟨rfl, hu⟩; simp only [Pr.v]) | (go_at_call 113; refine (rest_ok _).mono ?_; rintro e w' ⟨rfl, hu⟩; simp only [Pr.v, Pr.rest]) | (refine wpList_store_at rfl 91 _ _ rfl w.heap.size _ rfl rfl 91 _ (At.up (at_new _ _ _) (by assumption)) (by exact Tryz.info91) (by rfl) (by simp [Value.oneCell']) w (Up.trans ((Up.refl _).alloc _) (by assumption)) (Nat.le_refl _) ?_; intro w1 hat hk hs hu1))
  all_goals
    refine bodyPost_ret (results_cell_tmp_at Tryz.results129 _ _ w.heap.size 91 _ _ (by rfl) (by assumption) Tryz.underlying91 rfl (by exact Tryz.info91) _ (by rfl)) rfl ⟨?_, by assumption⟩
    rw [← HX.out, R1]
    repeat (first | rw [findR_yes _ _ _ (by dsimp only; omega)] | rw [findR_no _ _ _ (by dsimp only; omega)])
    rfl

set_option maxRecDepth 100000 in
set_option maxHeartbeats 8000000 in
theorem of2_ok (r : Int) (w : World) : Calls Tryz.prog 130 #[.int .i32 r] w fun e w' => e = .returned (fndV (findR R2 r)) ∧ Up w w' := by
  obtain ⟨X, hX⟩ : ∃ X, fndV (findR R2 r) = X := ⟨_, rfl⟩
  rw [hX]
  have HX := Lib.hid hX
  clear hX
  go_enter Tryz.func130, Tryz.ntmps130
  go_wp2_with (first | (go_at_call 143; refine (row_ok _ _ _ _ _ _ _ _ _ _).mono ?_; rintro e w' ⟨rfl, hu⟩; simp only [Pr.v]) | (go_at_call 113; refine (rest_ok _).mono ?_; rintro e w' ⟨rfl, hu⟩; simp only [Pr.v, Pr.rest]) | (refine wpList_store_at rfl 91 _ _ rfl w.heap.size _ rfl rfl 91 _ (At.up (at_new _ _ _) (by assumption)) (by exact Tryz.info91) (by rfl) (by simp [Value.oneCell']) w (Up.trans ((Up.refl _).alloc _) (by assumption)) (Nat.le_refl _) ?_; intro w1 hat hk hs hu1))
  all_goals
    refine bodyPost_ret (results_cell_tmp_at Tryz.results130 _ _ w.heap.size 91 _ _ (by rfl) (by assumption) Tryz.underlying91 rfl (by exact Tryz.info91) _ (by rfl)) rfl ⟨?_, by assumption⟩
    rw [← HX.out, R2]
    repeat (first | rw [findR_yes _ _ _ (by dsimp only; omega)] | rw [findR_no _ _ _ (by dsimp only; omega)])
    rfl

set_option maxRecDepth 100000 in
set_option maxHeartbeats 8000000 in
theorem of3_ok (r : Int) (w : World) : Calls Tryz.prog 131 #[.int .i32 r] w fun e w' => e = .returned (fndV (findR R3 r)) ∧ Up w w' := by
  obtain ⟨X, hX⟩ : ∃ X, fndV (findR R3 r) = X := ⟨_, rfl⟩
  rw [hX]
  have HX := Lib.hid hX
  clear hX
  go_enter Tryz.func131, Tryz.ntmps131
  go_wp2_with (first | (go_at_call 143; refine (row_ok _ _ _ _ _ _ _ _ _ _).mono ?_; rintro e w' ⟨rfl, hu⟩; simp only [Pr.v]) | (go_at_call 113; refine (rest_ok _).mono ?_; rintro e w' ⟨rfl, hu⟩; simp only [Pr.v, Pr.rest]) | (refine wpList_store_at rfl 91 _ _ rfl w.heap.size _ rfl rfl 91 _ (At.up (at_new _ _ _) (by assumption)) (by exact Tryz.info91) (by rfl) (by simp [Value.oneCell']) w (Up.trans ((Up.refl _).alloc _) (by assumption)) (Nat.le_refl _) ?_; intro w1 hat hk hs hu1))
  all_goals
    refine bodyPost_ret (results_cell_tmp_at Tryz.results131 _ _ w.heap.size 91 _ _ (by rfl) (by assumption) Tryz.underlying91 rfl (by exact Tryz.info91) _ (by rfl)) rfl ⟨?_, by assumption⟩
    rw [← HX.out, R3]
    repeat (first | rw [findR_yes _ _ _ (by dsimp only; omega)] | rw [findR_no _ _ _ (by dsimp only; omega)])
    rfl
end Go.Proofs.YtnpcakeagpbgiaaGreat

/-
  Contracts of the document's of4 to of7: the first of its rows that holds r, and whether there is one. No condition.
-/
set_option linter.unusedVariables false
namespace Go.Proofs.YtnpcakeagpbgiaaGreat
open Go.ChangeShapes Go.WideShapes Go.ChangeAt Go.RowKit Go.Sort

set_option maxRecDepth 100000 in
set_option maxHeartbeats 8000000 in
theorem of4_ok (r : Int) (w : World) : Calls Tryz.prog 132 #[.int .i32 r] w fun e w' => e = .returned (fndV (findR R4 r)) ∧ Up w w' := by
  obtain ⟨X, hX⟩ : ∃ X, fndV (findR R4 r) = X := ⟨_, rfl⟩
  rw [hX]
  have HX := Lib.hid hX
  clear hX
  go_enter Tryz.func132, Tryz.ntmps132
  go_wp2_with (first | (go_at_call 143; refine (row_ok _ _ _ _ _ _ _ _ _ _).mono ?_; rintro e w' ⟨rfl, hu⟩; simp only [Pr.v]) | (go_at_call 113; refine (rest_ok _).mono ?_; rintro e w' ⟨rfl, hu⟩; simp only [Pr.v, Pr.rest]) | (refine wpList_store_at rfl 91 _ _ rfl w.heap.size _ rfl rfl 91 _ (At.up (at_new _ _ _) (by assumption)) (by exact Tryz.info91) (by rfl) (by simp [Value.oneCell']) w (Up.trans ((Up.refl _).alloc _) (by assumption)) (Nat.le_refl _) ?_; intro w1 hat hk hs hu1))
  all_goals
    refine bodyPost_ret (results_cell_tmp_at Tryz.results132 _ _ w.heap.size 91 _ _ (by rfl) (by assumption) Tryz.underlying91 rfl (by exact Tryz.info91) _ (by rfl)) rfl ⟨?_, by assumption⟩
    rw [← HX.out, R4]
    repeat (first | rw [findR_yes _ _ _ (by dsimp only; omega)] | rw [findR_no _ _ _ (by dsimp only; omega)])
    rfl

set_option maxRecDepth 100000 in
set_option maxHeartbeats 8000000 in
theorem of5_ok (r : Int) (w : World) : Calls Tryz.prog 133 #[.int .i32 r] w fun e w' => e = .returned (fndV (findR R5 r)) ∧ Up w w' := by
  obtain ⟨X, hX⟩ : ∃ X, fndV (findR R5 r) = X := ⟨_, rfl⟩
  rw [hX]
  have HX := Lib.hid hX
  clear hX
  go_enter Tryz.func133, Tryz.ntmps133
  go_wp2_with (first | (go_at_call 143; refine (row_ok _ _ _ _ _ _ _ _ _ _).mono ?_; rintro e w' ⟨rfl, hu⟩; simp only [Pr.v]) | (go_at_call 113; refine (rest_ok _).mono ?_; rintro e w' ⟨rfl, hu⟩; simp only [Pr.v, Pr.rest]) | (refine wpList_store_at rfl 91 _ _ rfl w.heap.size _ rfl rfl 91 _ (At.up (at_new _ _ _) (by assumption)) (by exact Tryz.info91) (by rfl) (by simp [Value.oneCell']) w (Up.trans ((Up.refl _).alloc _) (by assumption)) (Nat.le_refl _) ?_; intro w1 hat hk hs hu1))
  all_goals
    refine bodyPost_ret (results_cell_tmp_at Tryz.results133 _ _ w.heap.size 91 _ _ (by rfl) (by assumption) Tryz.underlying91 rfl (by exact Tryz.info91) _ (by rfl)) rfl ⟨?_, by assumption⟩
    rw [← HX.out, R5]
    repeat (first | rw [findR_yes _ _ _ (by dsimp only; omega)] | rw [findR_no _ _ _ (by dsimp only; omega)])
    rfl

set_option maxRecDepth 100000 in
set_option maxHeartbeats 8000000 in
theorem of6_ok (r : Int) (w : World) : Calls Tryz.prog 134 #[.int .i32 r] w fun e w' => e = .returned (fndV (findR R6 r)) ∧ Up w w' := by
  obtain ⟨X, hX⟩ : ∃ X, fndV (findR R6 r) = X := ⟨_, rfl⟩
  rw [hX]
  have HX := Lib.hid hX
  clear hX
  go_enter Tryz.func134, Tryz.ntmps134
  go_wp2_with (first | (go_at_call 143; refine (row_ok _ _ _ _ _ _ _ _ _ _).mono ?_; rintro e w' ⟨rfl, hu⟩; simp only [Pr.v]) | (go_at_call 113; refine (rest_ok _).mono ?_; rintro e w' ⟨rfl, hu⟩; simp only [Pr.v, Pr.rest]) | (refine wpList_store_at rfl 91 _ _ rfl w.heap.size _ rfl rfl 91 _ (At.up (at_new _ _ _) (by assumption)) (by exact Tryz.info91) (by rfl) (by simp [Value.oneCell']) w (Up.trans ((Up.refl _).alloc _) (by assumption)) (Nat.le_refl _) ?_; intro w1 hat hk hs hu1))
  all_goals
    refine bodyPost_ret (results_cell_tmp_at Tryz.results134 _ _ w.heap.size 91 _ _ (by rfl) (by assumption) Tryz.underlying91 rfl (by exact Tryz.info91) _ (by rfl)) rfl ⟨?_, by assumption⟩
    rw [← HX.out, R6]
    repeat (first | rw [findR_yes _ _ _ (by dsimp only; omega)] | rw [findR_no _ _ _ (by dsimp only; omega)])
    rfl

set_option maxRecDepth 100000 in
set_option maxHeartbeats 8000000 in
theorem of7_ok (r : Int) (w : World) : Calls Tryz.prog 135 #[.int .i32 r] w fun e w' => e = .returned (fndV (findR R7 r)) ∧ Up w w' := by
  obtain ⟨X, hX⟩ : ∃ X, fndV (findR R7 r) = X := ⟨_, rfl⟩
  rw [hX]
  have HX := Lib.hid hX
  clear hX
  go_enter Tryz.func135, Tryz.ntmps135
  go_wp2_with (first | (go_at_call 143; refine (row_ok _ _ _ _ _ _ _ _ _ _).mono ?_; rintro e w' ⟨rfl, hu⟩; simp only [Pr.v]) | (go_at_call 113; refine (rest_ok _).mono ?_; rintro e w' ⟨rfl, hu⟩; simp only [Pr.v, Pr.rest]) | (refine wpList_store_at rfl 91 _ _ rfl w.heap.size _ rfl rfl 91 _ (At.up (at_new _ _ _) (by assumption)) (by exact Tryz.info91) (by rfl) (by simp [Value.oneCell']) w (Up.trans ((Up.refl _).alloc _) (by assumption)) (Nat.le_refl _) ?_; intro w1 hat hk hs hu1))
  all_goals
    refine bodyPost_ret (results_cell_tmp_at Tryz.results135 _ _ w.heap.size 91 _ _ (by rfl) (by assumption) Tryz.underlying91 rfl (by exact Tryz.info91) _ (by rfl)) rfl ⟨?_, by assumption⟩
    rw [← HX.out, R7]
    repeat (first | rw [findR_yes _ _ _ (by dsimp only; omega)] | rw [findR_no _ _ _ (by dsimp only; omega)])
    rfl
end Go.Proofs.YtnpcakeagpbgiaaGreat

/-
  Contracts of the document's of8 to of11: the first of its rows that holds r, and whether there is one. No condition.
-/
set_option linter.unusedVariables false
namespace Go.Proofs.YtnpcakeagpbgiaaGreat
open Go.ChangeShapes Go.WideShapes Go.ChangeAt Go.RowKit Go.Sort

set_option maxRecDepth 100000 in
set_option maxHeartbeats 8000000 in
theorem of8_ok (r : Int) (w : World) : Calls Tryz.prog 136 #[.int .i32 r] w fun e w' => e = .returned (fndV (findR R8 r)) ∧ Up w w' := by
  obtain ⟨X, hX⟩ : ∃ X, fndV (findR R8 r) = X := ⟨_, rfl⟩
  rw [hX]
  have HX := Lib.hid hX
  clear hX
  go_enter Tryz.func136, Tryz.ntmps136
  go_wp2_with (first | (go_at_call 143; refine (row_ok _ _ _ _ _ _ _ _ _ _).mono ?_; rintro e w' ⟨rfl, hu⟩; simp only [Pr.v]) | (go_at_call 113; refine (rest_ok _).mono ?_; rintro e w' ⟨rfl, hu⟩; simp only [Pr.v, Pr.rest]) | (refine wpList_store_at rfl 91 _ _ rfl w.heap.size _ rfl rfl 91 _ (At.up (at_new _ _ _) (by assumption)) (by exact Tryz.info91) (by rfl) (by simp [Value.oneCell']) w (Up.trans ((Up.refl _).alloc _) (by assumption)) (Nat.le_refl _) ?_; intro w1 hat hk hs hu1))
  all_goals
    refine bodyPost_ret (results_cell_tmp_at Tryz.results136 _ _ w.heap.size 91 _ _ (by rfl) (by assumption) Tryz.underlying91 rfl (by exact Tryz.info91) _ (by rfl)) rfl ⟨?_, by assumption⟩
    rw [← HX.out, R8]
    repeat (first | rw [findR_yes _ _ _ (by dsimp only; omega)] | rw [findR_no _ _ _ (by dsimp only; omega)])
    rfl

set_option maxRecDepth 100000 in
set_option maxHeartbeats 8000000 in
theorem of9_ok (r : Int) (w : World) : Calls Tryz.prog 137 #[.int .i32 r] w fun e w' => e = .returned (fndV (findR R9 r)) ∧ Up w w' := by
  obtain ⟨X, hX⟩ : ∃ X, fndV (findR R9 r) = X := ⟨_, rfl⟩
  rw [hX]
  have HX := Lib.hid hX
  clear hX
  go_enter Tryz.func137, Tryz.ntmps137
  go_wp2_with (first | (go_at_call 143; refine (row_ok _ _ _ _ _ _ _ _ _ _).mono ?_; rintro e w' ⟨rfl, hu⟩; simp only [Pr.v]) | (go_at_call 113; refine (rest_ok _).mono ?_; rintro e w' ⟨rfl, hu⟩; simp only [Pr.v, Pr.rest]) | (refine wpList_store_at rfl 91 _ _ rfl w.heap.size _ rfl rfl 91 _ (At.up (at_new _ _ _) (by assumption)) (by exact Tryz.info91) (by rfl) (by simp [Value.oneCell']) w (Up.trans ((Up.refl _).alloc _) (by assumption)) (Nat.le_refl _) ?_; intro w1 hat hk hs hu1))
  all_goals
    refine bodyPost_ret (results_cell_tmp_at Tryz.results137 _ _ w.heap.size 91 _ _ (by rfl) (by assumption) Tryz.underlying91 rfl (by exact Tryz.info91) _ (by rfl)) rfl ⟨?_, by assumption⟩
    rw [← HX.out, R9]
    repeat (first | rw [findR_yes _ _ _ (by dsimp only; omega)] | rw [findR_no _ _ _ (by dsimp only; omega)])
    rfl

set_option maxRecDepth 100000 in
set_option maxHeartbeats 8000000 in
theorem of10_ok (r : Int) (w : World) : Calls Tryz.prog 138 #[.int .i32 r] w fun e w' => e = .returned (fndV (findR R10 r)) ∧ Up w w' := by
  obtain ⟨X, hX⟩ : ∃ X, fndV (findR R10 r) = X := ⟨_, rfl⟩
  rw [hX]
  have HX := Lib.hid hX
  clear hX
  go_enter Tryz.func138, Tryz.ntmps138
  go_wp2_with (first | (go_at_call 143; refine (row_ok _ _ _ _ _ _ _ _ _ _).mono ?_; rintro e w' ⟨rfl, hu⟩; simp only [Pr.v]) | (go_at_call 113; refine (rest_ok _).mono ?_; rintro e w' ⟨rfl, hu⟩; simp only [Pr.v, Pr.rest]) | (refine wpList_store_at rfl 91 _ _ rfl w.heap.size _ rfl rfl 91 _ (At.up (at_new _ _ _) (by assumption)) (by exact Tryz.info91) (by rfl) (by simp [Value.oneCell']) w (Up.trans ((Up.refl _).alloc _) (by assumption)) (Nat.le_refl _) ?_; intro w1 hat hk hs hu1))
  all_goals
    refine bodyPost_ret (results_cell_tmp_at Tryz.results138 _ _ w.heap.size 91 _ _ (by rfl) (by assumption) Tryz.underlying91 rfl (by exact Tryz.info91) _ (by rfl)) rfl ⟨?_, by assumption⟩
    rw [← HX.out, R10]
    repeat (first | rw [findR_yes _ _ _ (by dsimp only; omega)] | rw [findR_no _ _ _ (by dsimp only; omega)])
    rfl

set_option maxRecDepth 100000 in
set_option maxHeartbeats 8000000 in
theorem of11_ok (r : Int) (w : World) : Calls Tryz.prog 139 #[.int .i32 r] w fun e w' => e = .returned (fndV (findR R11 r)) ∧ Up w w' := by
  obtain ⟨X, hX⟩ : ∃ X, fndV (findR R11 r) = X := ⟨_, rfl⟩
  rw [hX]
  have HX := Lib.hid hX
  clear hX
  go_enter Tryz.func139, Tryz.ntmps139
  go_wp2_with (first | (go_at_call 143; refine (row_ok _ _ _ _ _ _ _ _ _ _).mono ?_; rintro e w' ⟨rfl, hu⟩; simp only [Pr.v]) | (go_at_call 113; refine (rest_ok _).mono ?_; rintro e w' ⟨rfl, hu⟩; simp only [Pr.v, Pr.rest]) | (refine wpList_store_at rfl 91 _ _ rfl w.heap.size _ rfl rfl 91 _ (At.up (at_new _ _ _) (by assumption)) (by exact Tryz.info91) (by rfl) (by simp [Value.oneCell']) w (Up.trans ((Up.refl _).alloc _) (by assumption)) (Nat.le_refl _) ?_; intro w1 hat hk hs hu1))
  all_goals
    refine bodyPost_ret (results_cell_tmp_at Tryz.results139 _ _ w.heap.size 91 _ _ (by rfl) (by assumption) Tryz.underlying91 rfl (by exact Tryz.info91) _ (by rfl)) rfl ⟨?_, by assumption⟩
    rw [← HX.out, R11]
    repeat (first | rw [findR_yes _ _ _ (by dsimp only; omega)] | rw [findR_no _ _ _ (by dsimp only; omega)])
    rfl
end Go.Proofs.YtnpcakeagpbgiaaGreat
