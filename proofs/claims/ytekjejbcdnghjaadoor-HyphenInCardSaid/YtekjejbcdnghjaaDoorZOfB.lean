/-
  Contracts of the document's of4 to of7: the first of its rows that holds r, and whether there is one. No condition.
-/
import Derived.Test.YtekjejbcdnghjaaDoorZBase
set_option linter.unusedVariables false
namespace Go.Proofs.YtekjejbcdnghjaaDoor
open Go.ChangeShapes Go.WideShapes Go.ChangeAt Go.RowKit Go.Sort

set_option maxRecDepth 100000 in
set_option maxHeartbeats 8000000 in
theorem of4_ok (r : Int) (w : World) : Calls Tryd.prog 90 #[.int .i32 r] w fun e w' => e = .returned (fndV (findR R4 r)) ∧ Up w w' := by
  obtain ⟨X, hX⟩ : ∃ X, fndV (findR R4 r) = X := ⟨_, rfl⟩
  rw [hX]
  have HX := Lib.hid hX
  clear hX
  go_enter Tryd.func90, Tryd.ntmps90
  go_wp2_with (first | (go_at_call 101; refine (row_ok _ _ _ _ _ _ _ _ _ _).mono ?_; rintro e w' ⟨rfl, hu⟩; simp only [Pr.v]) | (go_at_call 69; refine (rest_ok _).mono ?_; rintro e w' ⟨rfl, hu⟩; simp only [Pr.v, Pr.rest]) | (refine wpList_store_at rfl 72 _ _ rfl w.heap.size _ rfl rfl 72 _ (At.up (at_new _ _ _) (by assumption)) (by exact Tryd.info72) (by rfl) (by simp [Value.oneCell']) w (Up.trans ((Up.refl _).alloc _) (by assumption)) (Nat.le_refl _) ?_; intro w1 hat hk hs hu1))
  all_goals
    refine bodyPost_ret (results_cell_tmp_at Tryd.results90 _ _ w.heap.size 72 _ _ (by rfl) (by assumption) Tryd.underlying72 rfl (by exact Tryd.info72) _ (by rfl)) rfl ⟨?_, by assumption⟩
    rw [← HX.out, R4]
    repeat (first | rw [findR_yes _ _ _ (by dsimp only; omega)] | rw [findR_no _ _ _ (by dsimp only; omega)])
    rfl

set_option maxRecDepth 100000 in
set_option maxHeartbeats 8000000 in
theorem of5_ok (r : Int) (w : World) : Calls Tryd.prog 91 #[.int .i32 r] w fun e w' => e = .returned (fndV (findR R5 r)) ∧ Up w w' := by
  obtain ⟨X, hX⟩ : ∃ X, fndV (findR R5 r) = X := ⟨_, rfl⟩
  rw [hX]
  have HX := Lib.hid hX
  clear hX
  go_enter Tryd.func91, Tryd.ntmps91
  go_wp2_with (first | (go_at_call 101; refine (row_ok _ _ _ _ _ _ _ _ _ _).mono ?_; rintro e w' ⟨rfl, hu⟩; simp only [Pr.v]) | (go_at_call 69; refine (rest_ok _).mono ?_; rintro e w' ⟨rfl, hu⟩; simp only [Pr.v, Pr.rest]) | (refine wpList_store_at rfl 72 _ _ rfl w.heap.size _ rfl rfl 72 _ (At.up (at_new _ _ _) (by assumption)) (by exact Tryd.info72) (by rfl) (by simp [Value.oneCell']) w (Up.trans ((Up.refl _).alloc _) (by assumption)) (Nat.le_refl _) ?_; intro w1 hat hk hs hu1))
  all_goals
    refine bodyPost_ret (results_cell_tmp_at Tryd.results91 _ _ w.heap.size 72 _ _ (by rfl) (by assumption) Tryd.underlying72 rfl (by exact Tryd.info72) _ (by rfl)) rfl ⟨?_, by assumption⟩
    rw [← HX.out, R5]
    repeat (first | rw [findR_yes _ _ _ (by dsimp only; omega)] | rw [findR_no _ _ _ (by dsimp only; omega)])
    rfl

set_option maxRecDepth 100000 in
set_option maxHeartbeats 8000000 in
theorem of6_ok (r : Int) (w : World) : Calls Tryd.prog 92 #[.int .i32 r] w fun e w' => e = .returned (fndV (findR R6 r)) ∧ Up w w' := by
  obtain ⟨X, hX⟩ : ∃ X, fndV (findR R6 r) = X := ⟨_, rfl⟩
  rw [hX]
  have HX := Lib.hid hX
  clear hX
  go_enter Tryd.func92, Tryd.ntmps92
  go_wp2_with (first | (go_at_call 101; refine (row_ok _ _ _ _ _ _ _ _ _ _).mono ?_; rintro e w' ⟨rfl, hu⟩; simp only [Pr.v]) | (go_at_call 69; refine (rest_ok _).mono ?_; rintro e w' ⟨rfl, hu⟩; simp only [Pr.v, Pr.rest]) | (refine wpList_store_at rfl 72 _ _ rfl w.heap.size _ rfl rfl 72 _ (At.up (at_new _ _ _) (by assumption)) (by exact Tryd.info72) (by rfl) (by simp [Value.oneCell']) w (Up.trans ((Up.refl _).alloc _) (by assumption)) (Nat.le_refl _) ?_; intro w1 hat hk hs hu1))
  all_goals
    refine bodyPost_ret (results_cell_tmp_at Tryd.results92 _ _ w.heap.size 72 _ _ (by rfl) (by assumption) Tryd.underlying72 rfl (by exact Tryd.info72) _ (by rfl)) rfl ⟨?_, by assumption⟩
    rw [← HX.out, R6]
    repeat (first | rw [findR_yes _ _ _ (by dsimp only; omega)] | rw [findR_no _ _ _ (by dsimp only; omega)])
    rfl

set_option maxRecDepth 100000 in
set_option maxHeartbeats 8000000 in
theorem of7_ok (r : Int) (w : World) : Calls Tryd.prog 93 #[.int .i32 r] w fun e w' => e = .returned (fndV (findR R7 r)) ∧ Up w w' := by
  obtain ⟨X, hX⟩ : ∃ X, fndV (findR R7 r) = X := ⟨_, rfl⟩
  rw [hX]
  have HX := Lib.hid hX
  clear hX
  go_enter Tryd.func93, Tryd.ntmps93
  go_wp2_with (first | (go_at_call 101; refine (row_ok _ _ _ _ _ _ _ _ _ _).mono ?_; rintro e w' ⟨rfl, hu⟩; simp only [Pr.v]) | (go_at_call 69; refine (rest_ok _).mono ?_; rintro e w' ⟨rfl, hu⟩; simp only [Pr.v, Pr.rest]) | (refine wpList_store_at rfl 72 _ _ rfl w.heap.size _ rfl rfl 72 _ (At.up (at_new _ _ _) (by assumption)) (by exact Tryd.info72) (by rfl) (by simp [Value.oneCell']) w (Up.trans ((Up.refl _).alloc _) (by assumption)) (Nat.le_refl _) ?_; intro w1 hat hk hs hu1))
  all_goals
    refine bodyPost_ret (results_cell_tmp_at Tryd.results93 _ _ w.heap.size 72 _ _ (by rfl) (by assumption) Tryd.underlying72 rfl (by exact Tryd.info72) _ (by rfl)) rfl ⟨?_, by assumption⟩
    rw [← HX.out, R7]
    repeat (first | rw [findR_yes _ _ _ (by dsimp only; omega)] | rw [findR_no _ _ _ (by dsimp only; omega)])
    rfl
end Go.Proofs.YtekjejbcdnghjaaDoor
