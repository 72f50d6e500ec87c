/-
  Contracts of the document's of12 to of14: the first of its rows that holds r, and whether there is one. No condition.
-/
import Derived.Test.YtekjejbcdnghjaaDoorZBase
set_option linter.unusedVariables false
namespace Go.Proofs.YtekjejbcdnghjaaDoor
open Go.ChangeShapes Go.WideShapes Go.ChangeAt Go.RowKit Go.Sort

set_option maxRecDepth 100000 in
set_option maxHeartbeats 8000000 in
theorem of12_ok (r : Int) (w : World) : Calls Tryd.prog 98 #[.int .i32 r] w fun e w' => e = .returned (fndV (findR R12 r)) ∧ Up w w' := by
  obtain ⟨X, hX⟩ : ∃ X, fndV (findR R12 r) = X := ⟨_, rfl⟩
  rw [hX]
  have HX := Lib.hid hX
  clear hX
  go_enter Tryd.func98, Tryd.ntmps98
  go_wp2_with (first | (go_at_call 101; refine (row_ok _ _ _ _ _ _ _ _ _ _).mono ?_; rintro e w' ⟨rfl, hu⟩; simp only [Pr.v]) | (go_at_call 69; refine (rest_ok _).mono ?_; rintro e w' ⟨rfl, hu⟩; simp only [Pr.v, Pr.rest]) | (refine wpList_store_at rfl 72 _ _ rfl w.heap.size _ rfl rfl 72 _ (At.up (at_new _ _ _) (by assumption)) (by exact Tryd.info72) (by rfl) (by simp [Value.oneCell']) w (Up.trans ((Up.refl _).alloc _) (by assumption)) (Nat.le_refl _) ?_; intro w1 hat hk hs hu1))
  all_goals
    refine bodyPost_ret (results_cell_tmp_at Tryd.results98 _ _ w.heap.size 72 _ _ (by rfl) (by assumption) Tryd.underlying72 rfl (by exact Tryd.info72) _ (by rfl)) rfl ⟨?_, by assumption⟩
    rw [← HX.out, R12]
    repeat (first | rw [findR_yes _ _ _ (by dsimp only; omega)] | rw [findR_no _ _ _ (by dsimp only; omega)])
    rfl

set_option maxRecDepth 100000 in
set_option maxHeartbeats 8000000 in
theorem of13_ok (r : Int) (w : World) : Calls Tryd.prog 99 #[.int .i32 r] w fun e w' => e = .returned (fndV (findR R13 r)) ∧ Up w w' := by
  obtain ⟨X, hX⟩ : ∃ X, fndV (findR R13 r) = X := ⟨_, rfl⟩
  rw [hX]
  have HX := Lib.hid hX
  clear hX
  go_enter Tryd.func99, Tryd.ntmps99
  go_wp2_with (first | (go_at_call 101; refine (row_ok _ _ _ _ _ _ _ _ _ _).mono ?_; rintro e w' ⟨rfl, hu⟩; simp only [Pr.v]) | (go_at_call 69; refine (rest_ok _).mono ?_; rintro e w' ⟨rfl, hu⟩; simp only [Pr.v, Pr.rest]) | (refine wpList_store_at rfl 72 _ _ rfl w.heap.size _ rfl rfl 72 _ (At.up (at_new _ _ _) (by assumption)) (by exact Tryd.info72) (by rfl) (by simp [Value.oneCell']) w (Up.trans ((Up.refl _).alloc _) (by assumption)) (Nat.le_refl _) ?_; intro w1 hat hk hs hu1))
  all_goals
    refine bodyPost_ret (results_cell_tmp_at Tryd.results99 _ _ w.heap.size 72 _ _ (by rfl) (by assumption) Tryd.underlying72 rfl (by exact Tryd.info72) _ (by rfl)) rfl ⟨?_, by assumption⟩
    rw [← HX.out, R13]
    repeat (first | rw [findR_yes _ _ _ (by dsimp only; omega)] | rw [findR_no _ _ _ (by dsimp only; omega)])
    rfl

set_option maxRecDepth 100000 in
set_option maxHeartbeats 8000000 in
theorem of14_ok (r : Int) (w : World) : Calls Tryd.prog 100 #[.int .i32 r] w fun e w' => e = .returned (fndV (findR R14 r)) ∧ Up w w' := by
  obtain ⟨X, hX⟩ : ∃ X, fndV (findR R14 r) = X := ⟨_, rfl⟩
  rw [hX]
  have HX := Lib.hid hX
  clear hX
  go_enter Tryd.func100, Tryd.ntmps100
  go_wp2_with (first | (go_at_call 101; refine (row_ok _ _ _ _ _ _ _ _ _ _).mono ?_; rintro e w' ⟨rfl, hu⟩; simp only [Pr.v]) | (go_at_call 69; refine (rest_ok _).mono ?_; rintro e w' ⟨rfl, hu⟩; simp only [Pr.v, Pr.rest]) | (refine wpList_store_at rfl 72 _ _ rfl w.heap.size _ rfl rfl 72 _ (At.up (at_new _ _ _) (by assumption)) (by exact Tryd.info72) (by rfl) (by simp [Value.oneCell']) w (Up.trans ((Up.refl _).alloc _) (by assumption)) (Nat.le_refl _) ?_; intro w1 hat hk hs hu1))
  all_goals
    refine bodyPost_ret (results_cell_tmp_at Tryd.results100 _ _ w.heap.size 72 _ _ (by rfl) (by assumption) Tryd.underlying72 rfl (by exact Tryd.info72) _ (by rfl)) rfl ⟨?_, by assumption⟩
    rw [← HX.out, R14]
    repeat (first | rw [findR_yes _ _ _ (by dsimp only; omega)] | rw [findR_no _ _ _ (by dsimp only; omega)])
    rfl
end Go.Proofs.YtekjejbcdnghjaaDoor
