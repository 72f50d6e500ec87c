/-
  Contracts of the document's of0 to of3: the first of its rows that holds r, and whether there is one. No condition.
-/
import Derived.Test.YtllmafbpjmclbaaBase
set_option linter.unusedVariables false
namespace Go.Proofs.Ytllmafbpjmclbaa
open Go.ChangeShapes Go.WideShapes Go.ChangeAt Go.RowKit Go.Sort

set_option maxRecDepth 100000 in
set_option maxHeartbeats 8000000 in
theorem of0_ok (r : Int) (w : World) : Calls Try.prog 38 #[.int .i32 r] w fun e w' => e = .returned (fndV (findR R0 r)) ∧ Up w w' := by
  obtain ⟨X, hX⟩ : ∃ X, fndV (findR R0 r) = X := ⟨_, rfl⟩
  rw [hX]
  have HX := Lib.hid hX
  clear hX
  go_enter Try.func38, Try.ntmps38
  go_wp2_with (first | (go_at_call 53; refine (row_ok _ _ _ _ _ _ _ _ _ _).mono ?_; rintro e w' ⟨rfl, hu⟩; simp only [Pr.v]) | (go_at_call 25; refine (rest_ok _).mono ?_; rintro e w' ⟨rfl, hu⟩; simp only [Pr.v, Pr.rest]) | (refine wpList_store_at rfl 38 _ _ rfl w.heap.size _ rfl rfl 38 _ (At.up (at_new _ _ _) (by assumption)) (by exact Try.info38) (by rfl) (by simp [Value.oneCell']) w (Up.trans ((Up.refl _).alloc _) (by assumption)) (Nat.le_refl _) ?_; intro w1 hat hk hs hu1))
  all_goals
    refine bodyPost_ret (results_cell_tmp_at Try.results38 _ _ w.heap.size 38 _ _ (by rfl) (by assumption) Try.underlying38 rfl (by exact Try.info38) _ (by rfl)) rfl ⟨?_, by assumption⟩
    rw [← HX.out, R0]
    repeat (first | rw [findR_yes _ _ _ (by dsimp only; omega)] | rw [findR_no _ _ _ (by dsimp only; omega)])
    rfl

set_option maxRecDepth 100000 in
set_option maxHeartbeats 8000000 in
theorem of1_ok (r : Int) (w : World) : Calls Try.prog 39 #[.int .i32 r] w fun e w' => e = .returned (fndV (findR R1 r)) ∧ Up w w' := by
  obtain ⟨X, hX⟩ : ∃ X, fndV (findR R1 r) = X := ⟨_, rfl⟩
  rw [hX]
  have HX := Lib.hid hX
  clear hX
  go_enter Try.func39, Try.ntmps39
  go_wp2_with (first | (go_at_call 53; refine (row_ok _ _ _ _ _ _ _ _ _ _).mono ?_; rintro e w' ⟨rfl, hu⟩; simp only [Pr.v]) | (go_at_call 25; refine (rest_ok _).mono ?_; rintro e w' ⟨rfl, hu⟩; simp only [Pr.v, Pr.rest]) | (refine wpList_store_at rfl 38 _ _ rfl w.heap.size _ rfl rfl 38 _ (At.up (at_new _ _ _) (by assumption)) (by exact Try.info38) (by rfl) (by simp [Value.oneCell']) w (Up.trans ((Up.refl _).alloc _) (by assumption)) (Nat.le_refl _) ?_; intro w1 hat hk hs hu1))
  all_goals
    refine bodyPost_ret (results_cell_tmp_at Try.results39 _ _ w.heap.size 38 _ _ (by rfl) (by assumption) Try.underlying38 rfl (by exact Try.info38) _ (by rfl)) rfl ⟨?_, by assumption⟩
    rw [← HX.out, R1]
    repeat (first | rw [findR_yes _ _ _ (by dsimp only; omega)] | rw [findR_no _ _ _ (by dsimp only; omega)])
    rfl

set_option maxRecDepth 100000 in
set_option maxHeartbeats 8000000 in
theorem of2_ok (r : Int) (w : World) : Calls Try.prog 40 #[.int .i32 r] w fun e w' => e = .returned (fndV (findR R2 r)) ∧ Up w w' := by
  obtain ⟨X, hX⟩ : ∃ X, fndV (findR R2 r) = X := ⟨_, rfl⟩
  rw [hX]
  have HX := Lib.hid hX
  clear hX
  go_enter Try.func40, Try.ntmps40
  go_wp2_with (first | (go_at_call 53; refine (row_ok _ _ _ _ _ _ _ _ _ _).mono ?_; rintro e w' ⟨rfl, hu⟩; simp only [Pr.v]) | (go_at_call 25; refine (rest_ok _).mono ?_; rintro e w' ⟨rfl, hu⟩; simp only [Pr.v, Pr.rest]) | (refine wpList_store_at rfl 38 _ _ rfl w.heap.size _ rfl rfl 38 _ (At.up (at_new _ _ _) (by assumption)) (by exact Try.info38) (by rfl) (by simp [Value.oneCell']) w (Up.trans ((Up.refl _).alloc _) (by assumption)) (Nat.le_refl _) ?_; intro w1 hat hk hs hu1))
  all_goals
    refine bodyPost_ret (results_cell_tmp_at Try.results40 _ _ w.heap.size 38 _ _ (by rfl) (by assumption) Try.underlying38 rfl (by exact Try.info38) _ (by rfl)) rfl ⟨?_, by assumption⟩
    rw [← HX.out, R2]
    repeat (first | rw [findR_yes _ _ _ (by dsimp only; omega)] | rw [findR_no _ _ _ (by dsimp only; omega)])
    rfl

set_option maxRecDepth 100000 in
set_option maxHeartbeats 8000000 in
theorem of3_ok (r : Int) (w : World) : Calls Try.prog 41 #[.int .i32 r] w fun e w' => e = .returned (fndV (findR R3 r)) ∧ Up w w' := by
  obtain ⟨X, hX⟩ : ∃ X, fndV (findR R3 r) = X := ⟨_, rfl⟩
  rw [hX]
  have HX := Lib.hid hX
  clear hX
  go_enter Try.func41, Try.ntmps41
  go_wp2_with (first | (go_at_call 53; refine (row_ok _ _ _ _ _ _ _ _ _ _).mono ?_; rintro e w' ⟨rfl, hu⟩; simp only [Pr.v]) | (go_at_call 25; refine (rest_ok _).mono ?_; rintro e w' ⟨rfl, hu⟩; simp only [Pr.v, Pr.rest]) | (refine wpList_store_at rfl 38 _ _ rfl w.heap.size _ rfl rfl 38 _ (At.up (at_new _ _ _) (by assumption)) (by exact Try.info38) (by rfl) (by simp [Value.oneCell']) w (Up.trans ((Up.refl _).alloc _) (by assumption)) (Nat.le_refl _) ?_; intro w1 hat hk hs hu1))
  all_goals
    refine bodyPost_ret (results_cell_tmp_at Try.results41 _ _ w.heap.size 38 _ _ (by rfl) (by assumption) Try.underlying38 rfl (by exact Try.info38) _ (by rfl)) rfl ⟨?_, by assumption⟩
    rw [← HX.out, R3]
    repeat (first | rw [findR_yes _ _ _ (by dsimp only; omega)] | rw [findR_no _ _ _ (by dsimp only; omega)])
    rfl
end Go.Proofs.Ytllmafbpjmclbaa
