/-
  Contracts of the document's of8 to of11: the first of its rows that holds r, and whether there is one. No condition.
-/
import Derived.Test.YtllmafbpjmclbaaBase
set_option linter.unusedVariables false
namespace Go.Proofs.Ytllmafbpjmclbaa
open Go.ChangeShapes Go.WideShapes Go.ChangeAt Go.RowKit Go.Sort

set_option maxRecDepth 100000 in
set_option maxHeartbeats 8000000 in
theorem of8_ok (r : Int) (w : World) : Calls Try.prog 46 #[.int .i32 r] w fun e w' => e = .returned (fndV (findR R8 r)) ∧ Up w w' := by
  obtain ⟨X, hX⟩ : ∃ X, fndV (findR R8 r) = X := ⟨_, rfl⟩
  rw [hX]
  have HX := Lib.hid hX
  clear hX
  go_enter Try.func46, Try.ntmps46
  go_wp2_with (first | (go_at_call 53; refine (row_ok _ _ _ _ _ _ _ _ _ _).mono ?_; rintro e w' ⟨rfl, hu⟩; simp only [Pr.v]) | (go_at_call 25; refine (rest_ok _).mono ?_; rintro e w' ⟨rfl, hu⟩; simp only [Pr.v, Pr.rest]) | (refine wpList_store_at rfl 38 _ _ rfl w.heap.size _ rfl rfl 38 _ (At.up (at_new _ _ _) (by assumption)) (by exact Try.info38) (by rfl) (by simp [Value.oneCell']) w (Up.trans ((Up.refl _).alloc _) (by assumption)) (Nat.le_refl _) ?_; intro w1 hat hk hs hu1))
  all_goals
    refine bodyPost_ret (results_cell_tmp_at Try.results46 _ _ w.heap.size 38 _ _ (by rfl) (by assumption) Try.underlying38 rfl (by exact Try.info38) _ (by rfl)) rfl ⟨?_, by assumption⟩
    rw [← HX.out, R8]
    repeat (first | rw [findR_yes _ _ _ (by dsimp only; omega)] | rw [findR_no _ _ _ (by dsimp only; omega)])
    rfl

set_option maxRecDepth 100000 in
set_option maxHeartbeats 8000000 in
theorem of9_ok (r : Int) (w : World) : Calls Try.prog 47 #[.int .i32 r] w fun e w' => e = .returned (fndV (findR R9 r)) ∧ Up w w' := by
  obtain ⟨X, hX⟩ : ∃ X, fndV (findR R9 r) = X := ⟨_, rfl⟩
  rw [hX]
  have HX := Lib.hid hX
  clear hX
  go_enter Try.func47, Try.ntmps47
  go_wp2_with (first | (go_at_call 53; refine (row_ok _ _ _ _ _ _ _ _ _ _).mono ?_; rintro e w' ⟨rfl, hu⟩; simp only [Pr.v]) | (go_at_call 25; refine (rest_ok _).mono ?_; rintro e w' ⟨rfl, hu⟩; simp only [Pr.v, Pr.rest]) | (refine wpList_store_at rfl 38 _ _ rfl w.heap.size _ rfl rfl 38 _ (At.up (at_new _ _ _) (by assumption)) (by exact Try.info38) (by rfl) (by simp [Value.oneCell']) w (Up.trans ((Up.refl _).alloc _) (by assumption)) (Nat.le_refl _) ?_; intro w1 hat hk hs hu1))
  all_goals
    refine bodyPost_ret (results_cell_tmp_at Try.results47 _ _ w.heap.size 38 _ _ (by rfl) (by assumption) Try.underlying38 rfl (by exact Try.info38) _ (by rfl)) rfl ⟨?_, by assumption⟩
    rw [← HX.out, R9]
    repeat (first | rw [findR_yes _ _ _ (by dsimp only; omega)] | rw [findR_no _ _ _ (by dsimp only; omega)])
    rfl

set_option maxRecDepth 100000 in
set_option maxHeartbeats 8000000 in
theorem of10_ok (r : Int) (w : World) : Calls Try.prog 48 #[.int .i32 r] w fun e w' => e = .returned (fndV (findR R10 r)) ∧ Up w w' := by
  obtain ⟨X, hX⟩ : ∃ X, fndV (findR R10 r) = X := ⟨_, rfl⟩
  rw [hX]
  have HX := Lib.hid hX
  clear hX
  go_enter Try.func48, Try.ntmps48
  go_wp2_with (first | (go_at_call 53; refine (row_ok _ _ _ _ _ _ _ _ _ _).mono ?_; rintro e w' ⟨rfl, hu⟩; simp only [Pr.v]) | (go_at_call 25; refine (rest_ok _).mono ?_; rintro e w' ⟨rfl, hu⟩; simp only [Pr.v, Pr.rest]) | (refine wpList_store_at rfl 38 _ _ rfl w.heap.size _ rfl rfl 38 _ (At.up (at_new _ _ _) (by assumption)) (by exact Try.info38) (by rfl) (by simp [Value.oneCell']) w (Up.trans ((Up.refl _).alloc _) (by assumption)) (Nat.le_refl _) ?_; intro w1 hat hk hs hu1))
  all_goals
    refine bodyPost_ret (results_cell_tmp_at Try.results48 _ _ w.heap.size 38 _ _ (by rfl) (by assumption) Try.underlying38 rfl (by exact Try.info38) _ (by rfl)) rfl ⟨?_, by assumption⟩
    rw [← HX.out, R10]
    repeat (first | rw [findR_yes _ _ _ (by dsimp only; omega)] | rw [findR_no _ _ _ (by dsimp only; omega)])
    rfl

set_option maxRecDepth 100000 in
set_option maxHeartbeats 8000000 in
theorem of11_ok (r : Int) (w : World) : Calls Try.prog 49 #[.int .i32 r] w fun e w' => e = .returned (fndV (findR R11 r)) ∧ Up w w' := by
  obtain ⟨X, hX⟩ : ∃ X, fndV (findR R11 r) = X := ⟨_, rfl⟩
  rw [hX]
  have HX := Lib.hid hX
  clear hX
  go_enter Try.func49, Try.ntmps49
  go_wp2_with (first | (go_at_call 53; refine (row_ok _ _ _ _ _ _ _ _ _ _).mono ?_; rintro e w' ⟨rfl, hu⟩; simp only [Pr.v]) | (go_at_call 25; refine (rest_ok _).mono ?_; rintro e w' ⟨rfl, hu⟩; simp only [Pr.v, Pr.rest]) | (refine wpList_store_at rfl 38 _ _ rfl w.heap.size _ rfl rfl 38 _ (At.up (at_new _ _ _) (by assumption)) (by exact Try.info38) (by rfl) (by simp [Value.oneCell']) w (Up.trans ((Up.refl _).alloc _) (by assumption)) (Nat.le_refl _) ?_; intro w1 hat hk hs hu1))
  all_goals
    refine bodyPost_ret (results_cell_tmp_at Try.results49 _ _ w.heap.size 38 _ _ (by rfl) (by assumption) Try.underlying38 rfl (by exact Try.info38) _ (by rfl)) rfl ⟨?_, by assumption⟩
    rw [← HX.out, R11]
    repeat (first | rw [findR_yes _ _ _ (by dsimp only; omega)] | rw [findR_no _ _ _ (by dsimp only; omega)])
    rfl
end Go.Proofs.Ytllmafbpjmclbaa
