/-
  Contracts of the document's of4 to of7: the first of its rows that holds r, and whether there is one. No condition.
-/
import Derived.Test.YtnpdampaimllpaaBase
set_option linter.unusedVariables false
namespace Go.Proofs.Ytnpdampaimllpaa
open Go.ChangeShapes Go.WideShapes Go.ChangeAt Go.RowKit Go.Sort

set_option maxRecDepth 100000 in
set_option maxHeartbeats 8000000 in
theorem of4_ok (r : Int) (w : World) : Calls Try.prog 62 #[.int .i32 r] w fun e w' => e = .returned (fndV (findR R4 r)) ∧ Up w w' := by
  obtain ⟨X, hX⟩ : ∃ X, fndV (findR R4 r) = X := ⟨_, rfl⟩
  rw [hX]
  have HX := Lib.hid hX
  clear hX
  go_enter Try.func62, Try.ntmps62
  go_wp2_with (first | (go_at_call 73; refine (row_ok _ _ _ _ _ _ _ _ _ _).mono ?_; rintro e w' ⟨rfl, hu⟩; simp only [Pr.v]) | (go_at_call 52; refine (rest_ok _).mono ?_; rintro e w' ⟨rfl, hu⟩; simp only [Pr.v, Pr.rest]) | (refine wpList_store_at rfl 40 _ _ rfl w.heap.size _ rfl rfl 40 _ (At.up (at_new _ _ _) (by assumption)) (by exact Try.info40) (by rfl) (by simp [Value.oneCell']) w (Up.trans ((Up.refl _).alloc _) (by assumption)) (Nat.le_refl _) ?_; intro w1 hat hk hs hu1))
  all_goals
    refine bodyPost_ret (results_cell_tmp_at Try.results62 _ _ w.heap.size 40 _ _ (by rfl) (by assumption) Try.underlying40 rfl (by exact Try.info40) _ (by rfl)) rfl ⟨?_, by assumption⟩
    rw [← HX.out, R4]
    repeat (first | rw [findR_yes _ _ _ (by dsimp only; omega)] | rw [findR_no _ _ _ (by dsimp only; omega)])
    rfl

set_option maxRecDepth 100000 in
set_option maxHeartbeats 8000000 in
theorem of5_ok (r : Int) (w : World) : Calls Try.prog 63 #[.int .i32 r] w fun e w' => e = .returned (fndV (findR R5 r)) ∧ Up w w' := by
  obtain ⟨X, hX⟩ : ∃ X, fndV (findR R5 r) = X := ⟨_, rfl⟩
  rw [hX]
  have HX := Lib.hid hX
  clear hX
  go_enter Try.func63, Try.ntmps63
  go_wp2_with (first | (go_at_call 73; refine (row_ok _ _ _ _ _ _ _ _ _ _).mono ?_; rintro e w' ⟨rfl, hu⟩; simp only [Pr.v]) | (go_at_call 52; refine (rest_ok _).mono ?_; rintro e w' ⟨rfl, hu⟩; simp only [Pr.v, Pr.rest]) | (refine wpList_store_at rfl 40 _ _ rfl w.heap.size _ rfl rfl 40 _ (At.up (at_new _ _ _) (by assumption)) (by exact Try.info40) (by rfl) (by simp [Value.oneCell']) w (Up.trans ((Up.refl _).alloc _) (by assumption)) (Nat.le_refl _) ?_; intro w1 hat hk hs hu1))
  all_goals
    refine bodyPost_ret (results_cell_tmp_at Try.results63 _ _ w.heap.size 40 _ _ (by rfl) (by assumption) Try.underlying40 rfl (by exact Try.info40) _ (by rfl)) rfl ⟨?_, by assumption⟩
    rw [← HX.out, R5]
    repeat (first | rw [findR_yes _ _ _ (by dsimp only; omega)] | rw [findR_no _ _ _ (by dsimp only; omega)])
    rfl

set_option maxRecDepth 100000 in
set_option maxHeartbeats 8000000 in
theorem of6_ok (r : Int) (w : World) : Calls Try.prog 64 #[.int .i32 r] w fun e w' => e = .returned (fndV (findR R6 r)) ∧ Up w w' := by
  obtain ⟨X, hX⟩ : ∃ X, fndV (findR R6 r) = X := ⟨_, rfl⟩
  rw [hX]
  have HX := Lib.hid hX
  clear hX
  go_enter Try.func64, Try.ntmps64
  go_wp2_with (first | (go_at_call 73; refine (row_ok _ _ _ _ _ _ _ _ _ _).mono ?_; rintro e w' ⟨rfl, hu⟩; simp only [Pr.v]) | (go_at_call 52; refine (rest_ok _).mono ?_; rintro e w' ⟨rfl, hu⟩; simp only [Pr.v, Pr.rest]) | (refine wpList_store_at rfl 40 _ _ rfl w.heap.size _ rfl rfl 40 _ (At.up (at_new _ _ _) (by assumption)) (by exact Try.info40) (by rfl) (by simp [Value.oneCell']) w (Up.trans ((Up.refl _).alloc _) (by assumption)) (Nat.le_refl _) ?_; intro w1 hat hk hs hu1))
  all_goals
    refine bodyPost_ret (results_cell_tmp_at Try.results64 _ _ w.heap.size 40 _ _ (by rfl) (by assumption) Try.underlying40 rfl (by exact Try.info40) _ (by rfl)) rfl ⟨?_, by assumption⟩
    rw [← HX.out, R6]
    repeat (first | rw [findR_yes _ _ _ (by dsimp only; omega)] | rw [findR_no _ _ _ (by dsimp only; omega)])
    rfl

set_option maxRecDepth 100000 in
set_option maxHeartbeats 8000000 in
theorem of7_ok (r : Int) (w : World) : Calls Try.prog 65 #[.int .i32 r] w fun e w' => e = .returned (fndV (findR R7 r)) ∧ Up w w' := by
  obtain ⟨X, hX⟩ : ∃ X, fndV (findR R7 r) = X := ⟨_, rfl⟩
  rw [hX]
  have HX := Lib.hid hX
  clear hX
  go_enter Try.func65, Try.ntmps65
  go_wp2_with (first | (go_at_call 73; refine (row_ok _ _ _ _ _ _ _ _ _ _).mono ?_; rintro e w' ⟨rfl, hu⟩; simp only [Pr.v]) | (go_at_call 52; refine (rest_ok _).mono ?_; rintro e w' ⟨rfl, hu⟩; simp only [Pr.v, Pr.rest]) | (refine wpList_store_at rfl 40 _ _ rfl w.heap.size _ rfl rfl 40 _ (At.up (at_new _ _ _) (by assumption)) (by exact Try.info40) (by rfl) (by simp [Value.oneCell']) w (Up.trans ((Up.refl _).alloc _) (by assumption)) (Nat.le_refl _) ?_; intro w1 hat hk hs hu1))
  all_goals
    refine bodyPost_ret (results_cell_tmp_at Try.results65 _ _ w.heap.size 40 _ _ (by rfl) (by assumption) Try.underlying40 rfl (by exact Try.info40) _ (by rfl)) rfl ⟨?_, by assumption⟩
    rw [← HX.out, R7]
    repeat (first | rw [findR_yes _ _ _ (by dsimp only; omega)] | rw [findR_no _ _ _ (by dsimp only; omega)])
    rfl
end Go.Proofs.Ytnpdampaimllpaa
