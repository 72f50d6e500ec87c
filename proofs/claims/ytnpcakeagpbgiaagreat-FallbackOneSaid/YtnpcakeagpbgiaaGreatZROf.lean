/-
  Contract of the document's Of. No condition.
-/
import Derived.Test.YtnpcakeagpbgiaaGreatZPart
set_option linter.unusedVariables false
namespace Go.Proofs.YtnpcakeagpbgiaaGreat
open Go.ChangeShapes Go.WideShapes Go.ChangeAt Go.RowKit Go.Sort

set_option maxHeartbeats 4000000 in
theorem rof_ok (r : Int) (w : World) : Calls Tryz.prog 86 #[.int .i32 r] w fun e w' => e = .returned (Pr.v (ofP r)) ∧ Up w w' := by
  unfold ofP
  rw [tab_two, findR_append]
  rcases h0 : findR P0 r with _ | p
  rotate_left
  · have HC0 := Lib.hid (got_some (part0_ok r) h0)
    clear h0
    simp only [Option.some_or]
    by_cases k1 : r < 44032
    · rw [if_neg (by omega)]
      show Calls _ _ _ _ fun e w' => e = .returned (.agg #[.int .i64 p.bidi, .int .i64 p.cl, .int .i64 p.br, .int .i64 p.sc, .int .i64 p.jn, .int .i64 p.wd, .int .i32 p.mi, .int .i32 p.pa, .bool p.op]) ∧ Up w w'
      go_enter Tryz.func86, Tryz.ntmps86
      go_wp2_with (first | (go_at_call 111; refine (HC0.out _).mono ?_; rintro e w1 ⟨rfl, hu⟩; have ha := (at_new _ _ _).up hu; have hU : Up w w1 := ((Up.refl w).alloc _).trans hu; clear hu) | (refine wpList_store_at rfl 91 _ _ rfl w.heap.size _ rfl rfl 91 _ (ha.alloc _) (by exact Tryz.info91) (by rfl) (by simp [Value.oneCell']) w (hU.alloc _) (Nat.le_refl _) ?_; intro ws hat hk hs hu1))
      exact bodyPost_ret (results_cell_at Tryz.results86 _ _ w.heap.size 91 _ _ (by rfl) (by assumption) Tryz.underlying91 rfl (by exact Tryz.info91)) rfl ⟨rfl, by assumption⟩
    by_cases k2 : 55203 < r
    · rw [if_neg (by omega)]
      show Calls _ _ _ _ fun e w' => e = .returned (.agg #[.int .i64 p.bidi, .int .i64 p.cl, .int .i64 p.br, .int .i64 p.sc, .int .i64 p.jn, .int .i64 p.wd, .int .i32 p.mi, .int .i32 p.pa, .bool p.op]) ∧ Up w w'
      go_enter Tryz.func86, Tryz.ntmps86
      go_wp2_with (first | (go_at_call 111; refine (HC0.out _).mono ?_; rintro e w1 ⟨rfl, hu⟩; have ha := (at_new _ _ _).up hu; have hU : Up w w1 := ((Up.refl w).alloc _).trans hu; clear hu) | (refine wpList_store_at rfl 91 _ _ rfl w.heap.size _ rfl rfl 91 _ (ha.alloc _) (by exact Tryz.info91) (by rfl) (by simp [Value.oneCell']) w (hU.alloc _) (Nat.le_refl _) ?_; intro ws hat hk hs hu1))
      exact bodyPost_ret (results_cell_at Tryz.results86 _ _ w.heap.size 91 _ _ (by rfl) (by assumption) Tryz.underlying91 rfl (by exact Tryz.info91)) rfl ⟨rfl, by assumption⟩
    have k3 : 44032 ≤ r := by omega
    have k4 : r ≤ 55203 := by omega
    clear k1 k2
    by_cases k5 : (r - 44032) % 28 = 0
    · rw [if_pos ⟨k3, k4, k5⟩]
      show Calls _ _ _ _ fun e w' => e = .returned (.agg #[.int .i64 p.bidi, .int .i64 12, .int .i64 33, .int .i64 p.sc, .int .i64 p.jn, .int .i64 p.wd, .int .i32 p.mi, .int .i32 p.pa, .bool p.op]) ∧ Up w w'
      go_enter Tryz.func86, Tryz.ntmps86
      go_wp2_with (first | (go_at_call 111; refine (HC0.out _).mono ?_; rintro e w1 ⟨rfl, hu⟩; have ha := (at_new _ _ _).up hu; have hU : Up w w1 := ((Up.refl w).alloc _).trans hu; clear hu) | (refine wpList_store_at rfl 91 _ _ rfl w.heap.size _ rfl rfl 91 _ (ha.alloc _) (by exact Tryz.info91) (by rfl) (by simp [Value.oneCell']) w (hU.alloc _) (Nat.le_refl _) ?_; intro ws hat hk hs hu1))
      exact bodyPost_ret (results_cell_at Tryz.results86 _ _ w.heap.size 91 _ _ (by rfl) (by assumption) Tryz.underlying91 rfl (by exact Tryz.info91)) rfl ⟨rfl, by assumption⟩
    · rw [if_neg (fun h => k5 h.2.2)]
      show Calls _ _ _ _ fun e w' => e = .returned (.agg #[.int .i64 p.bidi, .int .i64 p.cl, .int .i64 p.br, .int .i64 p.sc, .int .i64 p.jn, .int .i64 p.wd, .int .i32 p.mi, .int .i32 p.pa, .bool p.op]) ∧ Up w w'
      go_enter Tryz.func86, Tryz.ntmps86
      go_wp2_with (first | (go_at_call 111; refine (HC0.out _).mono ?_; rintro e w1 ⟨rfl, hu⟩; have ha := (at_new _ _ _).up hu; have hU : Up w w1 := ((Up.refl w).alloc _).trans hu; clear hu) | (refine wpList_store_at rfl 91 _ _ rfl w.heap.size _ rfl rfl 91 _ (ha.alloc _) (by exact Tryz.info91) (by rfl) (by simp [Value.oneCell']) w (hU.alloc _) (Nat.le_refl _) ?_; intro ws hat hk hs hu1))
      exact bodyPost_ret (results_cell_at Tryz.results86 _ _ w.heap.size 91 _ _ (by rfl) (by assumption) Tryz.underlying91 rfl (by exact Tryz.info91)) rfl ⟨rfl, by assumption⟩
  have HC0 := Lib.hid (got_none (part0_ok r) h0)
  clear h0
  rw [Option.none_or]
  rcases h1 : findR P1 r with _ | p
  rotate_left
  · have HC1 := Lib.hid (got_some (part1_ok r) h1)
    clear h1
    simp only []
    by_cases k1 : r < 44032
    · rw [if_neg (by omega)]
      show Calls _ _ _ _ fun e w' => e = .returned (.agg #[.int .i64 p.bidi, .int .i64 p.cl, .int .i64 p.br, .int .i64 p.sc, .int .i64 p.jn, .int .i64 p.wd, .int .i32 p.mi, .int .i32 p.pa, .bool p.op]) ∧ Up w w'
      go_enter Tryz.func86, Tryz.ntmps86
      go_wp2_with (first | (go_at_call 111; refine (HC0.out _).mono ?_; rintro e w1 ⟨rfl, hu⟩; have ha := (at_new _ _ _).up hu; have hU : Up w w1 := ((Up.refl w).alloc _).trans hu; clear hu) | (go_at_call 112; refine (HC1.out _).mono ?_; rintro e w2 ⟨rfl, hu⟩; have ha2 := (ha.alloc _).up hu; have hU2 := (hU.alloc _).trans hu; clear hu ha hU; have ha := ha2; have hU := hU2; clear ha2 hU2) | (refine wpList_store_at rfl 91 _ _ rfl w.heap.size _ rfl rfl 91 _ (ha.alloc _) (by exact Tryz.info91) (by rfl) (by simp [Value.oneCell']) w (hU.alloc _) (Nat.le_refl _) ?_; intro ws hat hk hs hu1))
      exact bodyPost_ret (results_cell_at Tryz.results86 _ _ w.heap.size 91 _ _ (by rfl) (by assumption) Tryz.underlying91 rfl (by exact Tryz.info91)) rfl ⟨rfl, by assumption⟩
    by_cases k2 : 55203 < r
    · rw [if_neg (by omega)]
      show Calls _ _ _ _ fun e w' => e = .returned (.agg #[.int .i64 p.bidi, .int .i64 p.cl, .int .i64 p.br, .int .i64 p.sc, .int .i64 p.jn, .int .i64 p.wd, .int .i32 p.mi, .int .i32 p.pa, .bool p.op]) ∧ Up w w'
      go_enter Tryz.func86, Tryz.ntmps86
      go_wp2_with (first | (go_at_call 111; refine (HC0.out _).mono ?_; rintro e w1 ⟨rfl, hu⟩; have ha := (at_new _ _ _).up hu; have hU : Up w w1 := ((Up.refl w).alloc _).trans hu; clear hu) | (go_at_call 112; refine (HC1.out _).mono ?_; rintro e w2 ⟨rfl, hu⟩; have ha2 := (ha.alloc _).up hu; have hU2 := (hU.alloc _).trans hu; clear hu ha hU; have ha := ha2; have hU := hU2; clear ha2 hU2) | (refine wpList_store_at rfl 91 _ _ rfl w.heap.size _ rfl rfl 91 _ (ha.alloc _) (by exact Tryz.info91) (by rfl) (by simp [Value.oneCell']) w (hU.alloc _) (Nat.le_refl _) ?_; intro ws hat hk hs hu1))
      exact bodyPost_ret (results_cell_at Tryz.results86 _ _ w.heap.size 91 _ _ (by rfl) (by assumption) Tryz.underlying91 rfl (by exact Tryz.info91)) rfl ⟨rfl, by assumption⟩
    have k3 : 44032 ≤ r := by omega
    have k4 : r ≤ 55203 := by omega
    clear k1 k2
    by_cases k5 : (r - 44032) % 28 = 0
    · rw [if_pos ⟨k3, k4, k5⟩]
      show Calls _ _ _ _ fun e w' => e = .returned (.agg #[.int .i64 p.bidi, .int .i64 12, .int .i64 33, .int .i64 p.sc, .int .i64 p.jn, .int .i64 p.wd, .int .i32 p.mi, .int .i32 p.pa, .bool p.op]) ∧ Up w w'
      go_enter Tryz.func86, Tryz.ntmps86
      go_wp2_with (first | (go_at_call 111; refine (HC0.out _).mono ?_; rintro e w1 ⟨rfl, hu⟩; have ha := (at_new _ _ _).up hu; have hU : Up w w1 := ((Up.refl w).alloc _).trans hu; clear hu) | (go_at_call 112; refine (HC1.out _).mono ?_; rintro e w2 ⟨rfl, hu⟩; have ha2 := (ha.alloc _).up hu; have hU2 := (hU.alloc _).trans hu; clear hu ha hU; have ha := ha2; have hU := hU2; clear ha2 hU2) | (refine wpList_store_at rfl 91 _ _ rfl w.heap.size _ rfl rfl 91 _ (ha.alloc _) (by exact Tryz.info91) (by rfl) (by simp [Value.oneCell']) w (hU.alloc _) (Nat.le_refl _) ?_; intro ws hat hk hs hu1))
      exact bodyPost_ret (results_cell_at Tryz.results86 _ _ w.heap.size 91 _ _ (by rfl) (by assumption) Tryz.underlying91 rfl (by exact Tryz.info91)) rfl ⟨rfl, by assumption⟩
    · rw [if_neg (fun h => k5 h.2.2)]
      show Calls _ _ _ _ fun e w' => e = .returned (.agg #[.int .i64 p.bidi, .int .i64 p.cl, .int .i64 p.br, .int .i64 p.sc, .int .i64 p.jn, .int .i64 p.wd, .int .i32 p.mi, .int .i32 p.pa, .bool p.op]) ∧ Up w w'
      go_enter Tryz.func86, Tryz.ntmps86
      go_wp2_with (first | (go_at_call 111; refine (HC0.out _).mono ?_; rintro e w1 ⟨rfl, hu⟩; have ha := (at_new _ _ _).up hu; have hU : Up w w1 := ((Up.refl w).alloc _).trans hu; clear hu) | (go_at_call 112; refine (HC1.out _).mono ?_; rintro e w2 ⟨rfl, hu⟩; have ha2 := (ha.alloc _).up hu; have hU2 := (hU.alloc _).trans hu; clear hu ha hU; have ha := ha2; have hU := hU2; clear ha2 hU2) | (refine wpList_store_at rfl 91 _ _ rfl w.heap.size _ rfl rfl 91 _ (ha.alloc _) (by exact Tryz.info91) (by rfl) (by simp [Value.oneCell']) w (hU.alloc _) (Nat.le_refl _) ?_; intro ws hat hk hs hu1))
      exact bodyPost_ret (results_cell_at Tryz.results86 _ _ w.heap.size 91 _ _ (by rfl) (by assumption) Tryz.underlying91 rfl (by exact Tryz.info91)) rfl ⟨rfl, by assumption⟩
  have HC1 := Lib.hid (got_none (part1_ok r) h1)
  clear h1
  show Calls _ _ _ _ fun e w' => e = .returned (.agg #[.int .i64 1, .int .i64 0, .int .i64 0, .int .i64 0, .int .i64 0, .int .i64 0, .int .i32 0, .int .i32 0, .bool false]) ∧ Up w w'
  go_enter Tryz.func86, Tryz.ntmps86
  go_wp2_with (first | (go_at_call 111; refine (HC0.out _).mono ?_; rintro e w1 ⟨rfl, hu⟩; have ha := (at_new _ _ _).up hu; have hU : Up w w1 := ((Up.refl w).alloc _).trans hu; clear hu) | (go_at_call 112; refine (HC1.out _).mono ?_; rintro e w2 ⟨rfl, hu⟩; have ha2 := (ha.alloc _).up hu; have hU2 := (hU.alloc _).trans hu; clear hu ha hU; have ha := ha2; have hU := hU2; clear ha2 hU2) | (go_at_call 113; refine (rest_x _).mono ?_; rintro e wr ⟨rfl, hu⟩; have ha2 := (ha.alloc _).up hu; have hU2 := (hU.alloc _).trans hu; clear hu ha hU) | (refine wpList_store_at rfl 91 _ _ rfl w.heap.size _ rfl rfl 91 _ ha2 (by exact Tryz.info91) (by rfl) (by simp [Value.oneCell']) w hU2 (Nat.le_refl _) ?_; intro ws hat hk hs hu1))
  exact bodyPost_ret (results_cell_at Tryz.results86 _ _ w.heap.size 91 _ _ (by rfl) (by assumption) Tryz.underlying91 rfl (by exact Tryz.info91)) rfl ⟨rfl, by assumption⟩
end Go.Proofs.YtnpcakeagpbgiaaGreat
