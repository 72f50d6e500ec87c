/-
  Contracts of the document's part0, part1 and Of: what a code point is. No condition.
-/
import Derived.Test.YtnpcakeagpbgiaaGreatPzb
import Derived.Test.YtnpcakeagpbgiaaGreatOfD
import Derived.Test.YtnpcakeagpbgiaaGreatTab
set_option linter.unusedVariables false
namespace Go.Proofs.YtnpcakeagpbgiaaGreat
open Go.ChangeShapes Go.WideShapes Go.ChangeAt Go.RowKit Go.Sort

theorem got_none {f : Nat} {r : Int} {l : List Rw} (hc : ∀ w, Calls Tryz.prog f #[.int .i32 r] w fun e w' => e = .returned (fndV (findR l r)) ∧ Up w w') (h : findR l r = none) :
    ∀ w, Calls Tryz.prog f #[.int .i32 r] w fun e w' => e = .returned (.tuple #[.agg #[.int .i64 1, .int .i64 0, .int .i64 0, .int .i64 0, .int .i64 0, .int .i64 0, .int .i32 0, .int .i32 0, .bool false], .bool false]) ∧ Up w w' := by
  rw [h] at hc; exact hc
theorem got_some {f : Nat} {r : Int} {l : List Rw} {p : Pr} (hc : ∀ w, Calls Tryz.prog f #[.int .i32 r] w fun e w' => e = .returned (fndV (findR l r)) ∧ Up w w') (h : findR l r = some p) :
    ∀ w, Calls Tryz.prog f #[.int .i32 r] w fun e w' => e = .returned (.tuple #[.agg #[.int .i64 p.bidi, .int .i64 p.cl, .int .i64 p.br, .int .i64 p.sc, .int .i64 p.jn, .int .i64 p.wd, .int .i32 p.mi, .int .i32 p.pa, .bool p.op], .bool true]) ∧ Up w w' := by
  rw [h] at hc; exact hc
theorem rest_x (w : World) : Calls Tryz.prog 113 #[] w fun x w' => x = .returned (.agg #[.int .i64 1, .int .i64 0, .int .i64 0, .int .i64 0, .int .i64 0, .int .i64 0, .int .i32 0, .int .i32 0, .bool false]) ∧ Up w w' := rest_ok w
def P0 : List Rw := R0 ++ (R1 ++ (R2 ++ (R3 ++ (R4 ++ (R5 ++ (R6 ++ R7))))))
def P1 : List Rw := R8 ++ (R9 ++ (R10 ++ (R11 ++ (R12 ++ (R13 ++ R14)))))
theorem tab_two : tab = P0 ++ P1 := by
  rw [tab_parts]; unfold P0 P1
  simp only [List.append_assoc]

set_option maxHeartbeats 4000000 in
theorem part0_ok (r : Int) (w : World) : Calls Tryz.prog 111 #[.int .i32 r] w fun e w' => e = .returned (fndV (findR P0 r)) ∧ Up w w' := by
  unfold P0
  rw [findR_append]; rcases h0 : findR R0 r with _ | p
  rotate_left
  · have HC0 := Lib.hid (got_some (of0_ok r) h0)
    show Calls _ _ _ _ fun e w' => e = .returned (.tuple #[.agg #[.int .i64 p.bidi, .int .i64 p.cl, .int .i64 p.br, .int .i64 p.sc, .int .i64 p.jn, .int .i64 p.wd, .int .i32 p.mi, .int .i32 p.pa, .bool p.op], .bool true]) ∧ Up w w'
    clear h0
    go_enter Tryz.func111, Tryz.ntmps111
    go_wp2_with (first | (go_at_call 128; refine (HC0.out _).mono ?_; rintro e w1 ⟨rfl, hu⟩; have ha := (at_new _ _ _).up hu; have hU : Up w w1 := ((Up.refl w).alloc _).trans hu; clear hu) | (refine wpList_store_at rfl 91 _ _ rfl w.heap.size _ rfl rfl 91 _ (ha.alloc _) (by exact Tryz.info91) (by rfl) (by simp [Value.oneCell']) w (hU.alloc _) (Nat.le_refl _) ?_; intro ws hat hk hs hu1))
    exact bodyPost_ret (results_cell_tmp_at Tryz.results111 _ _ w.heap.size 91 _ _ (by rfl) (by assumption) Tryz.underlying91 rfl (by exact Tryz.info91) _ (by rfl)) rfl ⟨rfl, by assumption⟩
  have HC0 := Lib.hid (got_none (of0_ok r) h0)
  rw [Option.none_or]
  rw [findR_append]; rcases h1 : findR R1 r with _ | p
  rotate_left
  · have HC1 := Lib.hid (got_some (of1_ok r) h1)
    show Calls _ _ _ _ fun e w' => e = .returned (.tuple #[.agg #[.int .i64 p.bidi, .int .i64 p.cl, .int .i64 p.br, .int .i64 p.sc, .int .i64 p.jn, .int .i64 p.wd, .int .i32 p.mi, .int .i32 p.pa, .bool p.op], .bool true]) ∧ Up w w'
    clear h0 h1
    go_enter Tryz.func111, Tryz.ntmps111
    go_wp2_with (first | (go_at_call 128; refine (HC0.out _).mono ?_; rintro e w1 ⟨rfl, hu⟩; have ha := (at_new _ _ _).up hu; have hU : Up w w1 := ((Up.refl w).alloc _).trans hu; clear hu) | (go_at_call 129; refine (HC1.out _).mono ?_; rintro e w2 ⟨rfl, hu⟩; have ha2 := (ha.alloc _).up hu; have hU2 := (hU.alloc _).trans hu; clear hu ha hU; have ha := ha2; have hU := hU2; clear ha2 hU2) | (refine wpList_store_at rfl 91 _ _ rfl w.heap.size _ rfl rfl 91 _ (ha.alloc _) (by exact Tryz.info91) (by rfl) (by simp [Value.oneCell']) w (hU.alloc _) (Nat.le_refl _) ?_; intro ws hat hk hs hu1))
    exact bodyPost_ret (results_cell_tmp_at Tryz.results111 _ _ w.heap.size 91 _ _ (by rfl) (by assumption) Tryz.underlying91 rfl (by exact Tryz.info91) _ (by rfl)) rfl ⟨rfl, by assumption⟩
  have HC1 := Lib.hid (got_none (of1_ok r) h1)
  rw [Option.none_or]
  rw [findR_append]; rcases h2 : findR R2 r with _ | p
  rotate_left
  · have HC2 := Lib.hid (got_some (of2_ok r) h2)
    show Calls _ _ _ _ fun e w' => e = .returned (.tuple #[.agg #[.int .i64 p.bidi, .int .i64 p.cl, .int .i64 p.br, .int .i64 p.sc, .int .i64 p.jn, .int .i64 p.wd, .int .i32 p.mi, .int .i32 p.pa, .bool p.op], .bool true]) ∧ Up w w'
    clear h0 h1 h2
    go_enter Tryz.func111, Tryz.ntmps111
    go_wp2_with (first | (go_at_call 128; refine (HC0.out _).mono ?_; rintro e w1 ⟨rfl, hu⟩; have ha := (at_new _ _ _).up hu; have hU : Up w w1 := ((Up.refl w).alloc _).trans hu; clear hu) | (go_at_call 129; refine (HC1.out _).mono ?_; rintro e w2 ⟨rfl, hu⟩; have ha2 := (ha.alloc _).up hu; have hU2 := (hU.alloc _).trans hu; clear hu ha hU; have ha := ha2; have hU := hU2; clear ha2 hU2) | (go_at_call 130; refine (HC2.out _).mono ?_; rintro e w3 ⟨rfl, hu⟩; have ha2 := (ha.alloc _).up hu; have hU2 := (hU.alloc _).trans hu; clear hu ha hU; have ha := ha2; have hU := hU2; clear ha2 hU2) | (refine wpList_store_at rfl 91 _ _ rfl w.heap.size _ rfl rfl 91 _ (ha.alloc _) (by exact Tryz.info91) (by rfl) (by simp [Value.oneCell']) w (hU.alloc _) (Nat.le_refl _) ?_; intro ws hat hk hs hu1))
    exact bodyPost_ret (results_cell_tmp_at Tryz.results111 _ _ w.heap.size 91 _ _ (by rfl) (by assumption) Tryz.underlying91 rfl (by exact Tryz.info91) _ (by rfl)) rfl ⟨rfl, by assumption⟩
  have HC2 := Lib.hid (got_none (of2_ok r) h2)
  rw [Option.none_or]
  rw [findR_append]; rcases h3 : findR R3 r with _ | p
  rotate_left
  · have HC3 := Lib.hid (got_some (of3_ok r) h3)
    show Calls _ _ _ _ fun e w' => e = .returned (.tuple #[.agg #[.int .i64 p.bidi, .int .i64 p.cl, .int .i64 p.br, .int .i64 p.sc, .int .i64 p.jn, .int .i64 p.wd, .int .i32 p.mi, .int .i32 p.pa, .bool p.op], .bool true]) ∧ Up w w'
    clear h0 h1 h2 h3
    go_enter Tryz.func111, Tryz.ntmps111
    go_wp2_with (first | (go_at_call 128; refine (HC0.out _).mono ?_; rintro e w1 ⟨rfl, hu⟩; have ha := (at_new _ _ _).up hu; have hU : Up w w1 := ((Up.refl w).alloc _).trans hu; clear hu) | (go_at_call 129; refine (HC1.out _).mono ?_; rintro e w2 ⟨rfl, hu⟩; have ha2 := (ha.alloc _).up hu; have hU2 := (hU.alloc _).trans hu; clear hu ha hU; have ha := ha2; have hU := hU2; clear ha2 hU2) | (go_at_call 130; refine (HC2.out _).mono ?_; rintro e w3 ⟨rfl, hu⟩; have ha2 := (ha.alloc _).up hu; have hU2 := (hU.alloc _).trans hu; clear hu ha hU; have ha := ha2; have hU := hU2; clear ha2 hU2) | (go_at_call 131; refine (HC3.out _).mono ?_; rintro e w4 ⟨rfl, hu⟩; have ha2 := (ha.alloc _).up hu; have hU2 := (hU.alloc _).trans hu; clear hu ha hU; have ha := ha2; have hU := hU2; clear ha2 hU2) | (refine wpList_store_at rfl 91 _ _ rfl w.heap.size _ rfl rfl 91 _ (ha.alloc _) (by exact Tryz.info91) (by rfl) (by simp [Value.oneCell']) w (hU.alloc _) (Nat.le_refl _) ?_; intro ws hat hk hs hu1))
    exact bodyPost_ret (results_cell_tmp_at Tryz.results111 _ _ w.heap.size 91 _ _ (by rfl) (by assumption) Tryz.underlying91 rfl (by exact Tryz.info91) _ (by rfl)) rfl ⟨rfl, by assumption⟩
  have HC3 := Lib.hid (got_none (of3_ok r) h3)
  rw [Option.none_or]
  rw [findR_append]; rcases h4 : findR R4 r with _ | p
  rotate_left
  · have HC4 := Lib.hid (got_some (of4_ok r) h4)
    show Calls _ _ _ _ fun e w' => e = .returned (.tuple #[.agg #[.int .i64 p.bidi, .int .i64 p.cl, .int .i64 p.br, .int .i64 p.sc, .int .i64 p.jn, .int .i64 p.wd, .int .i32 p.mi, .int .i32 p.pa, .bool p.op], .bool true]) ∧ Up w w'
    clear h0 h1 h2 h3 h4
    go_enter Tryz.func111, Tryz.ntmps111
    go_wp2_with (first | (go_at_call 128; refine (HC0.out _).mono ?_; rintro e w1 ⟨rfl, hu⟩; have ha := (at_new _ _ _).up hu; have hU : Up w w1 := ((Up.refl w).alloc _).trans hu; clear hu) | (go_at_call 129; refine (HC1.out _).mono ?_; rintro e w2 ⟨rfl, hu⟩; have ha2 := (ha.alloc _).up hu; have hU2 := (hU.alloc _).trans hu; clear hu ha hU; have ha := ha2; have hU := hU2; clear ha2 hU2) | (go_at_call 130; refine (HC2.out _).mono ?_; rintro e w3 ⟨rfl, hu⟩; have ha2 := (ha.alloc _).up hu; have hU2 := (hU.alloc _).trans hu; clear hu ha hU; have ha := ha2; have hU := hU2; clear ha2 hU2) | (go_at_call 131; refine (HC3.out _).mono ?_; rintro e w4 ⟨rfl, hu⟩; have ha2 := (ha.alloc _).up hu; have hU2 := (hU.alloc _).trans hu; clear hu ha hU; have ha := ha2; have hU := hU2; clear ha2 hU2) | (go_at_call 132; refine (HC4.out _).mono ?_; rintro e w5 ⟨rfl, hu⟩; have ha2 := (ha.alloc _).up hu; have hU2 := (hU.alloc _).trans hu; clear hu ha hU; have ha := ha2; have hU := hU2; clear ha2 hU2) | (refine wpList_store_at rfl 91 _ _ rfl w.heap.size _ rfl rfl 91 _ (ha.alloc _) (by exact Tryz.info91) (by rfl) (by simp [Value.oneCell']) w (hU.alloc _) (Nat.le_refl _) ?_; intro ws hat hk hs hu1))
    exact bodyPost_ret (results_cell_tmp_at Tryz.results111 _ _ w.heap.size 91 _ _ (by rfl) (by assumption) Tryz.underlying91 rfl (by exact Tryz.info91) _ (by rfl)) rfl ⟨rfl, by assumption⟩
  have HC4 := Lib.hid (got_none (of4_ok r) h4)
  rw [Option.none_or]
  rw [findR_append]; rcases h5 : findR R5 r with _ | p
  rotate_left
  · have HC5 := Lib.hid (got_some (of5_ok r) h5)
    show Calls _ _ _ _ fun e w' => e = .returned (.tuple #[.agg #[.int .i64 p.bidi, .int .i64 p.cl, .int .i64 p.br, .int .i64 p.sc, .int .i64 p.jn, .int .i64 p.wd, .int .i32 p.mi, .int .i32 p.pa, .bool p.op], .bool true]) ∧ Up w w'
    clear h0 h1 h2 h3 h4 h5
    go_enter Tryz.func111, Tryz.ntmps111
    go_wp2_with (first | (go_at_call 128; refine (HC0.out _).mono ?_; rintro e w1 ⟨rfl, hu⟩; have ha := (at_new _ _ _).up hu; have hU : Up w w1 := ((Up.refl w).alloc _).trans hu; clear hu) | (go_at_call 129; refine (HC1.out _).mono ?_; rintro e w2 ⟨rfl, hu⟩; have ha2 := (ha.alloc _).up hu; have hU2 := (hU.alloc _).trans hu; clear hu ha hU; have ha := ha2; have hU := hU2; clear ha2 hU2) | (go_at_call 130; refine (HC2.out _).mono ?_; rintro e w3 ⟨rfl, hu⟩; have ha2 := (ha.alloc _).up hu; have hU2 := (hU.alloc _).trans hu; clear hu ha hU; have ha := ha2; have hU := hU2; clear ha2 hU2) | (go_at_call 131; refine (HC3.out _).mono ?_; rintro e w4 ⟨rfl, hu⟩; have ha2 := (ha.alloc _).up hu; have hU2 := (hU.alloc _).trans hu; clear hu ha hU; have ha := ha2; have hU := hU2; clear ha2 hU2) | (go_at_call 132; refine (HC4.out _).mono ?_; rintro e w5 ⟨rfl, hu⟩; have ha2 := (ha.alloc _).up hu; have hU2 := (hU.alloc _).trans hu; clear hu ha hU; have ha := ha2; have hU := hU2; clear ha2 hU2) | (go_at_call 133; refine (HC5.out _).mono ?_; rintro e w6 ⟨rfl, hu⟩; have ha2 := (ha.alloc _).up hu; have hU2 := (hU.alloc _).trans hu; clear hu ha hU; have ha := ha2; have hU := hU2; clear ha2 hU2) | (refine wpList_store_at rfl 91 _ _ rfl w.heap.size _ rfl rfl 91 _ (ha.alloc _) (by exact Tryz.info91) (by rfl) (by simp [Value.oneCell']) w (hU.alloc _) (Nat.le_refl _) ?_; intro ws hat hk hs hu1))
    exact bodyPost_ret (results_cell_tmp_at Tryz.results111 _ _ w.heap.size 91 _ _ (by rfl) (by assumption) Tryz.underlying91 rfl (by exact Tryz.info91) _ (by rfl)) rfl ⟨rfl, by assumption⟩
  have HC5 := Lib.hid (got_none (of5_ok r) h5)
  rw [Option.none_or]
  rw [findR_append]; rcases h6 : findR R6 r with _ | p
  rotate_left
  · have HC6 := Lib.hid (got_some (of6_ok r) h6)
    show Calls _ _ _ _ fun e w' => e = .returned (.tuple #[.agg #[.int .i64 p.bidi, .int .i64 p.cl, .int .i64 p.br, .int .i64 p.sc, .int .i64 p.jn, .int .i64 p.wd, .int .i32 p.mi, .int .i32 p.pa, .bool p.op], .bool true]) ∧ Up w w'
    clear h0 h1 h2 h3 h4 h5 h6
    go_enter Tryz.func111, Tryz.ntmps111
    go_wp2_with (first | (go_at_call 128; refine (HC0.out _).mono ?_; rintro e w1 ⟨rfl, hu⟩; have ha := (at_new _ _ _).up hu; have hU : Up w w1 := ((Up.refl w).alloc _).trans hu; clear hu) | (go_at_call 129; refine (HC1.out _).mono ?_; rintro e w2 ⟨rfl, hu⟩; have ha2 := (ha.alloc _).up hu; have hU2 := (hU.alloc _).trans hu; clear hu ha hU; have ha := ha2; have hU := hU2; clear ha2 hU2) | (go_at_call 130; refine (HC2.out _).mono ?_; rintro e w3 ⟨rfl, hu⟩; have ha2 := (ha.alloc _).up hu; have hU2 := (hU.alloc _).trans hu; clear hu ha hU; have ha := ha2; have hU := hU2; clear ha2 hU2) | (go_at_call 131; refine (HC3.out _).mono ?_; rintro e w4 ⟨rfl, hu⟩; have ha2 := (ha.alloc _).up hu; have hU2 := (hU.alloc _).trans hu; clear hu ha hU; have ha := ha2; have hU := hU2; clear ha2 hU2) | (go_at_call 132; refine (HC4.out _).mono ?_; rintro e w5 ⟨rfl, hu⟩; have ha2 := (ha.alloc _).up hu; have hU2 := (hU.alloc _).trans hu; clear hu ha hU; have ha := ha2; have hU := hU2; clear ha2 hU2) | (go_at_call 133; refine (HC5.out _).mono ?_; rintro e w6 ⟨rfl, hu⟩; have ha2 := (ha.alloc _).up hu; have hU2 := (hU.alloc _).trans hu; clear hu ha hU; have ha := ha2; have hU := hU2; clear ha2 hU2) | (go_at_call 134; refine (HC6.out _).mono ?_; rintro e w7 ⟨rfl, hu⟩; have ha2 := (ha.alloc _).up hu; have hU2 := (hU.alloc _).trans hu; clear hu ha hU; have ha := ha2; have hU := hU2; clear ha2 hU2) | (refine wpList_store_at rfl 91 _ _ rfl w.heap.size _ rfl rfl 91 _ (ha.alloc _) (by exact Tryz.info91) (by rfl) (by simp [Value.oneCell']) w (hU.alloc _) (Nat.le_refl _) ?_; intro ws hat hk hs hu1))
    exact bodyPost_ret (results_cell_tmp_at Tryz.results111 _ _ w.heap.size 91 _ _ (by rfl) (by assumption) Tryz.underlying91 rfl (by exact Tryz.info91) _ (by rfl)) rfl ⟨rfl, by assumption⟩
  have HC6 := Lib.hid (got_none (of6_ok r) h6)
  rw [Option.none_or]
  rcases h7 : findR R7 r with _ | p
  rotate_left
  · have HC7 := Lib.hid (got_some (of7_ok r) h7)
    show Calls _ _ _ _ fun e w' => e = .returned (.tuple #[.agg #[.int .i64 p.bidi, .int .i64 p.cl, .int .i64 p.br, .int .i64 p.sc, .int .i64 p.jn, .int .i64 p.wd, .int .i32 p.mi, .int .i32 p.pa, .bool p.op], .bool true]) ∧ Up w w'
    clear h0 h1 h2 h3 h4 h5 h6 h7
    go_enter Tryz.func111, Tryz.ntmps111
    go_wp2_with (first | (go_at_call 128; refine (HC0.out _).mono ?_; rintro e w1 ⟨rfl, hu⟩; have ha := (at_new _ _ _).up hu; have hU : Up w w1 := ((Up.refl w).alloc _).trans hu; clear hu) | (go_at_call 129; refine (HC1.out _).mono ?_; rintro e w2 ⟨rfl, hu⟩; have ha2 := (ha.alloc _).up hu; have hU2 := (hU.alloc _).trans hu; clear hu ha hU; have ha := ha2; have hU := hU2; clear ha2 hU2) | (go_at_call 130; refine (HC2.out _).mono ?_; rintro e w3 ⟨rfl, hu⟩; have ha2 := (ha.alloc _).up hu; have hU2 := (hU.alloc _).trans hu; clear hu ha hU; have ha := ha2; have hU := hU2; clear ha2 hU2) | (go_at_call 131; refine (HC3.out _).mono ?_; rintro e w4 ⟨rfl, hu⟩; have ha2 := (ha.alloc _).up hu; have hU2 := (hU.alloc _).trans hu; clear hu ha hU; have ha := ha2; have hU := hU2; clear ha2 hU2) | (go_at_call 132; refine (HC4.out _).mono ?_; rintro e w5 ⟨rfl, hu⟩; have ha2 := (ha.alloc _).up hu; have hU2 := (hU.alloc _).trans hu; clear hu ha hU; have ha := ha2; have hU := hU2; clear ha2 hU2) | (go_at_call 133; refine (HC5.out _).mono ?_; rintro e w6 ⟨rfl, hu⟩; have ha2 := (ha.alloc _).up hu; have hU2 := (hU.alloc _).trans hu; clear hu ha hU; have ha := ha2; have hU := hU2; clear ha2 hU2) | (go_at_call 134; refine (HC6.out _).mono ?_; rintro e w7 ⟨rfl, hu⟩; have ha2 := (ha.alloc _).up hu; have hU2 := (hU.alloc _).trans hu; clear hu ha hU; have ha := ha2; have hU := hU2; clear ha2 hU2) | (go_at_call 135; refine (HC7.out _).mono ?_; rintro e w8 ⟨rfl, hu⟩; have ha2 := (ha.alloc _).up hu; have hU2 := (hU.alloc _).trans hu; clear hu ha hU; have ha := ha2; have hU := hU2; clear ha2 hU2) | (refine wpList_store_at rfl 91 _ _ rfl w.heap.size _ rfl rfl 91 _ (ha.alloc _) (by exact Tryz.info91) (by rfl) (by simp [Value.oneCell']) w (hU.alloc _) (Nat.le_refl _) ?_; intro ws hat hk hs hu1))
    exact bodyPost_ret (results_cell_tmp_at Tryz.results111 _ _ w.heap.size 91 _ _ (by rfl) (by assumption) Tryz.underlying91 rfl (by exact Tryz.info91) _ (by rfl)) rfl ⟨rfl, by assumption⟩
  have HC7 := Lib.hid (got_none (of7_ok r) h7)
  show Calls _ _ _ _ fun e w' => e = .returned (.tuple #[.agg #[.int .i64 1, .int .i64 0, .int .i64 0, .int .i64 0, .int .i64 0, .int .i64 0, .int .i32 0, .int .i32 0, .bool false], .bool false]) ∧ Up w w'
  clear h0 h1 h2 h3 h4 h5 h6 h7
  go_enter Tryz.func111, Tryz.ntmps111
  go_wp2_with (first | (go_at_call 128; refine (HC0.out _).mono ?_; rintro e w1 ⟨rfl, hu⟩; have ha := (at_new _ _ _).up hu; have hU : Up w w1 := ((Up.refl w).alloc _).trans hu; clear hu) | (go_at_call 129; refine (HC1.out _).mono ?_; rintro e w2 ⟨rfl, hu⟩; have ha2 := (ha.alloc _).up hu; have hU2 := (hU.alloc _).trans hu; clear hu ha hU; have ha := ha2; have hU := hU2; clear ha2 hU2) | (go_at_call 130; refine (HC2.out _).mono ?_; rintro e w3 ⟨rfl, hu⟩; have ha2 := (ha.alloc _).up hu; have hU2 := (hU.alloc _).trans hu; clear hu ha hU; have ha := ha2; have hU := hU2; clear ha2 hU2) | (go_at_call 131; refine (HC3.out _).mono ?_; rintro e w4 ⟨rfl, hu⟩; have ha2 := (ha.alloc _).up hu; have hU2 := (hU.alloc _).trans hu; clear hu ha hU; have ha := ha2; have hU := hU2; clear ha2 hU2) | (go_at_call 132; refine (HC4.out _).mono ?_; rintro e w5 ⟨rfl, hu⟩; have ha2 := (ha.alloc _).up hu; have hU2 := (hU.alloc _).trans hu; clear hu ha hU; have ha := ha2; have hU := hU2; clear ha2 hU2) | (go_at_call 133; refine (HC5.out _).mono ?_; rintro e w6 ⟨rfl, hu⟩; have ha2 := (ha.alloc _).up hu; have hU2 := (hU.alloc _).trans hu; clear hu ha hU; have ha := ha2; have hU := hU2; clear ha2 hU2) | (go_at_call 134; refine (HC6.out _).mono ?_; rintro e w7 ⟨rfl, hu⟩; have ha2 := (ha.alloc _).up hu; have hU2 := (hU.alloc _).trans hu; clear hu ha hU; have ha := ha2; have hU := hU2; clear ha2 hU2) | (go_at_call 135; refine (HC7.out _).mono ?_; rintro e w8 ⟨rfl, hu⟩; have ha2 := (ha.alloc _).up hu; have hU2 := (hU.alloc _).trans hu; clear hu ha hU; have ha := ha2; have hU := hU2; clear ha2 hU2) | (go_at_call 113; refine (rest_x _).mono ?_; rintro e wr ⟨rfl, hu⟩; have ha2 := (ha.alloc _).up hu; have hU2 := (hU.alloc _).trans hu; clear hu ha hU) | (refine wpList_store_at rfl 91 _ _ rfl w.heap.size _ rfl rfl 91 _ ha2 (by exact Tryz.info91) (by rfl) (by simp [Value.oneCell']) w hU2 (Nat.le_refl _) ?_; intro ws hat hk hs hu1))
  exact bodyPost_ret (results_cell_tmp_at Tryz.results111 _ _ w.heap.size 91 _ _ (by rfl) (by assumption) Tryz.underlying91 rfl (by exact Tryz.info91) _ (by rfl)) rfl ⟨rfl, by assumption⟩

set_option maxHeartbeats 4000000 in
theorem part1_ok (r : Int) (w : World) : Calls Tryz.prog 112 #[.int .i32 r] w fun e w' => e = .returned (fndV (findR P1 r)) ∧ Up w w' := by
  unfold P1
  rw [findR_append]; rcases h0 : findR R8 r with _ | p
  rotate_left
  · have HC0 := Lib.hid (got_some (of8_ok r) h0)
    show Calls _ _ _ _ fun e w' => e = .returned (.tuple #[.agg #[.int .i64 p.bidi, .int .i64 p.cl, .int .i64 p.br, .int .i64 p.sc, .int .i64 p.jn, .int .i64 p.wd, .int .i32 p.mi, .int .i32 p.pa, .bool p.op], .bool true]) ∧ Up w w'
    clear h0
    go_enter Tryz.func112, Tryz.ntmps112
    go_wp2_with (first | (go_at_call 136; refine (HC0.out _).mono ?_; rintro e w1 ⟨rfl, hu⟩; have ha := (at_new _ _ _).up hu; have hU : Up w w1 := ((Up.refl w).alloc _).trans hu; clear hu) | (refine wpList_store_at rfl 91 _ _ rfl w.heap.size _ rfl rfl 91 _ (ha.alloc _) (by exact Tryz.info91) (by rfl) (by simp [Value.oneCell']) w (hU.alloc _) (Nat.le_refl _) ?_; intro ws hat hk hs hu1))
    exact bodyPost_ret (results_cell_tmp_at Tryz.results112 _ _ w.heap.size 91 _ _ (by rfl) (by assumption) Tryz.underlying91 rfl (by exact Tryz.info91) _ (by rfl)) rfl ⟨rfl, by assumption⟩
  have HC0 := Lib.hid (got_none (of8_ok r) h0)
  rw [Option.none_or]
  rw [findR_append]; rcases h1 : findR R9 r with _ | p
  rotate_left
  · have HC1 := Lib.hid (got_some (of9_ok r) h1)
    show Calls _ _ _ _ fun e w' => e = .returned (.tuple #[.agg #[.int .i64 p.bidi, .int .i64 p.cl, .int .i64 p.br, .int .i64 p.sc, .int .i64 p.jn, .int .i64 p.wd, .int .i32 p.mi, .int .i32 p.pa, .bool p.op], .bool true]) ∧ Up w w'
    clear h0 h1
    go_enter Tryz.func112, Tryz.ntmps112
    go_wp2_with (first | (go_at_call 136; refine (HC0.out _).mono ?_; rintro e w1 ⟨rfl, hu⟩; have ha := (at_new _ _ _).up hu; have hU : Up w w1 := ((Up.refl w).alloc _).trans hu; clear hu) | (go_at_call 137; refine (HC1.out _).mono ?_; rintro e w2 ⟨rfl, hu⟩; have ha2 := (ha.alloc _).up hu; have hU2 := (hU.alloc _).trans hu; clear hu ha hU; have ha := ha2; have hU := hU2; clear ha2 hU2) | (refine wpList_store_at rfl 91 _ _ rfl w.heap.size _ rfl rfl 91 _ (ha.alloc _) (by exact Tryz.info91) (by rfl) (by simp [Value.oneCell']) w (hU.alloc _) (Nat.le_refl _) ?_; intro ws hat hk hs hu1))
    exact bodyPost_ret (results_cell_tmp_at Tryz.results112 _ _ w.heap.size 91 _ _ (by rfl) (by assumption) Tryz.underlying91 rfl (by exact Tryz.info91) _ (by rfl)) rfl ⟨rfl, by assumption⟩
  have HC1 := Lib.hid (got_none (of9_ok r) h1)
  rw [Option.none_or]
  rw [findR_append]; rcases h2 : findR R10 r with _ | p
  rotate_left
  · have HC2 := Lib.hid (got_some (of10_ok r) h2)
    show Calls _ _ _ _ fun e w' => e = .returned (.tuple #[.agg #[.int .i64 p.bidi, .int .i64 p.cl, .int .i64 p.br, .int .i64 p.sc, .int .i64 p.jn, .int .i64 p.wd, .int .i32 p.mi, .int .i32 p.pa, .bool p.op], .bool true]) ∧ Up w w'
    clear h0 h1 h2
    go_enter Tryz.func112, Tryz.ntmps112
    go_wp2_with (first | (go_at_call 136; refine (HC0.out _).mono ?_; rintro e w1 ⟨rfl, hu⟩; have ha := (at_new _ _ _).up hu; have hU : Up w w1 := ((Up.refl w).alloc _).trans hu; clear hu) | (go_at_call 137; refine (HC1.out _).mono ?_; rintro e w2 ⟨rfl, hu⟩; have ha2 := (ha.alloc _).up hu; have hU2 := (hU.alloc _).trans hu; clear hu ha hU; have ha := ha2; have hU := hU2; clear ha2 hU2) | (go_at_call 138; refine (HC2.out _).mono ?_; rintro e w3 ⟨rfl, hu⟩; have ha2 := (ha.alloc _).up hu; have hU2 := (hU.alloc _).trans hu; clear hu ha hU; have ha := ha2; have hU := hU2; clear ha2 hU2) | (refine wpList_store_at rfl 91 _ _ rfl w.heap.size _ rfl rfl 91 _ (ha.alloc _) (by exact Tryz.info91) (by rfl) (by simp [Value.oneCell']) w (hU.alloc _) (Nat.le_refl _) ?_; intro ws hat hk hs hu1))
    exact bodyPost_ret (results_cell_tmp_at Tryz.results112 _ _ w.heap.size 91 _ _ (by rfl) (by assumption) Tryz.underlying91 rfl (by exact Tryz.info91) _ (by rfl)) rfl ⟨rfl, by assumption⟩
  have HC2 := Lib.hid (got_none (of10_ok r) h2)
  rw [Option.none_or]
  rw [findR_append]; rcases h3 : findR R11 r with _ | p
  rotate_left
  · have HC3 := Lib.hid (got_some (of11_ok r) h3)
    show Calls _ _ _ _ fun e w' => e = .returned (.tuple #[.agg #[.int .i64 p.bidi, .int .i64 p.cl, .int .i64 p.br, .int .i64 p.sc, .int .i64 p.jn, .int .i64 p.wd, .int .i32 p.mi, .int .i32 p.pa, .bool p.op], .bool true]) ∧ Up w w'
    clear h0 h1 h2 h3
    go_enter Tryz.func112, Tryz.ntmps112
    go_wp2_with (first | (go_at_call 136; refine (HC0.out _).mono ?_; rintro e w1 ⟨rfl, hu⟩; have ha := (at_new _ _ _).up hu; have hU : Up w w1 := ((Up.refl w).alloc _).trans hu; clear hu) | (go_at_call 137; refine (HC1.out _).mono ?_; rintro e w2 ⟨rfl, hu⟩; have ha2 := (ha.alloc _).up hu; have hU2 := (hU.alloc _).trans hu; clear hu ha hU; have ha := ha2; have hU := hU2; clear ha2 hU2) | (go_at_call 138; refine (HC2.out _).mono ?_; rintro e w3 ⟨rfl, hu⟩; have ha2 := (ha.alloc _).up hu; have hU2 := (hU.alloc _).trans hu; clear hu ha hU; have ha := ha2; have hU := hU2; clear ha2 hU2) | (go_at_call 139; refine (HC3.out _).mono ?_; rintro e w4 ⟨rfl, hu⟩; have ha2 := (ha.alloc _).up hu; have hU2 := (hU.alloc _).trans hu; clear hu ha hU; have ha := ha2; have hU := hU2; clear ha2 hU2) | (refine wpList_store_at rfl 91 _ _ rfl w.heap.size _ rfl rfl 91 _ (ha.alloc _) (by exact Tryz.info91) (by rfl) (by simp [Value.oneCell']) w (hU.alloc _) (Nat.le_refl _) ?_; intro ws hat hk hs hu1))
    exact bodyPost_ret (results_cell_tmp_at Tryz.results112 _ _ w.heap.size 91 _ _ (by rfl) (by assumption) Tryz.underlying91 rfl (by exact Tryz.info91) _ (by rfl)) rfl ⟨rfl, by assumption⟩
  have HC3 := Lib.hid (got_none (of11_ok r) h3)
  rw [Option.none_or]
  rw [findR_append]; rcases h4 : findR R12 r with _ | p
  rotate_left
  · have HC4 := Lib.hid (got_some (of12_ok r) h4)
    show Calls _ _ _ _ fun e w' => e = .returned (.tuple #[.agg #[.int .i64 p.bidi, .int .i64 p.cl, .int .i64 p.br, .int .i64 p.sc, .int .i64 p.jn, .int .i64 p.wd, .int .i32 p.mi, .int .i32 p.pa, .bool p.op], .bool true]) ∧ Up w w'
    clear h0 h1 h2 h3 h4
    go_enter Tryz.func112, Tryz.ntmps112
    go_wp2_with (first | (go_at_call 136; refine (HC0.out _).mono ?_; rintro e w1 ⟨rfl, hu⟩; have ha := (at_new _ _ _).up hu; have hU : Up w w1 := ((Up.refl w).alloc _).trans hu; clear hu) | (go_at_call 137; refine (HC1.out _).mono ?_; rintro e w2 ⟨rfl, hu⟩; have ha2 := (ha.alloc _).up hu; have hU2 := (hU.alloc _).trans hu; clear hu ha hU; have ha := ha2; have hU := hU2; clear ha2 hU2) | (go_at_call 138; refine (HC2.out _).mono ?_; rintro e w3 ⟨rfl, hu⟩; have ha2 := (ha.alloc _).up hu; have hU2 := (hU.alloc _).trans hu; clear hu ha hU; have ha := ha2; have hU := hU2; clear ha2 hU2) | (go_at_call 139; refine (HC3.out _).mono ?_; rintro e w4 ⟨rfl, hu⟩; have ha2 := (ha.alloc _).up hu; have hU2 := (hU.alloc _).trans hu; clear hu ha hU; have ha := ha2; have hU := hU2; clear ha2 hU2) | (go_at_call 140; refine (HC4.out _).mono ?_; rintro e w5 ⟨rfl, hu⟩; have ha2 := (ha.alloc _).up hu; have hU2 := (hU.alloc _).trans hu; clear hu ha hU; have ha := ha2; have hU := hU2; clear ha2 hU2) | (refine wpList_store_at rfl 91 _ _ rfl w.heap.size _ rfl rfl 91 _ (ha.alloc _) (by exact Tryz.info91) (by rfl) (by simp [Value.oneCell']) w (hU.alloc _) (Nat.le_refl _) ?_; intro ws hat hk hs hu1))
    exact bodyPost_ret (results_cell_tmp_at Tryz.results112 _ _ w.heap.size 91 _ _ (by rfl) (by assumption) Tryz.underlying91 rfl (by exact Tryz.info91) _ (by rfl)) rfl ⟨rfl, by assumption⟩
  have HC4 := Lib.hid (got_none (of12_ok r) h4)
  rw [Option.none_or]
  rw [findR_append]; rcases h5 : findR R13 r with _ | p
  rotate_left
  · have HC5 := Lib.hid (got_some (of13_ok r) h5)
    show Calls _ _ _ _ fun e w' => e = .returned (.tuple #[.agg #[.int .i64 p.bidi, .int .i64 p.cl, .int .i64 p.br, .int .i64 p.sc, .int .i64 p.jn, .int .i64 p.wd, .int .i32 p.mi, .int .i32 p.pa, .bool p.op], .bool true]) ∧ Up w w'
    clear h0 h1 h2 h3 h4 h5
    go_enter Tryz.func112, Tryz.ntmps112
    go_wp2_with (first | (go_at_call 136; refine (HC0.out _).mono ?_; rintro e w1 ⟨rfl, hu⟩; have ha := (at_new _ _ _).up hu; have hU : Up w w1 := ((Up.refl w).alloc _).trans hu; clear hu) | (go_at_call 137; refine (HC1.out _).mono ?_; rintro e w2 ⟨rfl, hu⟩; have ha2 := (ha.alloc _).up hu; have hU2 := (hU.alloc _).trans hu; clear hu ha hU; have ha := ha2; have hU := hU2; clear ha2 hU2) | (go_at_call 138; refine (HC2.out _).mono ?_; rintro e w3 ⟨rfl, hu⟩; have ha2 := (ha.alloc _).up hu; have hU2 := (hU.alloc _).trans hu; clear hu ha hU; have ha := ha2; have hU := hU2; clear ha2 hU2) | (go_at_call 139; refine (HC3.out _).mono ?_; rintro e w4 ⟨rfl, hu⟩; have ha2 := (ha.alloc _).up hu; have hU2 := (hU.alloc _).trans hu; clear hu ha hU; have ha := ha2; have hU := hU2; clear ha2 hU2) | (go_at_call 140; refine (HC4.out _).mono ?_; rintro e w5 ⟨rfl, hu⟩; have ha2 := (ha.alloc _).up hu; have hU2 := (hU.alloc _).trans hu; clear hu ha hU; have ha := ha2; have hU := hU2; clear ha2 hU2) | (go_at_call 141; refine (HC5.out _).mono ?_; rintro e w6 ⟨rfl, hu⟩; have ha2 := (ha.alloc _).up hu; have hU2 := (hU.alloc _).trans hu; clear hu ha hU; have ha := ha2; have hU := hU2; clear ha2 hU2) | (refine wpList_store_at rfl 91 _ _ rfl w.heap.size _ rfl rfl 91 _ (ha.alloc _) (by exact Tryz.info91) (by rfl) (by simp [Value.oneCell']) w (hU.alloc _) (Nat.le_refl _) ?_; intro ws hat hk hs hu1))
    exact bodyPost_ret (results_cell_tmp_at Tryz.results112 _ _ w.heap.size 91 _ _ (by rfl) (by assumption) Tryz.underlying91 rfl (by exact Tryz.info91) _ (by rfl)) rfl ⟨rfl, by assumption⟩
  have HC5 := Lib.hid (got_none (of13_ok r) h5)
  rw [Option.none_or]
  rcases h6 : findR R14 r with _ | p
  rotate_left
  · have HC6 := Lib.hid (got_some (of14_ok r) h6)
    show Calls _ _ _ _ fun e w' => e = .returned (.tuple #[.agg #[.int .i64 p.bidi, .int .i64 p.cl, .int .i64 p.br, .int .i64 p.sc, .int .i64 p.jn, .int .i64 p.wd, .int .i32 p.mi, .int .i32 p.pa, .bool p.op], .bool true]) ∧ Up w w'
    clear h0 h1 h2 h3 h4 h5 h6
    go_enter Tryz.func112, Tryz.ntmps112
    go_wp2_with (first | (go_at_call 136; refine (HC0.out _).mono ?_; rintro e w1 ⟨rfl, hu⟩; have ha := (at_new _ _ _).up hu; have hU : Up w w1 := ((Up.refl w).alloc _).trans hu; clear hu) | (go_at_call 137; refine (HC1.out _).mono ?_; rintro e w2 ⟨rfl, hu⟩; have ha2 := (ha.alloc _).up hu; have hU2 := (hU.alloc _).trans hu; clear hu ha hU; have ha := ha2; have hU := hU2; clear ha2 hU2) | (go_at_call 138; refine (HC2.out _).mono ?_; rintro e w3 ⟨rfl, hu⟩; have ha2 := (ha.alloc _).up hu; have hU2 := (hU.alloc _).trans hu; clear hu ha hU; have ha := ha2; have hU := hU2; clear ha2 hU2) | (go_at_call 139; refine (HC3.out _).mono ?_; rintro e w4 ⟨rfl, hu⟩; have ha2 := (ha.alloc _).up hu; have hU2 := (hU.alloc _).trans hu; clear hu ha hU; have ha := ha2; have hU := hU2; clear ha2 hU2) | (go_at_call 140; refine (HC4.out _).mono ?_; rintro e w5 ⟨rfl, hu⟩; have ha2 := (ha.alloc _).up hu; have hU2 := (hU.alloc _).trans hu; clear hu ha hU; have ha := ha2; have hU := hU2; clear ha2 hU2) | (go_at_call 141; refine (HC5.out _).mono ?_; rintro e w6 ⟨rfl, hu⟩; have ha2 := (ha.alloc _).up hu; have hU2 := (hU.alloc _).trans hu; clear hu ha hU; have ha := ha2; have hU := hU2; clear ha2 hU2) | (go_at_call 142; refine (HC6.out _).mono ?_; rintro e w7 ⟨rfl, hu⟩; have ha2 := (ha.alloc _).up hu; have hU2 := (hU.alloc _).trans hu; clear hu ha hU; have ha := ha2; have hU := hU2; clear ha2 hU2) | (refine wpList_store_at rfl 91 _ _ rfl w.heap.size _ rfl rfl 91 _ (ha.alloc _) (by exact Tryz.info91) (by rfl) (by simp [Value.oneCell']) w (hU.alloc _) (Nat.le_refl _) ?_; intro ws hat hk hs hu1))
    exact bodyPost_ret (results_cell_tmp_at Tryz.results112 _ _ w.heap.size 91 _ _ (by rfl) (by assumption) Tryz.underlying91 rfl (by exact Tryz.info91) _ (by rfl)) rfl ⟨rfl, by assumption⟩
  have HC6 := Lib.hid (got_none (of14_ok r) h6)
  show Calls _ _ _ _ fun e w' => e = .returned (.tuple #[.agg #[.int .i64 1, .int .i64 0, .int .i64 0, .int .i64 0, .int .i64 0, .int .i64 0, .int .i32 0, .int .i32 0, .bool false], .bool false]) ∧ Up w w'
  clear h0 h1 h2 h3 h4 h5 h6
  go_enter Tryz.func112, Tryz.ntmps112
  go_wp2_with (first | (go_at_call 136; refine (HC0.out _).mono ?_; rintro e w1 ⟨rfl, hu⟩; have ha := (at_new _ _ _).up hu; have hU : Up w w1 := ((Up.refl w).alloc _).trans hu; clear hu) | (go_at_call 137; refine (HC1.out _).mono ?_; rintro e w2 ⟨rfl, hu⟩; have ha2 := (ha.alloc _).up hu; have hU2 := (hU.alloc _).trans hu; clear hu ha hU; have ha := ha2; have hU := hU2; clear ha2 hU2) | (go_at_call 138; refine (HC2.out _).mono ?_; rintro e w3 ⟨rfl, hu⟩; have ha2 := (ha.alloc _).up hu; have hU2 := (hU.alloc _).trans hu; clear hu ha hU; have ha := ha2; have hU := hU2; clear ha2 hU2) | (go_at_call 139; refine (HC3.out _).mono ?_; rintro e w4 ⟨rfl, hu⟩; have ha2 := (ha.alloc _).up hu; have hU2 := (hU.alloc _).trans hu; clear hu ha hU; have ha := ha2; have hU := hU2; clear ha2 hU2) | (go_at_call 140; refine (HC4.out _).mono ?_; rintro e w5 ⟨rfl, hu⟩; have ha2 := (ha.alloc _).up hu; have hU2 := (hU.alloc _).trans hu; clear hu ha hU; have ha := ha2; have hU := hU2; clear ha2 hU2) | (go_at_call 141; refine (HC5.out _).mono ?_; rintro e w6 ⟨rfl, hu⟩; have ha2 := (ha.alloc _).up hu; have hU2 := (hU.alloc _).trans hu; clear hu ha hU; have ha := ha2; have hU := hU2; clear ha2 hU2) | (go_at_call 142; refine (HC6.out _).mono ?_; rintro e w7 ⟨rfl, hu⟩; have ha2 := (ha.alloc _).up hu; have hU2 := (hU.alloc _).trans hu; clear hu ha hU; have ha := ha2; have hU := hU2; clear ha2 hU2) | (go_at_call 113; refine (rest_x _).mono ?_; rintro e wr ⟨rfl, hu⟩; have ha2 := (ha.alloc _).up hu; have hU2 := (hU.alloc _).trans hu; clear hu ha hU) | (refine wpList_store_at rfl 91 _ _ rfl w.heap.size _ rfl rfl 91 _ ha2 (by exact Tryz.info91) (by rfl) (by simp [Value.oneCell']) w hU2 (Nat.le_refl _) ?_; intro ws hat hk hs hu1))
  exact bodyPost_ret (results_cell_tmp_at Tryz.results112 _ _ w.heap.size 91 _ _ (by rfl) (by assumption) Tryz.underlying91 rfl (by exact Tryz.info91) _ (by rfl)) rfl ⟨rfl, by assumption⟩
end Go.Proofs.YtnpcakeagpbgiaaGreat
