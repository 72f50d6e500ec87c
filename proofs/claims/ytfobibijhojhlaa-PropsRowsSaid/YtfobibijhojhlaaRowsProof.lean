/-
  For every int i the statement PropsRows returns true. No condition.
-/
import Derived.Test.YtfobibijhojhlaaHas
import Derived.Test.YtfobibijhojhlaaAlive
import Derived.Test.YtfobibijhojhlaaMir
import Derived.Test.YtfobibijhojhlaaRow
import Derived.Shelf.SlSortCmp.QuietGrown
import Derived.BigQuiet
import Derived.Deep.QuietTactic
import Derived.WalkKit
import Derived.ProofKit
import Derived.OpenShut
set_option linter.unusedVariables false
namespace Go.Proofs.Ytfobibijhojhlaa.propsRows
open Go.ChangeShapes Go.WideShapes Go.ChangeAt Go.RowKit Go.Proofs.Ytfobibijhojhlaa
theorem own : ownKnob Try.prog.godebug = none := by kernel_rfl
theorem laidOut : laidOutB Try.prog = true := by kernel_rfl

open Go.Sort
theorem grown_cell {W : World} {g : Nat} {t : TypeId} {cs : Array Value} (h : At W g t cs) (j : Nat) (v : Value) (hv : cs[j]? = some v) : ∀ n os, (grow (W.drewN n) os).cell? ⟨g, j, none⟩ = some v := fun n os => cell_grown h.lt (h.cell j v hv) n os
theorem up_grown {f : Nat} {args : Array Value} {v : Value} (h : ∀ w, Calls Try.prog f args w fun e w' => e = .returned v ∧ Up w w') : ∀ w, Calls Try.prog f args w fun e w' => e = .returned v ∧ ∃ q os', w' = grow (w.drewN q) os' :=
  fun w => (h w).mono fun _ _ ⟨he, hu⟩ => ⟨he, hu.grow⟩
theorem two_new (u : World) (c c2 : Array Value) (t t2 : TypeId) : At ((u.alloc (.cells c t)).alloc (.cells c2 t2)) u.heap.size t c ∧ At ((u.alloc (.cells c t)).alloc (.cells c2 t2)) (u.heap.size + 1) t2 c2 := by
  refine ⟨(at_new _ _ _).alloc _, ?_⟩
  have := at_new (u.alloc (.cells c t)) c2 t2
  rwa [World.size_alloc] at this
theorem rows_grown (w : World) : Calls Try.prog 17 #[] w fun e w' => e = .returned (.int .i64 260) ∧ ∃ q os', w' = grow (w.drewN q) os' :=
  (rows_ok w).mono fun _ _ ⟨he, hw⟩ => ⟨he, 0, #[], by rw [← hw, grow_empty]; rfl⟩
set_option maxHeartbeats 4000000 in
theorem walk (a0 : Int) (w : World) (w0 : (Lit.int .i64 a0).wf = true) :
    Calls Try.prog 5 #[.int .i64 a0] w fun e w' => e = .returned (.bool true) ∧ Below w.heap.size w w' := by
  by_cases hi : 0 ≤ a0 ∧ a0 < 260
  · obtain ⟨h0, h1⟩ := hi
    have mixed : Try.prog.follows .mixedOrders = true := by kernel_rfl
    obtain ⟨x, hx⟩ : ∃ x, rowP a0 = x := ⟨_, rfl⟩
    obtain ⟨y, hy⟩ : ∃ y, rowP (a0 + 1) = y := ⟨_, rfl⟩
    obtain ⟨hft, hnx⟩ := row_fwd a0 ⟨h0, h1⟩
    obtain ⟨hlast, hfirst⟩ := row_last a0 ⟨h0, h1⟩
    rw [hx] at hft hnx hlast hfirst
    rw [hy] at hnx
    obtain ⟨f, t, b, c, k, s, j, wd, mi, pa, op⟩ := x
    obtain ⟨yf, yt, yb, yc, yk, ys, yj, yw, ym, yp, yo⟩ := y
    simp only [] at hft hnx hlast hfirst
    have c1 := fun w => rowR_ok a0 _ hx w
    have c5 := fun w => rowR_ok (a0 + 1) _ hy w
    have H1 := Lib.hid (show ∀ w, Calls Try.prog 16 #[.int .i64 a0] w fun e w' => e = .returned (.tuple #[.agg #[.int .i32 f, .int .i32 t], .agg #[.int .i64 b, .int .i64 c, .int .i64 k, .int .i64 s, .int .i64 j, .int .i64 wd, .int .i32 mi, .int .i32 pa, .bool op]]) ∧ Up w w' from c1)
    have H5 := Lib.hid (show ∀ w, Calls Try.prog 16 #[.int .i64 (a0 + 1)] w fun e w' => e = .returned (.tuple #[.agg #[.int .i32 yf, .int .i32 yt], .agg #[.int .i64 yb, .int .i64 yc, .int .i64 yk, .int .i64 ys, .int .i64 yj, .int .i64 yw, .int .i32 ym, .int .i32 yp, .bool yo]]) ∧ Up w w' from c5)
    have H6 := Lib.hid (show ∀ w, Calls Try.prog 8 #[.int .i32 t] w fun e w' => e = .returned (.agg #[.int .i64 b, .int .i64 c, .int .i64 k, .int .i64 s, .int .i64 j, .int .i64 wd, .int .i32 mi, .int .i32 pa, .bool op]) ∧ Up w w' from (fun w => rof_x t _ hlast w))
    have H3 := Lib.hid (up_grown alive_ok)
    have H7 := Lib.hid rows_grown
    clear c1 c5 hx hy w0 hlast
    by_cases hef : ofP f = ⟨b, c, k, s, j, wd, mi, pa, op⟩
    · clear hfirst
      by_cases hn : a0 + 1 < 260
      · have hyf := hnx hn
        clear hnx
        have H4 := Lib.hid (show ∀ w, Calls Try.prog 8 #[.int .i32 f] w fun e w' => e = .returned (.agg #[.int .i64 b, .int .i64 c, .int .i64 k, .int .i64 s, .int .i64 j, .int .i64 wd, .int .i32 mi, .int .i32 pa, .bool op]) ∧ ∃ q os', w' = grow (w.drewN q) os' from up_grown (fun w => rof_x f _ hef w))
        have hE := fun w => eq_run ⟨b, c, k, s, j, wd, mi, pa, op⟩ ⟨b, c, k, s, j, wd, mi, pa, op⟩ w
        simp only [decide_true] at hE
        clear hef
        go_enter Try.func5, Try.ntmps5
        go_wp2_with (first | (go_at_call 16; (with_reducible refine (H1.out _).mono ?_); rintro e u1 ⟨rfl, hu1⟩; obtain ⟨hA, hB⟩ := two_new u1 #[.int .i32 f, .int .i32 t] #[.int .i64 b, .int .i64 c, .int .i64 k, .int .i64 s, .int .i64 j, .int .i64 wd, .int .i32 mi, .int .i32 pa, .bool op] 34 23; have hUW := (hu1.alloc (.cells #[.int .i32 f, .int .i32 t] 34)).alloc (.cells #[.int .i64 b, .int .i64 c, .int .i64 k, .int .i64 s, .int .i64 j, .int .i64 wd, .int .i32 mi, .int .i32 pa, .bool op] 23)) | (go_at_call 16; (with_reducible refine (H5.out _).mono ?_); rintro e u2 ⟨rfl, hu2⟩; have hA2 := hA.up hu2; have hB2 := hB.up hu2; have hU2 := hUW.trans hu2; have x0 := hA2.cell 0 _ rfl; have x1 := hA2.cell 1 _ rfl; have lA := hA2.lt; have lB := hB2.lt; clear hA hB hUW hu2) | (go_at_call 8; (with_reducible refine (H6.out _).mono ?_); rintro e u3 ⟨rfl, hu3⟩; have hA3 := (((hA2.alloc _).alloc _).up hu3).alloc (.cells #[.int .i64 b, .int .i64 c, .int .i64 k, .int .i64 s, .int .i64 j, .int .i64 wd, .int .i32 mi, .int .i32 pa, .bool op] 23); have hB3 := (((hB2.alloc _).alloc _).up hu3).alloc (.cells #[.int .i64 b, .int .i64 c, .int .i64 k, .int .i64 s, .int .i64 j, .int .i64 wd, .int .i32 mi, .int .i32 pa, .bool op] 23); have hC3 := at_new u3 #[.int .i64 b, .int .i64 c, .int .i64 k, .int .i64 s, .int .i64 j, .int .i64 wd, .int .i32 mi, .int .i32 pa, .bool op] 23; have hU3 := (((hU2.alloc _).alloc _).trans hu3).alloc (.cells #[.int .i64 b, .int .i64 c, .int .i64 k, .int .i64 s, .int .i64 j, .int .i64 wd, .int .i32 mi, .int .i32 pa, .bool op] 23); clear hA2 hB2 hU2 hu3 x0 x1 lA lB))
        generalize (u3.alloc (.cells #[.int .i64 b, .int .i64 c, .int .i64 k, .int .i64 s, .int .i64 j, .int .i64 wd, .int .i32 mi, .int .i32 pa, .bool op] 23)) = W at hA3 hB3 hC3 hU3 ⊢
        have x0 := grown_cell hA3 0 _ rfl; have x1 := grown_cell hA3 1 _ rfl; have y0 := grown_cell hB3 0 _ rfl; have y1 := grown_cell hB3 1 _ rfl; have y2 := grown_cell hB3 2 _ rfl; have y3 := grown_cell hB3 3 _ rfl; have y4 := grown_cell hB3 4 _ rfl; have y5 := grown_cell hB3 5 _ rfl; have y6 := grown_cell hB3 6 _ rfl; have y7 := grown_cell hB3 7 _ rfl; have y8 := grown_cell hB3 8 _ rfl; have z0 := grown_cell hC3 0 _ rfl; have z1 := grown_cell hC3 1 _ rfl; have z2 := grown_cell hC3 2 _ rfl; have z3 := grown_cell hC3 3 _ rfl; have z4 := grown_cell hC3 4 _ rfl; have z5 := grown_cell hC3 5 _ rfl; have z6 := grown_cell hC3 6 _ rfl; have z7 := grown_cell hC3 7 _ rfl; have z8 := grown_cell hC3 8 _ rfl; clear hA3 hB3 hC3
        go_quiet_grown ((first | (go_at_call 8; exact Calls.grown_of (H4.out _)) | (go_at_call 17; exact Calls.grown_of (H7.out _)) | (go_at_call 12; exact Calls.grown_of (H3.out _))))
        go_wp2
        go_ret
        exact ⟨rfl, (hU3.trans (Up.of_grow _ _ _)).1⟩
      · clear hnx
        have H4 := Lib.hid (show ∀ w, Calls Try.prog 8 #[.int .i32 f] w fun e w' => e = .returned (.agg #[.int .i64 b, .int .i64 c, .int .i64 k, .int .i64 s, .int .i64 j, .int .i64 wd, .int .i32 mi, .int .i32 pa, .bool op]) ∧ ∃ q os', w' = grow (w.drewN q) os' from up_grown (fun w => rof_x f _ hef w))
        have hE := fun w => eq_run ⟨b, c, k, s, j, wd, mi, pa, op⟩ ⟨b, c, k, s, j, wd, mi, pa, op⟩ w
        simp only [decide_true] at hE
        clear hef
        go_enter Try.func5, Try.ntmps5
        go_wp2_with (first | (go_at_call 16; (with_reducible refine (H1.out _).mono ?_); rintro e u1 ⟨rfl, hu1⟩; obtain ⟨hA, hB⟩ := two_new u1 #[.int .i32 f, .int .i32 t] #[.int .i64 b, .int .i64 c, .int .i64 k, .int .i64 s, .int .i64 j, .int .i64 wd, .int .i32 mi, .int .i32 pa, .bool op] 34 23; have hUW := (hu1.alloc (.cells #[.int .i32 f, .int .i32 t] 34)).alloc (.cells #[.int .i64 b, .int .i64 c, .int .i64 k, .int .i64 s, .int .i64 j, .int .i64 wd, .int .i32 mi, .int .i32 pa, .bool op] 23)) | (go_at_call 16; (with_reducible refine (H5.out _).mono ?_); rintro e u2 ⟨rfl, hu2⟩; have hA2 := hA.up hu2; have hB2 := hB.up hu2; have hU2 := hUW.trans hu2; have x0 := hA2.cell 0 _ rfl; have x1 := hA2.cell 1 _ rfl; have lA := hA2.lt; have lB := hB2.lt; clear hA hB hUW hu2) | (go_at_call 8; (with_reducible refine (H6.out _).mono ?_); rintro e u3 ⟨rfl, hu3⟩; have hA3 := (((hA2.alloc _).alloc _).up hu3).alloc (.cells #[.int .i64 b, .int .i64 c, .int .i64 k, .int .i64 s, .int .i64 j, .int .i64 wd, .int .i32 mi, .int .i32 pa, .bool op] 23); have hB3 := (((hB2.alloc _).alloc _).up hu3).alloc (.cells #[.int .i64 b, .int .i64 c, .int .i64 k, .int .i64 s, .int .i64 j, .int .i64 wd, .int .i32 mi, .int .i32 pa, .bool op] 23); have hC3 := at_new u3 #[.int .i64 b, .int .i64 c, .int .i64 k, .int .i64 s, .int .i64 j, .int .i64 wd, .int .i32 mi, .int .i32 pa, .bool op] 23; have hU3 := (((hU2.alloc _).alloc _).trans hu3).alloc (.cells #[.int .i64 b, .int .i64 c, .int .i64 k, .int .i64 s, .int .i64 j, .int .i64 wd, .int .i32 mi, .int .i32 pa, .bool op] 23); clear hA2 hB2 hU2 hu3 x0 x1 lA lB))
        generalize (u3.alloc (.cells #[.int .i64 b, .int .i64 c, .int .i64 k, .int .i64 s, .int .i64 j, .int .i64 wd, .int .i32 mi, .int .i32 pa, .bool op] 23)) = W at hA3 hB3 hC3 hU3 ⊢
        have x0 := grown_cell hA3 0 _ rfl; have x1 := grown_cell hA3 1 _ rfl; have y0 := grown_cell hB3 0 _ rfl; have y1 := grown_cell hB3 1 _ rfl; have y2 := grown_cell hB3 2 _ rfl; have y3 := grown_cell hB3 3 _ rfl; have y4 := grown_cell hB3 4 _ rfl; have y5 := grown_cell hB3 5 _ rfl; have y6 := grown_cell hB3 6 _ rfl; have y7 := grown_cell hB3 7 _ rfl; have y8 := grown_cell hB3 8 _ rfl; have z0 := grown_cell hC3 0 _ rfl; have z1 := grown_cell hC3 1 _ rfl; have z2 := grown_cell hC3 2 _ rfl; have z3 := grown_cell hC3 3 _ rfl; have z4 := grown_cell hC3 4 _ rfl; have z5 := grown_cell hC3 5 _ rfl; have z6 := grown_cell hC3 6 _ rfl; have z7 := grown_cell hC3 7 _ rfl; have z8 := grown_cell hC3 8 _ rfl; clear hA3 hB3 hC3
        go_quiet_grown ((first | (go_at_call 8; exact Calls.grown_of (H4.out _)) | (go_at_call 17; exact Calls.grown_of (H7.out _)) | (go_at_call 12; exact Calls.grown_of (H3.out _))))
        go_wp2
        go_ret
        exact ⟨rfl, (hU3.trans (Up.of_grow _ _ _)).1⟩
    · have hf4 : f = 44032 := hfirst.resolve_left hef
      subst hf4
      clear hfirst
      by_cases hn : a0 + 1 < 260
      · have hyf := hnx hn
        clear hnx
        have H4 := Lib.hid (show ∀ w, Calls Try.prog 8 #[.int .i32 44032] w fun e w' => e = .returned (.agg #[.int .i64 1, .int .i64 12, .int .i64 33, .int .i64 9, .int .i64 0, .int .i64 1, .int .i32 0, .int .i32 0, .bool false]) ∧ ∃ q os', w' = grow (w.drewN q) os' from up_grown (fun w => rof_x 44032 _ of_44032 w))
        have hE := fun w => eq_run ⟨b, c, k, s, j, wd, mi, pa, op⟩ ⟨b, c, k, s, j, wd, mi, pa, op⟩ w
        simp only [decide_true] at hE
        have hE2 := fun w => eq_run ⟨1, 12, 33, 9, 0, 1, 0, 0, false⟩ ⟨b, c, k, s, j, wd, mi, pa, op⟩ w
        rw [decide_eq_false (by rw [← of_44032]; exact hef)] at hE2
        clear hef
        go_enter Try.func5, Try.ntmps5
        go_wp2_with (first | (go_at_call 16; (with_reducible refine (H1.out _).mono ?_); rintro e u1 ⟨rfl, hu1⟩; obtain ⟨hA, hB⟩ := two_new u1 #[.int .i32 44032, .int .i32 t] #[.int .i64 b, .int .i64 c, .int .i64 k, .int .i64 s, .int .i64 j, .int .i64 wd, .int .i32 mi, .int .i32 pa, .bool op] 34 23; have hUW := (hu1.alloc (.cells #[.int .i32 44032, .int .i32 t] 34)).alloc (.cells #[.int .i64 b, .int .i64 c, .int .i64 k, .int .i64 s, .int .i64 j, .int .i64 wd, .int .i32 mi, .int .i32 pa, .bool op] 23)) | (go_at_call 16; (with_reducible refine (H5.out _).mono ?_); rintro e u2 ⟨rfl, hu2⟩; have hA2 := hA.up hu2; have hB2 := hB.up hu2; have hU2 := hUW.trans hu2; have x0 := hA2.cell 0 _ rfl; have x1 := hA2.cell 1 _ rfl; have lA := hA2.lt; have lB := hB2.lt; clear hA hB hUW hu2) | (go_at_call 8; (with_reducible refine (H6.out _).mono ?_); rintro e u3 ⟨rfl, hu3⟩; have hA3 := (((hA2.alloc _).alloc _).up hu3).alloc (.cells #[.int .i64 b, .int .i64 c, .int .i64 k, .int .i64 s, .int .i64 j, .int .i64 wd, .int .i32 mi, .int .i32 pa, .bool op] 23); have hB3 := (((hB2.alloc _).alloc _).up hu3).alloc (.cells #[.int .i64 b, .int .i64 c, .int .i64 k, .int .i64 s, .int .i64 j, .int .i64 wd, .int .i32 mi, .int .i32 pa, .bool op] 23); have hC3 := at_new u3 #[.int .i64 b, .int .i64 c, .int .i64 k, .int .i64 s, .int .i64 j, .int .i64 wd, .int .i32 mi, .int .i32 pa, .bool op] 23; have hU3 := (((hU2.alloc _).alloc _).trans hu3).alloc (.cells #[.int .i64 b, .int .i64 c, .int .i64 k, .int .i64 s, .int .i64 j, .int .i64 wd, .int .i32 mi, .int .i32 pa, .bool op] 23); clear hA2 hB2 hU2 hu3 x0 x1 lA lB))
        generalize (u3.alloc (.cells #[.int .i64 b, .int .i64 c, .int .i64 k, .int .i64 s, .int .i64 j, .int .i64 wd, .int .i32 mi, .int .i32 pa, .bool op] 23)) = W at hA3 hB3 hC3 hU3 ⊢
        have x0 := grown_cell hA3 0 _ rfl; have x1 := grown_cell hA3 1 _ rfl; have y0 := grown_cell hB3 0 _ rfl; have y1 := grown_cell hB3 1 _ rfl; have y2 := grown_cell hB3 2 _ rfl; have y3 := grown_cell hB3 3 _ rfl; have y4 := grown_cell hB3 4 _ rfl; have y5 := grown_cell hB3 5 _ rfl; have y6 := grown_cell hB3 6 _ rfl; have y7 := grown_cell hB3 7 _ rfl; have y8 := grown_cell hB3 8 _ rfl; have z0 := grown_cell hC3 0 _ rfl; have z1 := grown_cell hC3 1 _ rfl; have z2 := grown_cell hC3 2 _ rfl; have z3 := grown_cell hC3 3 _ rfl; have z4 := grown_cell hC3 4 _ rfl; have z5 := grown_cell hC3 5 _ rfl; have z6 := grown_cell hC3 6 _ rfl; have z7 := grown_cell hC3 7 _ rfl; have z8 := grown_cell hC3 8 _ rfl; clear hA3 hB3 hC3
        go_quiet_grown ((first | (go_at_call 8; exact Calls.grown_of (H4.out _)) | (go_at_call 17; exact Calls.grown_of (H7.out _)) | (go_at_call 12; exact Calls.grown_of (H3.out _))))
        go_wp2
        go_ret
        exact ⟨rfl, (hU3.trans (Up.of_grow _ _ _)).1⟩
      · clear hnx
        have H4 := Lib.hid (show ∀ w, Calls Try.prog 8 #[.int .i32 44032] w fun e w' => e = .returned (.agg #[.int .i64 1, .int .i64 12, .int .i64 33, .int .i64 9, .int .i64 0, .int .i64 1, .int .i32 0, .int .i32 0, .bool false]) ∧ ∃ q os', w' = grow (w.drewN q) os' from up_grown (fun w => rof_x 44032 _ of_44032 w))
        have hE := fun w => eq_run ⟨b, c, k, s, j, wd, mi, pa, op⟩ ⟨b, c, k, s, j, wd, mi, pa, op⟩ w
        simp only [decide_true] at hE
        have hE2 := fun w => eq_run ⟨1, 12, 33, 9, 0, 1, 0, 0, false⟩ ⟨b, c, k, s, j, wd, mi, pa, op⟩ w
        rw [decide_eq_false (by rw [← of_44032]; exact hef)] at hE2
        clear hef
        go_enter Try.func5, Try.ntmps5
        go_wp2_with (first | (go_at_call 16; (with_reducible refine (H1.out _).mono ?_); rintro e u1 ⟨rfl, hu1⟩; obtain ⟨hA, hB⟩ := two_new u1 #[.int .i32 44032, .int .i32 t] #[.int .i64 b, .int .i64 c, .int .i64 k, .int .i64 s, .int .i64 j, .int .i64 wd, .int .i32 mi, .int .i32 pa, .bool op] 34 23; have hUW := (hu1.alloc (.cells #[.int .i32 44032, .int .i32 t] 34)).alloc (.cells #[.int .i64 b, .int .i64 c, .int .i64 k, .int .i64 s, .int .i64 j, .int .i64 wd, .int .i32 mi, .int .i32 pa, .bool op] 23)) | (go_at_call 16; (with_reducible refine (H5.out _).mono ?_); rintro e u2 ⟨rfl, hu2⟩; have hA2 := hA.up hu2; have hB2 := hB.up hu2; have hU2 := hUW.trans hu2; have x0 := hA2.cell 0 _ rfl; have x1 := hA2.cell 1 _ rfl; have lA := hA2.lt; have lB := hB2.lt; clear hA hB hUW hu2) | (go_at_call 8; (with_reducible refine (H6.out _).mono ?_); rintro e u3 ⟨rfl, hu3⟩; have hA3 := (((hA2.alloc _).alloc _).up hu3).alloc (.cells #[.int .i64 b, .int .i64 c, .int .i64 k, .int .i64 s, .int .i64 j, .int .i64 wd, .int .i32 mi, .int .i32 pa, .bool op] 23); have hB3 := (((hB2.alloc _).alloc _).up hu3).alloc (.cells #[.int .i64 b, .int .i64 c, .int .i64 k, .int .i64 s, .int .i64 j, .int .i64 wd, .int .i32 mi, .int .i32 pa, .bool op] 23); have hC3 := at_new u3 #[.int .i64 b, .int .i64 c, .int .i64 k, .int .i64 s, .int .i64 j, .int .i64 wd, .int .i32 mi, .int .i32 pa, .bool op] 23; have hU3 := (((hU2.alloc _).alloc _).trans hu3).alloc (.cells #[.int .i64 b, .int .i64 c, .int .i64 k, .int .i64 s, .int .i64 j, .int .i64 wd, .int .i32 mi, .int .i32 pa, .bool op] 23); clear hA2 hB2 hU2 hu3 x0 x1 lA lB))
        generalize (u3.alloc (.cells #[.int .i64 b, .int .i64 c, .int .i64 k, .int .i64 s, .int .i64 j, .int .i64 wd, .int .i32 mi, .int .i32 pa, .bool op] 23)) = W at hA3 hB3 hC3 hU3 ⊢
        have x0 := grown_cell hA3 0 _ rfl; have x1 := grown_cell hA3 1 _ rfl; have y0 := grown_cell hB3 0 _ rfl; have y1 := grown_cell hB3 1 _ rfl; have y2 := grown_cell hB3 2 _ rfl; have y3 := grown_cell hB3 3 _ rfl; have y4 := grown_cell hB3 4 _ rfl; have y5 := grown_cell hB3 5 _ rfl; have y6 := grown_cell hB3 6 _ rfl; have y7 := grown_cell hB3 7 _ rfl; have y8 := grown_cell hB3 8 _ rfl; have z0 := grown_cell hC3 0 _ rfl; have z1 := grown_cell hC3 1 _ rfl; have z2 := grown_cell hC3 2 _ rfl; have z3 := grown_cell hC3 3 _ rfl; have z4 := grown_cell hC3 4 _ rfl; have z5 := grown_cell hC3 5 _ rfl; have z6 := grown_cell hC3 6 _ rfl; have z7 := grown_cell hC3 7 _ rfl; have z8 := grown_cell hC3 8 _ rfl; clear hA3 hB3 hC3
        go_quiet_grown ((first | (go_at_call 8; exact Calls.grown_of (H4.out _)) | (go_at_call 17; exact Calls.grown_of (H7.out _)) | (go_at_call 12; exact Calls.grown_of (H3.out _))))
        go_wp2
        go_ret
        exact ⟨rfl, (hU3.trans (Up.of_grow _ _ _)).1⟩
  · have hr := row_out a0 (by omega)
    have mixed : Try.prog.follows .mixedOrders = true := by kernel_rfl
    have c1 := fun w => rowR_ok a0 Rw.none hr w
    have H1 := Lib.hid (show ∀ w, Calls Try.prog 16 #[.int .i64 a0] w fun e w' => e = .returned (.tuple #[.agg #[.int .i32 0, .int .i32 0], .agg #[.int .i64 1, .int .i64 0, .int .i64 0, .int .i64 0, .int .i64 0, .int .i64 0, .int .i32 0, .int .i32 0, .bool false]]) ∧ Up w w' from c1)
    have H2 := Lib.hid (show ∀ w, Calls Try.prog 8 #[.int .i32 1114111] w fun e w' => e = .returned (.agg #[.int .i64 1, .int .i64 0, .int .i64 0, .int .i64 0, .int .i64 0, .int .i64 0, .int .i32 0, .int .i32 0, .bool false]) ∧ ∃ q os', w' = grow (w.drewN q) os' from up_grown (fun w => rof_x 1114111 Pr.rest of_end w))
    have H3 := Lib.hid (up_grown alive_ok)
    clear c1 hr w0
    by_cases hneg : a0 < 0
    · clear hi
      go_enter Try.func5, Try.ntmps5
      go_wp2_with (first | (go_at_call 16; refine (H1.out _).mono ?_; rintro e u1 ⟨rfl, hu1⟩))
      obtain ⟨hA, hB⟩ := two_new u1 #[.int .i32 0, .int .i32 0] #[.int .i64 1, .int .i64 0, .int .i64 0, .int .i64 0, .int .i64 0, .int .i64 0, .int .i32 0, .int .i32 0, .bool false] 34 23
      have hUW : Up w ((u1.alloc (.cells #[.int .i32 0, .int .i32 0] 34)).alloc (.cells #[.int .i64 1, .int .i64 0, .int .i64 0, .int .i64 0, .int .i64 0, .int .i64 0, .int .i32 0, .int .i32 0, .bool false] 23)) := (hu1.alloc _).alloc _
      generalize ((u1.alloc (.cells #[.int .i32 0, .int .i32 0] 34)).alloc (.cells #[.int .i64 1, .int .i64 0, .int .i64 0, .int .i64 0, .int .i64 0, .int .i64 0, .int .i32 0, .int .i32 0, .bool false] 23)) = W at hA hB hUW ⊢
      have x0 := grown_cell hA 0 _ rfl; have x1 := grown_cell hA 1 _ rfl; have y0 := grown_cell hB 0 _ rfl; have y1 := grown_cell hB 1 _ rfl; have y2 := grown_cell hB 2 _ rfl; have y3 := grown_cell hB 3 _ rfl; have y4 := grown_cell hB 4 _ rfl; have y5 := grown_cell hB 5 _ rfl; have y6 := grown_cell hB 6 _ rfl; have y7 := grown_cell hB 7 _ rfl; have y8 := grown_cell hB 8 _ rfl; clear hA hB hu1
      go_quiet_grown ((first | (go_at_call 8; exact Calls.grown_of (H2.out _)) | (go_at_call 12; exact Calls.grown_of (H3.out _))))
      go_wp2
      go_ret
      exact ⟨rfl, (hUW.trans (Up.of_grow _ _ _)).1⟩
    · have hge : 260 ≤ a0 := by omega
      clear hi hneg
      go_enter Try.func5, Try.ntmps5
      go_wp2_with (first | (go_at_call 16; refine (H1.out _).mono ?_; rintro e u1 ⟨rfl, hu1⟩))
      obtain ⟨hA, hB⟩ := two_new u1 #[.int .i32 0, .int .i32 0] #[.int .i64 1, .int .i64 0, .int .i64 0, .int .i64 0, .int .i64 0, .int .i64 0, .int .i32 0, .int .i32 0, .bool false] 34 23
      have hUW : Up w ((u1.alloc (.cells #[.int .i32 0, .int .i32 0] 34)).alloc (.cells #[.int .i64 1, .int .i64 0, .int .i64 0, .int .i64 0, .int .i64 0, .int .i64 0, .int .i32 0, .int .i32 0, .bool false] 23)) := (hu1.alloc _).alloc _
      generalize ((u1.alloc (.cells #[.int .i32 0, .int .i32 0] 34)).alloc (.cells #[.int .i64 1, .int .i64 0, .int .i64 0, .int .i64 0, .int .i64 0, .int .i64 0, .int .i32 0, .int .i32 0, .bool false] 23)) = W at hA hB hUW ⊢
      have x0 := grown_cell hA 0 _ rfl; have x1 := grown_cell hA 1 _ rfl; have y0 := grown_cell hB 0 _ rfl; have y1 := grown_cell hB 1 _ rfl; have y2 := grown_cell hB 2 _ rfl; have y3 := grown_cell hB 3 _ rfl; have y4 := grown_cell hB 4 _ rfl; have y5 := grown_cell hB 5 _ rfl; have y6 := grown_cell hB 6 _ rfl; have y7 := grown_cell hB 7 _ rfl; have y8 := grown_cell hB 8 _ rfl; clear hA hB hu1
      go_quiet_grown ((first | (go_at_call 8; exact Calls.grown_of (H2.out _)) | (go_at_call 12; exact Calls.grown_of (H3.out _))))
      go_wp2
      go_ret
      exact ⟨rfl, (hUW.trans (Up.of_grow _ _ _)).1⟩

set_option maxRecDepth 100000 in
theorem lifted (os : Os) (started : os.Started) (H : Type) (enc : TypeId × Value → H) :
    ReturnsInHanded {} Try.checked os 5 .any (Rows.propsRowsSpec.pre6 enc Try.prog Try.f5 Rows.propsRowsRow.domain false) (Rows.propsRowsSpec.post enc Try.prog Try.f5 false true false false) := by
  refine returnsInHanded_of_change (C := Try.checked) own started (by kernel_rfl) Try.func5
    (ChangeSpec.witness6 (enc := enc) (C := Try.checked) false ⟨#[], #[.int .i64 0], []⟩ 8 (by kernel_rfl) (by kernel_rfl) (by kernel_rfl) (by kernel_rfl)) ?_
  intro W base args ds gs before hval0 hW hcnd _
  have hval : ∀ (j : Nat) t v, Try.f5.params[j]? = some t → args[j]? = some v → Value.okWide Try.prog W .any base t v := hval0
  have hW' := hW
  obtain ⟨p, q, hA0, hV, rfl, hfz, hnd⟩ := hW
  have hA : DataW.TrodAll enc Try.prog W 0 (fun _ => true) true Try.f5.params.toList args.toList ds p := hA0
  rw [Try.params5] at hA hval
  obtain ⟨v0, vs0, d0, ds0, p0, q0, hargs, rfl, rfl, h0, r0⟩ := trodAll_cons hA
  obtain ⟨rfl, rfl, rfl⟩ := trodAll_nil r0
  obtain rfl : args = #[v0] := by cases args; simp_all
  obtain ⟨rfl, rfl⟩ := trodVars_none hV
  clear hA0 hval0
  have hlt : ∀ x ∈ p0 ++ [], x.block < W.heap.size := fun x hx => by simpa using hW'.lt x (List.mem_append_left _ hx)
  have k0 := h0
  obtain ⟨a0, rfl, rfl, rfl, w0⟩ := open_int Try.underlying3 (hval 0 3 v0 rfl rfl) h0
  refine (walk a0 W w0).mono fun e W' ⟨he, hb⟩ => ?_
  subst he
  exact ⟨_, rfl, _, _, _, [], _, [], hW', (trodAll_cons_mk (shut_bool Try.underlying4 _) trodAll_mk0), (trodAll_cons_mk (Below.trod laidOut (by kernel_rfl) (of_decide_eq_true (by kernel_rfl)) k0 hb (fun x hx => hlt x (List.mem_append_left _ hx))) trodAll_mk0), rfl, hb.frame _, fun h => by cases h⟩

theorem over : Rows.propsRowsRow.holds Try.pinned (OpenSpec.ofChange Rows.propsRowsSpec) :=
  OpenClaim.holds_of_wide 5 Try.f5 rfl rfl rfl rfl rfl rfl rfl ⟨rfl, rfl, rfl, rfl, rfl⟩ rfl rfl rfl rfl rfl (by kernel_rfl) Try.func5 (by kernel_rfl)
    (of_decide_eq_true (by kernel_rfl)) (by unfold Func.isWrapper; first | (rw [if_pos (by decide +kernel)]; kernel_rfl) | (rw [if_neg (by decide +kernel)]; exact ⟨rfl, rfl⟩))
    (fun os started H enc _ => lifted os started H enc)

/-- the statement -/
theorem proved : Rows.PropsRowsSaid :=
  over
#print axioms proved
end Go.Proofs.Ytfobibijhojhlaa.propsRows
