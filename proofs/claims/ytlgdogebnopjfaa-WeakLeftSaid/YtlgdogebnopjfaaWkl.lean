/-
  Contract: the chapter's examples ('alive') hold for the program. No condition.
-/
import Derived.Test.YtlgdogebnopjfaaWkw
set_option linter.unusedVariables false
set_option linter.unusedSimpArgs false
namespace Go.Proofs.Ytlgdogebnopjfaa
open Go.ChangeShapes Go.WideShapes Go.ChangeAt Go.RowKit Go.Sort

theorem lit_weak (w : World) (n : Nat) (xs : List Int) (cs : Array Value) (sos : Int) (R : List Int) (m : Nat) (hcs : cs = (xs.map (Value.int .i64)).toArray) (hn : n = xs.length) (hmax : n ≤ 1000) (hR : weakW sos xs = R) (hm : m = R.length) :
    Calls Try.prog 9 #[.slice (some ⟨w.heap.size, 0, none⟩) n n, .int .i64 sos] (w.alloc (.cells cs 3)) fun e w' => ∃ A c, e = .returned (.slice A m c) ∧ Has w' w'.heap.size A (R.map (Value.int .i64)) ∧ Below w.heap.size w w' := by
  subst hcs; subst hR; subst hm
  refine (weak_ok _ n n sos xs _ hn hmax (has_lit w .i64 3 xs)).mono ?_
  rintro e w' ⟨v, rfl, hm, hb⟩
  obtain ⟨A, c, rfl, _, _, hh⟩ := hm.size
  exact ⟨A, c, rfl, hh, ((Below.refl w.heap.size w).alloc (Nat.le_refl _) _).trans (hb.mono (by simp))⟩
theorem lit_w1 (w : World) (n : Nat) (xs : List Int) (cs : Array Value) (sos : Int) (R : List Int) (m : Nat) (hcs : cs = (xs.map (Value.int .i64)).toArray) (hn : n = xs.length) (hmax : n ≤ 1000) (hR : w1 (sideW sos) xs = R) (hm : m = R.length) :
    Calls Try.prog 12 #[.slice (some ⟨w.heap.size, 0, none⟩) n n, .int .i64 sos] (w.alloc (.cells cs 3)) fun e w' => ∃ A c, e = .returned (.slice A m c) ∧ Has w' w'.heap.size A (R.map (Value.int .i64)) ∧ Below w.heap.size w w' := by
  subst hcs; subst hR; subst hm
  refine (w1_ok _ n n sos xs _ hn hmax (has_lit w .i64 3 xs)).mono ?_
  rintro e w' ⟨v, rfl, hm, hb⟩
  obtain ⟨A, c, rfl, _, _, hh⟩ := hm.size
  exact ⟨A, c, rfl, hh, ((Below.refl w.heap.size w).alloc (Nat.le_refl _) _).trans (hb.mono (by simp))⟩
theorem lit_same (w : World) (A : Option Addr) (n c : Nat) (xs : List Int) (cs : Array Value) (hcs : cs = (xs.map (Value.int .i64)).toArray) (hn : n = xs.length) (hmax : n ≤ 1000) (h : Has w w.heap.size A (xs.map (Value.int .i64))) :
    Calls Try.prog 11 #[.slice A n c, .slice (some ⟨w.heap.size, 0, none⟩) n n] (w.alloc (.cells cs 3)) fun e w' => e = .returned (.bool true) ∧ Below w.heap.size w w' := by
  subst hcs
  have hb : Below w.heap.size w (w.alloc (.cells (xs.map (Value.int .i64)).toArray 3)) := (Below.refl _ w).alloc (Nat.le_refl _) _
  refine (numbers_ok A _ c n n n xs xs _ hn hn (by omega) (h.carry hb) (has_lit w .i64 3 xs) rfl).mono ?_
  rintro e w' ⟨rfl, q, rfl⟩
  exact ⟨rfl, below_drewN hb q⟩

set_option maxHeartbeats 2000000 in
theorem alive_ok (w : World) : Calls Try.prog 8 #[] w fun e w' => e = .returned (.bool true) ∧ Below w.heap.size w w' := by
  have H1 := Lib.hid fun w => lit_weak w 2 [3, 4] #[.int .i64 3, .int .i64 4] 1 [2, 7] 2 rfl rfl (by decide) (by decide) rfl
  have H2 := Lib.hid fun w => lit_weak w 4 [2, 6, 4, 6] #[.int .i64 2, .int .i64 6, .int .i64 4, .int .i64 6] 1 [2, 4, 4, 4] 4 rfl rfl (by decide) (by decide) rfl
  have H3 := Lib.hid fun w => lit_w1 w 2 [20, 9] #[.int .i64 20, .int .i64 9] 1 [20, 14] 2 rfl rfl (by decide) (by decide) rfl
  have H4 := Lib.hid fun w => lit_weak w 4 [1, 4, 8, 4] #[.int .i64 1, .int .i64 4, .int .i64 8, .int .i64 4] 2 [1, 1, 1, 1] 4 rfl rfl (by decide) (by decide) rfl
  have G1 := Lib.hid fun w A c h => lit_same w A 2 c [2, 7] #[.int .i64 2, .int .i64 7] rfl rfl (by decide) h
  have G2 := Lib.hid fun w A c h => lit_same w A 4 c [2, 4, 4, 4] #[.int .i64 2, .int .i64 4, .int .i64 4, .int .i64 4] rfl rfl (by decide) h
  have G3 := Lib.hid fun w A c h => lit_same w A 2 c [20, 14] #[.int .i64 20, .int .i64 14] rfl rfl (by decide) h
  have G4 := Lib.hid fun w A c h => lit_same w A 4 c [1, 1, 1, 1] #[.int .i64 1, .int .i64 1, .int .i64 1, .int .i64 1] rfl rfl (by decide) h
  go_enter Try.func8, Try.ntmps8
  go_wp2_with (first
    | (go_at_call 9; (with_reducible refine (H1.out w).mono ?_); rintro e u1 ⟨A1, c1, rfl, h1, b1⟩; clear H1)
    | (go_at_call 9; (with_reducible refine (H2.out u1).mono ?_); rintro e u2 ⟨A2, c2, rfl, h2, b2⟩; have g1 := h1.carry b2; clear H2)
    | (go_at_call 12; (with_reducible refine (H3.out u2).mono ?_); rintro e u3 ⟨A3, c3, rfl, h3, b3⟩; have g2 := h2.carry b3; have g1a := g1.carry b3; clear H3)
    | (go_at_call 9; (with_reducible refine (H4.out u3).mono ?_); rintro e u4 ⟨A4, c4, rfl, h4, b4⟩; have g3 := h3.carry b4; have g2a := g2.carry b4; have g1b := g1a.carry b4; clear H4)
    | (go_at_call 11; (with_reducible refine (G1.out u4 A1 c1 g1b).mono ?_); rintro e u5 ⟨rfl, b5⟩; clear G1)
    | (go_at_call 11; (with_reducible refine (G2.out u5 A2 c2 (g2a.carry b5)).mono ?_); rintro e u6 ⟨rfl, b6⟩; clear G2)
    | (go_at_call 11; (with_reducible refine (G3.out u6 A3 c3 ((g3.carry b5).carry b6)).mono ?_); rintro e u7 ⟨rfl, b7⟩; clear G3)
    | (go_at_call 11; (with_reducible refine (G4.out u7 A4 c4 (((h4.carry b5).carry b6).carry b7)).mono ?_); rintro e u8 ⟨rfl, b8⟩; clear G4))
  go_ret
  have B2 := below_trans b1 b2 b1.size
  have B3 := below_trans B2 b3 B2.size
  have B4 := below_trans B3 b4 B3.size
  have B5 := below_trans B4 b5 B4.size
  have B6 := below_trans B5 b6 B5.size
  have B7 := below_trans B6 b7 B6.size
  exact ⟨rfl, below_trans B7 b8 B7.size⟩
end Go.Proofs.Ytlgdogebnopjfaa
