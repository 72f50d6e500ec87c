/-
  Contract: the chapter's examples ('alive') hold for the program. No condition.
-/
import Derived.Test.YtfjmcfcaphodgaaNen
import Derived.Test.YtfjmcfcaphodgaaNei
set_option linter.unusedVariables false
set_option linter.unusedSimpArgs false
namespace Go.Proofs.Ytfjmcfcaphodgaa
open Go.ChangeShapes Go.WideShapes Go.ChangeAt Go.RowKit Go.Sort

theorem lit_neutral (w : World) (n : Nat) (xs : List Int) (cs : Array Value) (level s e : Int) (R : List Int) (m : Nat) (hcs : cs = (xs.map (Value.int .i64)).toArray) (hn : n = xs.length) (hmax : n ≤ 1000) (hR : nuL xs level s e = R) (hm : m = R.length) :
    Calls Try.prog 9 #[.slice (some ⟨w.heap.size, 0, none⟩) n n, .int .i64 level, .int .i64 s, .int .i64 e] (w.alloc (.cells cs 3)) fun x w' => ∃ A c, x = .returned (.slice A m c) ∧ Has w' w'.heap.size A (R.map (Value.int .i64)) ∧ Below w.heap.size w w' := by
  subst hcs; subst hR; subst hm
  refine (neutral_ok _ n n level s e xs _ hn hmax (has_lit w .i64 3 xs)).mono ?_
  rintro x w' ⟨v, rfl, hm, hb⟩
  obtain ⟨A, c, rfl, _, _, hh⟩ := hm.size
  exact ⟨A, c, rfl, hh, ((Below.refl w.heap.size w).alloc (Nat.le_refl _) _).trans (hb.mono (by simp))⟩
theorem lit_implicit (w : World) (n : Nat) (xs : List Int) (cs : Array Value) (level : Int) (R : List Int) (m : Nat) (hcs : cs = (xs.map (Value.int .i64)).toArray) (hn : n = xs.length) (hmax : n ≤ 1000) (hlo : -9223372036854775808 ≤ level) (hhi : level ≤ 1099511627776) (hR : impL xs level = R) (hm : m = R.length) :
    Calls Try.prog 14 #[.slice (some ⟨w.heap.size, 0, none⟩) n n, .int .i64 level] (w.alloc (.cells cs 3)) fun x w' => ∃ A c, x = .returned (.slice A m c) ∧ Has w' w'.heap.size A (R.map (Value.int .i64)) ∧ Below w.heap.size w w' := by
  subst hcs; subst hR; subst hm
  refine (implicit_ok _ n n level xs _ hn hmax hlo hhi (has_lit w .i64 3 xs)).mono ?_
  rintro x w' ⟨v, rfl, hm, hb⟩
  obtain ⟨A, c, rfl, _, _, hh⟩ := hm.size
  exact ⟨A, c, rfl, hh, ((Below.refl w.heap.size w).alloc (Nat.le_refl _) _).trans (hb.mono (by simp))⟩
theorem lit_ints (w : World) (A : Option Addr) (n c : Nat) (xs : List Int) (cs : Array Value) (hcs : cs = (xs.map (Value.int .i64)).toArray) (hn : n = xs.length) (hmax : n ≤ 1000) (h : Has w w.heap.size A (xs.map (Value.int .i64))) :
    Calls Try.prog 8 #[.slice A n c, .slice (some ⟨w.heap.size, 0, none⟩) n n] (w.alloc (.cells cs 3)) fun e w' => e = .returned (.bool true) ∧ Below w.heap.size w w' := by
  subst hcs
  have hb : Below w.heap.size w (w.alloc (.cells (xs.map (Value.int .i64)).toArray 3)) := (Below.refl _ w).alloc (Nat.le_refl _) _
  refine (ints_ok A _ c n n xs _ hn (by omega) (h.carry hb) (has_lit w .i64 3 xs)).mono ?_
  rintro e w' ⟨rfl, q, rfl⟩
  exact ⟨rfl, below_drewN hb q⟩

set_option maxHeartbeats 2000000 in
theorem alive_ok (w : World) : Calls Try.prog 7 #[] w fun e w' => e = .returned (.bool true) ∧ Below w.heap.size w w' := by
  have H1 := Lib.hid fun w => lit_neutral w 3 [2, 13, 4] #[.int .i64 2, .int .i64 13, .int .i64 4] 0 1 1 [2, 2, 4] 3 rfl rfl (by decide) (by decide) rfl
  have H2 := Lib.hid fun w => lit_implicit w 3 [1, 2, 4] #[.int .i64 1, .int .i64 2, .int .i64 4] 0 [0, 1, 2] 3 rfl rfl (by decide) (by decide) (by decide) (by decide) rfl
  have G1 := Lib.hid fun w A c h => lit_ints w A 3 c [2, 2, 4] #[.int .i64 2, .int .i64 2, .int .i64 4] rfl rfl (by decide) h
  have G2 := Lib.hid fun w A c h => lit_ints w A 3 c [0, 1, 2] #[.int .i64 0, .int .i64 1, .int .i64 2] rfl rfl (by decide) h
  have HE := Lib.hid fun w => embed_ok 3 w
  rw [show embN 3 = 2 from by decide] at HE
  go_enter Try.func7, Try.ntmps7
  go_wp2_with (first
    | (go_at_call 9; (with_reducible refine (H1.out w).mono ?_); rintro e u1 ⟨A1, c1, rfl, h1, b1⟩; clear H1)
    | (go_at_call 14; (with_reducible refine (H2.out u1).mono ?_); rintro e u2 ⟨A2, c2, rfl, h2, b2⟩; have g1 := h1.carry b2; clear H2)
    | (go_at_call 8; (with_reducible refine (G1.out u2 A1 c1 g1).mono ?_); rintro e u3 ⟨rfl, b3⟩; clear G1)
    | (go_at_call 8; (with_reducible refine (G2.out u3 A2 c2 (h2.carry b3)).mono ?_); rintro e u4 ⟨rfl, b4⟩; clear G2)
    | (go_at_call 11; (with_reducible refine (HE.out _).mono ?_); rintro e u5 ⟨rfl, rfl⟩))
  go_ret
  have B2 := below_trans b1 b2 b1.size
  have B3 := below_trans B2 b3 B2.size
  exact ⟨rfl, below_trans B3 b4 B3.size⟩
end Go.Proofs.Ytfjmcfcaphodgaa
