/-
  Contracts: slices.Clone at ints; the program's Weak and W1; the statement's own comparison of lists and its examples. Condition: at most 1000 classes.
-/
import Derived.Test.YtlgdogebnopjfaaWkt
import Derived.Test.YtlgdogebnopjfaaPush
import Derived.Lib.SliceRun
set_option linter.unusedVariables false
set_option linter.unusedSimpArgs false
namespace Go.Proofs.Ytlgdogebnopjfaa
open Go.ChangeShapes Go.WideShapes Go.ChangeAt Go.RowKit Go.Sort

theorem has_none {w : World} {B : Nat} {k : IntKind} {xs : List Int} (h : Has w B none (xs.map (Value.int k))) : xs = [] := by
  rcases xs with _ | ⟨y, ys⟩
  · rfl
  · obtain ⟨b, off, e, _⟩ := h (by simp)
    cases e
theorem eqnil (a : Option Addr) (n c n' c' : Nat) (w : World) : (binOp .eql 25 (.slice a n c) (.slice none n' c')).run Try.prog w = .ok (.bool a.isNone) w := Lib.run_eql_slice_nil w _ _ a n c n' c' Try.underlying25
set_option maxHeartbeats 1000000 in
theorem clone_ok (A : Option Addr) (n c : Nat) (xs : List Int) (w : World) (hn : n = xs.length) (hmax : n ≤ 1000) (h : Has w w.heap.size A (xs.map (Value.int .i64))) :
    Calls Try.prog 13 #[.slice A n c] w fun e w' => ∃ v, e = .returned v ∧ Mine .i64 3 w' w.heap.size v xs ∧ Below w.heap.size w w' := by
  cases A with
  | none =>
    obtain rfl := has_none h
    simp only [List.length_nil] at hn
    subst hn
    have q := eqnil none 0 c 0 0
    go_enter Try.func13, Try.ntmps13
    go_wp2
    go_ret
    exact ⟨_, rfl, Mine.nil_ _ _ _ _, Below.refl _ _⟩
  | some a =>
    have hm0 : Mine .i64 3 (w.alloc (.cells #[] 3)) w.heap.size (.slice (some ⟨w.heap.size, 0, none⟩) 0 0) [] := World.ownsRow_made w #[] 0 (Nat.le_refl _) (Nat.zero_le _) (by simp)
    have hb0 : Below w.heap.size w (w.alloc (.cells #[] 3)) := (Below.refl _ _).alloc (Nat.le_refl _) _
    have hh := h.carry hb0
    have HN := Lib.hid hn
    have q := eqnil (some a) n c 0 0
    clear h hn
    go_enter Try.func13, Try.ntmps13
    go_wp2_with (first
      | (at_builtin; refine wpList_pushall (k := .i64) (bytes := 8) rfl _ _ 25 rfl Try.underlying25 fullI (by decide) w.heap.size _ [] xs w _ (some a) n c HN.out (fun e => by cases e) hh hm0 rfl rfl hb0 hb0.size (by simp) (by have := HN.out; omega) ?_; intro v' w1 hM hb1 _))
    go_ret
    exact ⟨_, rfl, by simpa using hM, hb1⟩


set_option maxHeartbeats 1000000 in
theorem weak_ok (A : Option Addr) (n c : Nat) (sos : Int) (l : List Int) (w : World) (hn : n = l.length) (hmax : n ≤ 1000) (h : Has w w.heap.size A (l.map (Value.int .i64))) :
    Calls Try.prog 9 #[.slice A n c, .int .i64 sos] w fun e w' => ∃ v, e = .returned v ∧ Mine .i64 3 w' w.heap.size v (weakW sos l) ∧ Below w.heap.size w w' := by
  have HC := Lib.hid (clone_ok A n c l w hn hmax h)
  have HS := Lib.hid (fun w => start_ok sos w)
  have e1 : (w1 (sideW sos) l).length ≤ 1000 := by rw [w1_len]; omega
  have e2 : (w2 (sideW sos) (w1 (sideW sos) l)).length ≤ 1000 := by rw [w2_len]; omega
  have e3 : (w3 (w2 (sideW sos) (w1 (sideW sos) l))).length ≤ 1000 := by rw [w3_len]; omega
  have e4 : (w4 0 (w3 (w2 (sideW sos) (w1 (sideW sos) l)))).length ≤ 1000 := by rw [w4_len]; omega
  have e5 : (w5 false (w4 0 (w3 (w2 (sideW sos) (w1 (sideW sos) l))))).length ≤ 1000 := by rw [w5_len]; omega
  have e6 : (w6 (w5 false (w4 0 (w3 (w2 (sideW sos) (w1 (sideW sos) l)))))).length ≤ 1000 := by rw [w6_len]; omega
  have H0 : Hid (l.length ≤ 1000) := Lib.hid (by omega)
  have HR : Hid (scn (tnD 1 1) Q2 (sideW sos) (w6 (w5 false (w4 0 (w3 (w2 (sideW sos) (w1 (sideW sos) l)))))) = weakW sos l) := Lib.hid (by rw [← w7_scn]; rfl)
  rw [w2_scn] at e2 e3 e4 e5 e6 HR
  clear h hn
  obtain ⟨p, hp⟩ : ∃ p, sideW sos = p := ⟨_, rfl⟩
  rw [hp] at HS e1 e2 e3 e4 e5 e6 HR
  clear hp
  have C1 := Lib.hid fun v W B h => marks_ok v l p W B h H0.out
  generalize w1 p l = l1 at *
  have C2 := Lib.hid fun v W B h => turn_ok v l1 p 3 7 W B h e1
  generalize scn (tnD 3 7) Q2 p l1 = l2 at *
  have C3 := Lib.hid fun v W B h => arabic_ok v l2 W B h e2
  generalize w3 l2 = l3 at *
  have C4 := Lib.hid fun v W B h => separators_ok v l3 W B h e3
  generalize w4 0 l3 = l4 at *
  have C5 := Lib.hid fun v W B h hB => terminators_ok v l4 W B h e4 hB
  generalize w5 false l4 = l5 at *
  have C6 := Lib.hid fun v W B h => leftovers_ok v l5 W B h e5
  generalize w6 l5 = l6 at *
  have C7 := Lib.hid fun v W B h => turn_ok v l6 p 1 1 W B h e6
  rw [HR.out] at C7
  generalize weakW sos l = R at *
  clear e1 e2 e3 e4 e5 e6 HR
  go_enter Try.func9, Try.ntmps9
  go_wp2_with (first
    | (go_at_call 13; refine HC.out.mono ?_; rintro e z0 ⟨v, rfl, m0, b0⟩)
    | (go_at_call 14; (with_reducible refine (HS.out _).mono ?_); rintro e u ⟨rfl, rfl⟩)
    | (go_at_call 15; (with_reducible refine (C1.out v _ _ m0).mono ?_); rintro e z1 ⟨rfl, m1, b1⟩)
    | (go_at_call 16; (with_reducible refine (C7.out v _ _ m6).mono ?_); rintro e z7 ⟨rfl, m7, b7⟩)
    | (go_at_call 16; (with_reducible refine (C2.out v _ _ m1).mono ?_); rintro e z2 ⟨rfl, m2, b2⟩)
    | (go_at_call 17; (with_reducible refine (C3.out v _ _ m2).mono ?_); rintro e z3 ⟨rfl, m3, b3⟩)
    | (go_at_call 18; (with_reducible refine (C4.out v _ _ m3).mono ?_); rintro e z4 ⟨rfl, m4, b4⟩; have hBB := (((b0.trans b1).trans b2).trans b3).trans b4)
    | (go_at_call 19; (with_reducible refine (C5.out v _ _ m4 hBB.size).mono ?_); rintro e z5 ⟨rfl, m5, b5⟩)
    | (go_at_call 20; (with_reducible refine (C6.out v _ _ m5).mono ?_); rintro e z6 ⟨rfl, m6, b6⟩))
  go_ret
  exact ⟨_, rfl, m7, ((hBB.trans b5).trans b6).trans b7⟩

set_option maxHeartbeats 1000000 in
theorem w1_ok (A : Option Addr) (n c : Nat) (sos : Int) (l : List Int) (w : World) (hn : n = l.length) (hmax : n ≤ 1000) (h : Has w w.heap.size A (l.map (Value.int .i64))) :
    Calls Try.prog 12 #[.slice A n c, .int .i64 sos] w fun e w' => ∃ v, e = .returned v ∧ Mine .i64 3 w' w.heap.size v (w1 (sideW sos) l) ∧ Below w.heap.size w w' := by
  have HC := Lib.hid (clone_ok A n c l w hn hmax h)
  have HS := Lib.hid (fun w => start_ok sos w)
  have H0 : Hid (l.length ≤ 1000) := Lib.hid (by omega)
  clear h hn
  generalize sideW sos = p at *
  have C1 := Lib.hid fun v W B h => marks_ok v l p W B h H0.out
  generalize w1 p l = l1 at *
  go_enter Try.func12, Try.ntmps12
  go_wp2_with (first
    | (go_at_call 13; refine HC.out.mono ?_; rintro e z0 ⟨v, rfl, m0, b0⟩)
    | (go_at_call 14; (with_reducible refine (HS.out _).mono ?_); rintro e u ⟨rfl, rfl⟩)
    | (go_at_call 15; (with_reducible refine (C1.out v _ _ m0).mono ?_); rintro e z1 ⟨rfl, m1, b1⟩))
  go_ret
  exact ⟨_, rfl, m1, b0.trans b1⟩

/-- two lists are compared: what the statement's own comparison says -/
theorem numbers_ok (A B : Option Addr) (c d n m : Nat) (xs ys : List Int) (w : World) (hnx : n = xs.length) (hny : m = ys.length) (hn : n ≤ 1000000) (h1 : Has w w.heap.size A (xs.map (Value.int .i64))) (h2 : Has w w.heap.size B (ys.map (Value.int .i64))) (he : xs = ys) :
    Calls Try.prog 11 #[.slice A n c, .slice B m d] w fun e w' => e = .returned (.bool true) ∧ ∃ q, w' = w.drewN q := by
  subst he
  obtain rfl : n = m := by omega
  have HN := Lib.hid hnx
  clear hnx hny
  go_enter Try.func11, Try.ntmps11
  go_wp2
  go_loopw [5, 13] (fun _ i wr => ∃ k : Nat, k ≤ n ∧ i = .int .i64 k ∧ ∃ q, wr = w.drewN q) (fun _ i _ => n - (intOf i).toNat)
  case atStart => exact ⟨0, by omega, rfl, 0, rfl⟩
  case round =>
    obtain ⟨k, hk, rfl, q, rfl⟩ := hrel
    by_cases hlt : k < n
    · have hlt2 : k < xs.length := by rw [← HN.out]; exact hlt
      obtain ⟨b, off, rfl, hb, hc⟩ := h1.at_int hlt2
      obtain ⟨b2, off2, rfl, hb2, hc2⟩ := h2.at_int hlt2
      generalize xs[k] = X at hc hc2
      clear h1 h2
      go_wp2
      go_quiet (fail)
      go_wp2
      go_roundw
      case rel => exact ⟨k + 1, by omega, by go_num, _, rfl⟩
      case measure => simp [intOf] <;> omega
    · obtain rfl : k = n := by omega
      go_wp2
      go_ret
      exact ⟨rfl, _, rfl⟩
end Go.Proofs.Ytlgdogebnopjfaa
