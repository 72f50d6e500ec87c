/-
  The chapter's examples, as the statements run them. No condition.
-/
import Derived.Test.YtneiifjihgbacaaRpas
import Derived.Test.YtneiifjihgbacaaLvl
set_option linter.unusedVariables false
set_option linter.unusedSimpArgs false
namespace Go.Proofs.Ytneiifjihgbacaa
open Go.ChangeShapes Go.WideShapes Go.ChangeAt Go.RowKit

theorem eqC_run (w : World) : (binOp .eql 27 (.agg #[.int .i64 0, .int .i64 3]) (.agg #[.int .i64 0, .int .i64 3])).run Try.prog w = .ok (.bool true) w := by
  simp [go_sem]
theorem neC_run (a b : Nat) (w : World) : (binOp .neq 27 (.agg #[.int .i64 a, .int .i64 b]) (.agg #[.int .i64 a, .int .i64 b])).run Try.prog w = .ok (.bool false) w := by
  simp [go_sem]
theorem lit_below (w w' : World) (q : IntKind) (e : TypeId) (xs : List Int) (h : Below (w.alloc (.cells (xs.map (Value.int q)).toArray e)).heap.size (w.alloc (.cells (xs.map (Value.int q)).toArray e)) w') : Below w.heap.size w w' :=
  ((Below.refl w.heap.size w).alloc (Nat.le_refl _) _).trans (h.mono (by simp))
theorem lit_paras (w : World) : Calls Try.prog 10 #[.slice (some ⟨w.heap.size, 0, none⟩) 4 4] (w.alloc (.cells #[.int .i32 97, .int .i32 13, .int .i32 10, .int .i32 98] 21)) fun e w' => ∃ b o c, e = .returned (.slice (some ⟨b, o, none⟩) 2 c) ∧ Below w.heap.size w w' ∧ b < w'.heap.size ∧ w'.cell? ⟨b, o, none⟩ = some (.int .i64 0) ∧ w'.cell? ⟨b, o + 1, none⟩ = some (.int .i64 3) := by
  have h := paras_ok (some ⟨w.heap.size, 0, none⟩) 4 4 [97, 13, 10, 98] _ rfl (by decide) (has_lit w .i32 21 [97, 13, 10, 98])
  have e1 : parL [97, 13, 10, 98] = [(0, 3), (3, 4)] := by kernel_rfl
  rw [e1] at h
  refine h.mono ?_
  rintro e w' ⟨v, rfl, A, c, rfl, _, hc, hb⟩
  obtain ⟨b, o, rfl, hlt, h1, h2⟩ := hc.at_ (i := 0) (by decide)
  exact ⟨b, o, c, rfl, lit_below w w' _ _ [97, 13, 10, 98] hb, hlt, by simpa using h1, by simpa using h2⟩
theorem lit_match (w : World) : Calls Try.prog 12 #[.slice (some ⟨w.heap.size, 0, none⟩) 4 4] (w.alloc (.cells #[.int .i64 20, .int .i64 1, .int .i64 23, .int .i64 23] 3)) fun e w' => ∃ b o c, e = .returned (.slice (some ⟨b, o, none⟩) 4 c) ∧ Below w.heap.size w w' ∧ b < w'.heap.size ∧ w'.cell? ⟨b, o, none⟩ = some (.int .i64 2) ∧ w'.cell? ⟨b, o + 2, none⟩ = some (.int .i64 0) ∧ w'.cell? ⟨b, o + 3, none⟩ = some (.int .i64 (-1)) := by
  have h := match_ok (some ⟨w.heap.size, 0, none⟩) 4 4 [20, 1, 23, 23] _ rfl (by decide) (has_lit w .i64 3 [20, 1, 23, 23])
  have e1 : matL [20, 1, 23, 23] = [2, -1, 0, -1] := by kernel_rfl
  rw [e1] at h
  refine h.mono ?_
  rintro e w' ⟨v, rfl, hM, hb⟩
  obtain ⟨A, c, rfl, _, _, hh⟩ := hM.size
  obtain ⟨b, o, rfl, hlt, h1⟩ := hh.at_int (k := 0) (by decide)
  obtain ⟨b', o', e2, _, h2⟩ := hh.at_int (k := 2) (by decide)
  obtain ⟨b'', o'', e3, _, h3⟩ := hh.at_int (k := 3) (by decide)
  injection e2 with e2; injection e2 with x1 x2; subst x1; subst x2
  injection e3 with e3; injection e3 with x1 x2; subst x1; subst x2
  exact ⟨b, o, c, rfl, lit_below w w' _ _ [20, 1, 23, 23] hb, hlt, by simpa using h1, by simpa using h2, by simpa using h3⟩
theorem lit_level (w : World) (n : Nat) (cs : List Int) (x : Int) (b : Bool) (hn : n = cs.length) (hm : n ≤ 1000) (hl : lvlV cs = .tuple #[.int .i64 x, .bool b]) :
    Calls Try.prog 14 #[.slice (some ⟨w.heap.size, 0, none⟩) n n] (w.alloc (.cells (cs.map (Value.int .i64)).toArray 3)) fun e w' => e = .returned (.tuple #[.int .i64 x, .bool b]) ∧ Below w.heap.size w w' := by
  refine (level_ok (some ⟨w.heap.size, 0, none⟩) n n cs _ hn hm (has_lit w .i64 3 cs)).mono ?_
  rintro e w' ⟨rfl, rfl⟩
  exact ⟨by rw [hl], (Below.refl w.heap.size w).alloc (Nat.le_refl _) _⟩
theorem lit_first (w : World) : Calls Try.prog 16 #[.slice (some ⟨w.heap.size, 0, none⟩) 3 3, .int .i64 1, .int .i64 2] (w.alloc (.cells #[.int .i64 14, .int .i64 2, .int .i64 1] 3)) fun e w' => e = .returned (.int .i64 2) ∧ Below w.heap.size w w' := by
  refine (first_ok (some ⟨w.heap.size, 0, none⟩) 3 3 [14, 2, 1] 1 2 _ rfl (by decide) (has_lit w .i64 3 [14, 2, 1])).mono ?_
  rintro e w' ⟨rfl, rfl⟩
  exact ⟨by rw [show firstV [14, 2, 1] 1 2 = 2 by decide], (Below.refl w.heap.size w).alloc (Nat.le_refl _) _⟩

set_option maxRecDepth 20000 in
set_option maxHeartbeats 4000000 in
theorem alive_ok (w : World) : Calls Try.prog 9 #[] w fun e w' => e = .returned (.bool true) ∧ Below w.heap.size w w' := by
  have H1 := Lib.hid (fun w => lit_paras w)
  have H2 := Lib.hid (fun w => lit_match w)
  have H3 : Hid (∀ w : World, Calls Try.prog 14 #[.slice (some ⟨w.heap.size, 0, none⟩) 4 4] (w.alloc (.cells #[.int .i64 20, .int .i64 2, .int .i64 23, .int .i64 1] 3)) fun e w' => e = .returned (.tuple #[.int .i64 0, .bool true]) ∧ Below w.heap.size w w') := Lib.hid (fun w => lit_level w 4 [20, 2, 23, 1] 0 true rfl (by decide) (by kernel_rfl))
  have H4 : Hid (∀ w : World, Calls Try.prog 14 #[.slice (some ⟨w.heap.size, 0, none⟩) 2 2] (w.alloc (.cells #[.int .i64 14, .int .i64 3] 3)) fun e w' => e = .returned (.tuple #[.int .i64 1, .bool true]) ∧ Below w.heap.size w w') := Lib.hid (fun w => lit_level w 2 [14, 3] 1 true rfl (by decide) (by kernel_rfl))
  have H5 : Hid (∀ w : World, Calls Try.prog 14 #[.slice (some ⟨w.heap.size, 0, none⟩) 2 2] (w.alloc (.cells #[.int .i64 21, .int .i64 1] 3)) fun e w' => e = .returned (.tuple #[.int .i64 0, .bool false]) ∧ Below w.heap.size w w') := Lib.hid (fun w => lit_level w 2 [21, 1] 0 false rfl (by decide) (by kernel_rfl))
  have H6 := Lib.hid (fun w => lit_first w)
  have hne := eqC_run
  go_enter Try.func9, Try.ntmps9
  go_wp2_with (first
    | (go_at_call 10; (with_reducible refine (H1.out w).mono ?_); rintro e u1 ⟨b1, o1, c1, rfl, hB1, hl1, hc1, hc2⟩; clear H1)
    | (go_at_call 12; (with_reducible refine (H2.out u1).mono ?_); rintro e u2 ⟨b2, o2, c2, rfl, hb2, hl2, hd1, hd2, hd3⟩; have hB2 := below_trans hB1 hb2 hB1.size; have hc1a := (hb2.cell (p := ⟨b1, o1, none⟩) hl1).trans hc1; have hc2a := (hb2.cell (p := ⟨b1, o1 + 1, none⟩) hl1).trans hc2; have hl1a := Nat.lt_of_lt_of_le hl1 hb2.size; clear H2 hc1 hc2 hB1 hl1)
    | (go_at_call 14; (with_reducible refine (H3.out u2).mono ?_); rintro e u3 ⟨rfl, hb3⟩; have hB3 := below_trans hB2 hb3 hB2.size; clear H3)
    | (go_at_call 14; (with_reducible refine (H4.out u3).mono ?_); rintro e u4 ⟨rfl, hb4⟩; have hB4 := below_trans hB3 hb4 hB3.size; clear H4)
    | (go_at_call 14; (with_reducible refine (H5.out u4).mono ?_); rintro e u5 ⟨rfl, hb5⟩; have hB5 := below_trans hB4 hb5 hB4.size; have hb25 := below_trans (below_trans hb3 hb4 hb3.size) hb5 (Nat.le_trans hb3.size hb4.size);
        have f1 := (hb25.cell (p := ⟨b1, o1, none⟩) hl1a).trans hc1a; have f2 := (hb25.cell (p := ⟨b1, o1 + 1, none⟩) hl1a).trans hc2a; have f3 := (hb25.cell (p := ⟨b2, o2, none⟩) hl2).trans hd1; have f4 := (hb25.cell (p := ⟨b2, o2 + 2, none⟩) hl2).trans hd2; have f5 := (hb25.cell (p := ⟨b2, o2 + 3, none⟩) hl2).trans hd3; clear hc1a hc2a hd1 hd2 hd3 hb25 hb3 hb4 hb5 hb2 hB2 hB3 hB4 H5)
    | (go_at_call 16; (with_reducible refine (H6.out u5).mono ?_); rintro e u6 ⟨rfl, hb6⟩; have hB6 := below_trans hB5 hb6 hB5.size))
  go_ret
  exact ⟨rfl, hB6⟩
end Go.Proofs.Ytneiifjihgbacaa
