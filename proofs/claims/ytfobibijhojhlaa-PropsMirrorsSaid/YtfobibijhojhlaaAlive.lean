/-
  Contract of alive (the chapter's example). The document's Of, what it tells written out. No condition.
-/
import Derived.Test.YtfobibijhojhlaaSame
import Derived.Test.YtfobibijhojhlaaROf
set_option linter.unusedVariables false
namespace Go.Proofs.Ytfobibijhojhlaa
open Go.ChangeShapes Go.WideShapes Go.ChangeAt Go.RowKit Go.Sort

theorem rof_x (r : Int) (p : Pr) (hp : ofP r = p) (w : World) : Calls Try.prog 8 #[.int .i32 r] w fun e w' => e = .returned (.agg #[.int .i64 p.bidi, .int .i64 p.cl, .int .i64 p.br, .int .i64 p.sc, .int .i64 p.jn, .int .i64 p.wd, .int .i32 p.mi, .int .i32 p.pa, .bool p.op]) ∧ Up w w' := by
  have := rof_ok r w
  rw [hp] at this
  exact this
theorem of_40 : ofP 40 = ⟨14, 0, 18, 0, 0, 0, 41, 41, true⟩ := by kernel_rfl
theorem of_44032 : ofP 44032 = ⟨1, 12, 33, 9, 0, 1, 0, 0, false⟩ := by kernel_rfl
theorem of_44033 : ofP 44033 = ⟨1, 13, 34, 9, 0, 1, 0, 0, false⟩ := by kernel_rfl
theorem field_cl (a b c d e f g h : Int) (o : Bool) (w : World) : (Instr.field 23 (.agg #[.int .i64 a, .int .i64 b, .int .i64 c, .int .i64 d, .int .i64 e, .int .i64 f, .int .i32 g, .int .i32 h, .bool o]) 1).run Try.prog w = .ok (.int .i64 b) w := by
  simp [Instr.field, go_sem, part, asAgg, Try.isAgg3]

set_option maxHeartbeats 2000000 in
theorem alive_ok (w : World) : Calls Try.prog 12 #[] w fun e w' => e = .returned (.bool true) ∧ Up w w' := by
  have c40 : ∀ w, Calls Try.prog 7 #[.int .i32 40] w fun e w' => e = .returned (.agg #[.int .i64 14, .int .i64 0, .int .i64 18, .int .i64 0, .int .i64 0, .int .i64 0, .int .i32 41, .int .i32 41, .bool true]) ∧ Up w w' := fun w => of_x 40 _ of_40 w
  have c2 : ∀ w, Calls Try.prog 7 #[.int .i32 44032] w fun e w' => e = .returned (.agg #[.int .i64 1, .int .i64 12, .int .i64 33, .int .i64 9, .int .i64 0, .int .i64 1, .int .i32 0, .int .i32 0, .bool false]) ∧ Up w w' := fun w => of_x 44032 _ of_44032 w
  have c3 : ∀ w, Calls Try.prog 7 #[.int .i32 44033] w fun e w' => e = .returned (.agg #[.int .i64 1, .int .i64 13, .int .i64 34, .int .i64 9, .int .i64 0, .int .i64 1, .int .i32 0, .int .i32 0, .bool false]) ∧ Up w w' := fun w => of_x 44033 _ of_44033 w
  have H1 := Lib.hid c40
  have H2 := Lib.hid c2
  have H3 := Lib.hid c3
  have fcl := field_cl
  clear c40 c2 c3
  go_enter Try.func12, Try.ntmps12
  go_wp2_with (first | (go_at_call 7; first | (with_reducible refine (H1.out _).mono ?_); rintro e w1 ⟨rfl, hu1⟩ | (with_reducible refine (H2.out _).mono ?_); rintro e w2 ⟨rfl, hu2⟩ | (with_reducible refine (H3.out _).mono ?_); rintro e w3 ⟨rfl, hu3⟩) | (go_at_call 17; refine (rows_ok _).mono ?_; rintro e w4 ⟨rfl, rfl⟩) | (go_at_call 10; refine (canon_ok 9001 _).mono ?_; rintro e w5 ⟨rfl, rfl⟩; rw [show canonP 9001 = 12296 from rfl]))
  go_ret
  exact ⟨rfl, ((hu1.alloc _).trans hu2).trans hu3⟩
end Go.Proofs.Ytfobibijhojhlaa
