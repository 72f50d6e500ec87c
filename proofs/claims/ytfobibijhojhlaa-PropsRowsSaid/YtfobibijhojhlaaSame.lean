/-
  Contracts of the program's Same, Canon, Rows and Row, of the document's Canon. Two codes' properties are compared field by field. No condition.
-/
import Derived.Test.YtfobibijhojhlaaOf
import Derived.BigQuiet
import Derived.Deep.QuietTactic
set_option linter.unusedVariables false
namespace Go.Proofs.Ytfobibijhojhlaa
open Go.ChangeShapes Go.WideShapes Go.ChangeAt Go.RowKit Go.Sort

theorem eq_run (p q : Pr) (w : World) : (binOp .eql 23 (.agg #[.int .i64 p.bidi, .int .i64 p.cl, .int .i64 p.br, .int .i64 p.sc, .int .i64 p.jn, .int .i64 p.wd, .int .i32 p.mi, .int .i32 p.pa, .bool p.op]) (.agg #[.int .i64 q.bidi, .int .i64 q.cl, .int .i64 q.br, .int .i64 q.sc, .int .i64 q.jn, .int .i64 q.wd, .int .i32 q.mi, .int .i32 q.pa, .bool q.op])).run Try.prog w = .ok (.bool (decide (p = q))) w := by
  obtain ⟨a, b, c, d, e, f, g, h, i⟩ := p
  obtain ⟨a', b', c', d', e', f', g', h', i'⟩ := q
  simp [go_sem]
  repeat' split
  all_goals simp_all
/-- Of, what it tells written out -/
theorem of_x (r : Int) (p : Pr) (hp : ofP r = p) (w : World) : Calls Try.prog 7 #[.int .i32 r] w fun e w' => e = .returned (.agg #[.int .i64 p.bidi, .int .i64 p.cl, .int .i64 p.br, .int .i64 p.sc, .int .i64 p.jn, .int .i64 p.wd, .int .i32 p.mi, .int .i32 p.pa, .bool p.op]) ∧ Up w w' := by
  have := of_ok r w
  rw [hp] at this
  exact this

set_option maxHeartbeats 1000000 in
theorem same_ok (a b : Int) (w : World) : Calls Try.prog 9 #[.int .i32 a, .int .i32 b] w fun e w' => e = .returned (.bool (decide (ofP a = ofP b))) ∧ Up w w' := by
  obtain ⟨p, hp⟩ : ∃ p, ofP a = p := ⟨_, rfl⟩
  obtain ⟨q, hq⟩ : ∃ q, ofP b = q := ⟨_, rfl⟩
  rw [hp, hq]
  have HP := Lib.hid (fun w => of_x a p hp w)
  have HQ := Lib.hid (fun w => of_x b q hq w)
  have hE := fun w => eq_run p q w
  clear hp hq
  go_enter Try.func9, Try.ntmps9
  go_wp2_with (first | (go_at_call 7; first | (with_reducible refine (HP.out _).mono ?_); rintro e w1 ⟨rfl, hu1⟩ | (with_reducible refine (HQ.out _).mono ?_); rintro e w2 ⟨rfl, hu2⟩))
  go_ret
  exact ⟨rfl, hu1.trans hu2⟩

set_option maxHeartbeats 1000000 in
def canonP (r : Int) : Int := if r = 9001 then 12296 else if r = 9002 then 12297 else r
theorem canon_ok (r : Int) (w : World) : Calls Try.prog 10 #[.int .i32 r] w fun e w' => e = .returned (.int .i32 (canonP r)) ∧ w = w' := by
  unfold canonP
  by_cases h1 : r = 9001
  · subst h1
    go_enter Try.func10, Try.ntmps10
    go_wp2
    go_ret
    exact ⟨rfl, rfl⟩
  by_cases h2 : r = 9002
  · subst h2
    go_enter Try.func10, Try.ntmps10
    go_wp2
    go_ret
    exact ⟨rfl, rfl⟩
  rw [if_neg h1, if_neg h2]
  go_enter Try.func10, Try.ntmps10
  go_wp2
  go_ret
  exact ⟨rfl, rfl⟩
theorem rcanon_ok (r : Int) (w : World) : Calls Try.prog 11 #[.int .i32 r] w fun e w' => e = .returned (.int .i32 (canonP r)) ∧ w = w' := by
  unfold canonP
  by_cases h1 : r = 9001
  · subst h1
    go_enter Try.func11, Try.ntmps11
    go_wp2
    go_ret
    exact ⟨rfl, rfl⟩
  by_cases h2 : r = 9002
  · subst h2
    go_enter Try.func11, Try.ntmps11
    go_wp2
    go_ret
    exact ⟨rfl, rfl⟩
  rw [if_neg h1, if_neg h2]
  go_enter Try.func11, Try.ntmps11
  go_wp2
  go_ret
  exact ⟨rfl, rfl⟩
theorem rows_ok (w : World) : Calls Try.prog 17 #[] w fun e w' => e = .returned (.int .i64 260) ∧ w = w' := by
  go_enter Try.func17, Try.ntmps17
  go_wp2
  go_ret
  exact ⟨rfl, rfl⟩
end Go.Proofs.Ytfobibijhojhlaa
