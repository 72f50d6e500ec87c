/-
  Contracts of the small functions: a code point's class (the program's and the document's), and what is asked of classes. No condition.
-/
import Derived.Test.YtnpcakeagpbgiaaGreatGza
import Derived.Test.YtnpcakeagpbgiaaGreatZOf
import Derived.Test.YtnpcakeagpbgiaaGreatZROf
set_option linter.unusedVariables false
namespace Go.Proofs.YtnpcakeagpbgiaaGreat
open Go.ChangeShapes Go.WideShapes Go.ChangeAt Go.RowKit Go.Sort

theorem field_cl (p : Pr) (w : World) : (Instr.field 91 (.agg #[.int .i64 p.bidi, .int .i64 p.cl, .int .i64 p.br, .int .i64 p.sc, .int .i64 p.jn, .int .i64 p.wd, .int .i32 p.mi, .int .i32 p.pa, .bool p.op]) 1).run Tryz.prog w = .ok (.int .i64 p.cl) w := by
  simp [Instr.field, go_sem, part, asAgg, Tryz.isAgg3]
theorem of_x (r : Int) (p : Pr) (hp : ofP r = p) (w : World) : Calls Tryz.prog 64 #[.int .i32 r] w fun e w' => e = .returned (.agg #[.int .i64 p.bidi, .int .i64 p.cl, .int .i64 p.br, .int .i64 p.sc, .int .i64 p.jn, .int .i64 p.wd, .int .i32 p.mi, .int .i32 p.pa, .bool p.op]) ∧ Up w w' := by
  have := of_ok r w
  rw [hp] at this
  exact this
theorem rof_y (r : Int) (p : Pr) (hp : ofP r = p) (w : World) : Calls Tryz.prog 86 #[.int .i32 r] w fun e w' => e = .returned (.agg #[.int .i64 p.bidi, .int .i64 p.cl, .int .i64 p.br, .int .i64 p.sc, .int .i64 p.jn, .int .i64 p.wd, .int .i32 p.mi, .int .i32 p.pa, .bool p.op]) ∧ Up w w' := by
  have := rof_ok r w
  rw [hp] at this
  exact this

set_option maxHeartbeats 1000000 in
theorem class_ok (r : Int) (w : World) : Calls Tryz.prog 41 #[.int .i32 r] w fun e w' => e = .returned (.int .i64 (cl r)) ∧ Up w w' := by
  obtain ⟨p, hp⟩ : ∃ p, ofP r = p := ⟨_, rfl⟩
  have hc : cl r = p.cl := by unfold cl; rw [hp]
  rw [hc]
  have HC := Lib.hid (fun w => of_x r p hp w)
  have hfb := fun w => field_cl p w
  clear hp hc
  go_enter Tryz.func41, Tryz.ntmps41
  go_wp2_with (go_at_call 64; refine (HC.out _).mono ?_; rintro e u ⟨rfl, hu⟩)
  go_ret
  exact ⟨rfl, hu⟩
set_option maxHeartbeats 1000000 in
theorem rclass_ok (r : Int) (w : World) : Calls Tryz.prog 81 #[.int .i32 r] w fun e w' => e = .returned (.int .i64 (cl r)) ∧ Up w w' := by
  obtain ⟨p, hp⟩ : ∃ p, ofP r = p := ⟨_, rfl⟩
  have hc : cl r = p.cl := by unfold cl; rw [hp]
  rw [hc]
  have HC := Lib.hid (fun w => rof_y r p hp w)
  have hfb := fun w => field_cl p w
  clear hp hc
  go_enter Tryz.func81, Tryz.ntmps81
  go_wp2_with (go_at_call 86; refine (HC.out _).mono ?_; rintro e u ⟨rfl, hu⟩)
  go_ret
  exact ⟨rfl, hu⟩

theorem isReg_ok (a : Int) (w : World) : Calls Tryz.prog 65 #[.int .i64 a] w fun e w' => e = .returned (.bool (a == 6)) ∧ w = w' := by
  go_enter Tryz.func65, Tryz.ntmps65
  go_wp2
  go_ret
  exact ⟨rfl, rfl⟩
theorem isAtt_ok (a : Int) (w : World) : Calls Tryz.prog 43 #[.int .i64 a] w fun e w' => e = .returned (.bool (attB a)) ∧ w = w' := by
  unfold attB
  by_cases h1 : a = 4
  · subst h1
    go_enter Tryz.func43, Tryz.ntmps43
    go_wp2
    go_ret
    exact ⟨rfl, rfl⟩
  have e1 : (a == 4) = false := beq_eq_false_iff_ne.2 h1
  rw [e1]
  go_enter Tryz.func43, Tryz.ntmps43
  go_wp2
  go_ret
  exact ⟨rfl, rfl⟩
theorem isBreak_ok (a : Int) (w : World) : Calls Tryz.prog 42 #[.int .i64 a] w fun e w' => e = .returned (.bool (stopB a)) ∧ w = w' := by
  unfold stopB
  by_cases h1 : a = 1
  · subst h1
    go_enter Tryz.func42, Tryz.ntmps42
    go_wp2
    go_ret
    exact ⟨rfl, rfl⟩
  have e1 : (a == 1) = false := beq_eq_false_iff_ne.2 h1
  by_cases h2 : a = 2
  · subst h2
    go_enter Tryz.func42, Tryz.ntmps42
    go_wp2
    go_ret
    exact ⟨rfl, rfl⟩
  have e2 : (a == 2) = false := beq_eq_false_iff_ne.2 h2
  rw [e1, e2]
  go_enter Tryz.func42, Tryz.ntmps42
  go_wp2
  go_ret
  exact ⟨rfl, rfl⟩
theorem rstops_ok (a : Int) (w : World) : Calls Tryz.prog 83 #[.int .i64 a] w fun e w' => e = .returned (.bool (stopB a)) ∧ w = w' := by
  unfold stopB
  by_cases h1 : a = 1
  · subst h1
    go_enter Tryz.func83, Tryz.ntmps83
    go_wp2
    go_ret
    exact ⟨rfl, rfl⟩
  have e1 : (a == 1) = false := beq_eq_false_iff_ne.2 h1
  by_cases h2 : a = 2
  · subst h2
    go_enter Tryz.func83, Tryz.ntmps83
    go_wp2
    go_ret
    exact ⟨rfl, rfl⟩
  have e2 : (a == 2) = false := beq_eq_false_iff_ne.2 h2
  rw [e1, e2]
  go_enter Tryz.func83, Tryz.ntmps83
  go_wp2
  go_ret
  exact ⟨rfl, rfl⟩
set_option maxHeartbeats 2000000 in
theorem same_ok (a b : Int) (w : World) : Calls Tryz.prog 46 #[.int .i64 a, .int .i64 b] w fun e w' => e = .returned (.bool (syll a b)) ∧ w = w' := by
  obtain ⟨V, hV⟩ : ∃ V, syll a b = V := ⟨_, rfl⟩
  rw [hV]
  have HV := Lib.hid hV
  clear hV
  have eq : ∀ (x y : Int), (x == y) = decide (x = y) := fun x y => by by_cases h : x = y <;> simp [h]
  by_cases b9 : b = 9
  all_goals by_cases b10 : b = 10
  all_goals by_cases b11 : b = 11
  all_goals by_cases b12 : b = 12
  all_goals by_cases b13 : b = 13
  all_goals first | (exfalso; omega) | skip
  all_goals
    go_enter Tryz.func46, Tryz.ntmps46
    go_wp2
  all_goals
    go_ret
    refine ⟨?_, rfl⟩
    have := HV.out
    clear HV
    subst this
    unfold syll
    simp_all
set_option maxHeartbeats 2000000 in
theorem hangul_ok (a b : Int) (w : World) : Calls Tryz.prog 82 #[.int .i64 a, .int .i64 b] w fun e w' => e = .returned (.bool (syll a b)) ∧ w = w' := by
  obtain ⟨V, hV⟩ : ∃ V, syll a b = V := ⟨_, rfl⟩
  rw [hV]
  have HV := Lib.hid hV
  clear hV
  have eq : ∀ (x y : Int), (x == y) = decide (x = y) := fun x y => by by_cases h : x = y <;> simp [h]
  by_cases b9 : b = 9
  all_goals by_cases b10 : b = 10
  all_goals by_cases b11 : b = 11
  all_goals by_cases b12 : b = 12
  all_goals by_cases b13 : b = 13
  all_goals first | (exfalso; omega) | skip
  all_goals
    go_enter Tryz.func82, Tryz.ntmps82
    go_wp2
  all_goals
    go_ret
    refine ⟨?_, rfl⟩
    have := HV.out
    clear HV
    subst this
    unfold syll
    simp_all
end Go.Proofs.YtnpcakeagpbgiaaGreat
