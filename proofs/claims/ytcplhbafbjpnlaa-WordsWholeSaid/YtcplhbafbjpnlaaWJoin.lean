/-
  Contracts of the program's bridged and joined (of words): whether a rule applies in the middle of four kinds. No condition.
-/
import Derived.Test.YtcplhbafbjpnlaaWCls
import Derived.BigQuiet

set_option linter.unusedVariables false
set_option linter.unusedSimpArgs false
namespace Go.Proofs.Ytcplhbafbjpnlaa
open Go.ChangeShapes Go.WideShapes Go.ChangeAt Go.RowKit Go.Sort

theorem arr3_run (A : Option Addr) (n c : Nat) (h : 3 ≤ n) (w : World) : (Instr.arrayAt 45 (.slice A n c)).run Try.prog w = .ok (.pointer A) w := by
  have : ¬ n < 3 := by omega
  simp [Instr.arrayAt, Sem.run_bind, run_underlying Try.underlying45, this, go_sem]
theorem arr4_run (A : Option Addr) (n c : Nat) (h : 4 ≤ n) (w : World) : (Instr.arrayAt 40 (.slice A n c)).run Try.prog w = .ok (.pointer A) w := by
  have : ¬ n < 4 := by omega
  simp [Instr.arrayAt, Sem.run_bind, run_underlying Try.underlying40, this, go_sem]
theorem Try.info40 : (Try.prog.info? 40).map (·.size) = some 4 := by kernel_rfl
theorem eq3_run (a b c o m p : Int) (w : World) : (binOp .eql 45 (.agg #[.int .i64 a, .int .i64 b, .int .i64 c]) (.agg #[.int .i64 o, .int .i64 m, .int .i64 p])).run Try.prog w = .ok (.bool (a == o && b == m && c == p)) w := by
  have u3 := Try.underlying3
  have a3 := Try.isAgg3
  have z3 := Try.sizeOf3
  rw [run_eql_struct, show (10000 : Nat) = 9999 + 1 from rfl, Op.equalIn]
  simp only [Sem.run_bind, run_underlying Try.underlying45, Result.andThen_ok]
  simp only [Std.Legacy.Range.forIn_eq_forIn_range', Std.Legacy.Range.size, Nat.sub_zero, Nat.add_sub_cancel, Nat.div_one, List.range'_succ, List.range'_zero, List.forIn_cons, List.forIn_nil]
  go_simp
  by_cases h1 : a = o <;> by_cases h2 : b = m <;> by_cases h3 : c = p <;> simp [h1, h2, h3]
set_option maxHeartbeats 1000000 in
theorem bridged_ok (a b c d o m : Int) (w : World) :
    Calls Try.prog 41 #[.agg #[.int .i64 a, .int .i64 b, .int .i64 c, .int .i64 d], .int .i64 o, .int .i64 m] w fun e w' => e = .returned (.bool (brB a b c d o m)) ∧ Up w w' := by
  obtain ⟨X, hX⟩ : ∃ X, (a == o && b == m && c == o) = X := ⟨_, rfl⟩
  obtain ⟨Y, hY⟩ : ∃ Y, (b == o && c == m && d == o) = Y := ⟨_, rfl⟩
  have hR : brB a b c d o m = (X || Y) := by unfold brB; rw [hX, hY]
  rw [hR]
  have h3 : ∀ W, (binOp .eql 45 (.agg #[.int .i64 a, .int .i64 b, .int .i64 c]) (.agg #[.int .i64 o, .int .i64 m, .int .i64 o])).run Try.prog W = .ok (.bool X) W := fun W => by rw [eq3_run, hX]
  have h4 : ∀ W, (binOp .eql 45 (.agg #[.int .i64 b, .int .i64 c, .int .i64 d]) (.agg #[.int .i64 o, .int .i64 m, .int .i64 o])).run Try.prog W = .ok (.bool Y) W := fun W => by rw [eq3_run, hY]
  have h1 := fun W => arr3_run (some ⟨w.heap.size, 0, none⟩) 3 4 (by omega) W
  have h2 := fun W => arr3_run (some ⟨w.heap.size, 1, none⟩) 3 3 (by omega) W
  clear hX hY hR
  have hU : Up w ((w.alloc (Obj.cells #[Value.int IntKind.i64 a, Value.int IntKind.i64 b, Value.int IntKind.i64 c, Value.int IntKind.i64 d] 40)).alloc (Obj.cells #[Value.int IntKind.i64 o, Value.int IntKind.i64 m, Value.int IntKind.i64 o] 45)) := ((Up.refl w).alloc _).alloc _
  cases X with
  | true =>
    go_enter Try.func41, Try.ntmps41
    go_wp2
    go_quiet (fail)
    go_wp2
    go_ret
    exact ⟨by simp, hU.drewN _⟩
  | false =>
    go_enter Try.func41, Try.ntmps41
    go_wp2
    go_quiet (fail)
    go_wp2
    go_ret
    exact ⟨by simp, hU.drewN _⟩

set_option maxHeartbeats 2000000 in
theorem wjoined_ok (a b c d : Int) (w : World) :
    Calls Try.prog 24 #[.agg #[.int .i64 a, .int .i64 b, .int .i64 c, .int .i64 d]] w fun e w' => e = .returned (.bool (J a b c d)) ∧ Up w w' := by
  obtain ⟨V, hV⟩ : ∃ V, J a b c d = V := ⟨_, rfl⟩
  rw [hV]
  unfold J at hV
  have HB := Lib.hid (fun w => alnum_ok b w)
  have HC := Lib.hid (fun w => alnum_ok c w)
  have H1 := Lib.hid (fun w => bridged_ok a b c d 1 3 w)
  have H2 := Lib.hid (fun w => bridged_ok a b c d 2 4 w)
  have hU0 : Up w (w.alloc (Obj.cells #[Value.int IntKind.i64 a, Value.int IntKind.i64 b, Value.int IntKind.i64 c, Value.int IntKind.i64 d] 40)) := (Up.refl w).alloc _
  generalize alB b = x at HB hV
  generalize alB c = y at HC hV
  generalize brB a b c d 1 3 = p at H1 hV
  generalize brB a b c d 2 4 = q at H2 hV
  by_cases h5 : b = 5
  · subst h5
    have e5 : ((5 : Int) == 5) = true := rfl
    by_cases g5 : c = 5
    · subst g5
      have HV : Hid (true = V) := Lib.hid (by rw [← hV]; cases x <;> cases y <;> rfl)
      clear hV
      cases x <;> cases y <;>
      · go_enter Try.func24, Try.ntmps24
        go_wp2
        go_quiet (fail)
        go_wp2_with (go_at_call 36; first | ((with_reducible refine (HB.out _).mono ?_); rintro e u ⟨rfl, rfl⟩) | ((with_reducible refine (HC.out _).mono ?_); rintro e u ⟨rfl, rfl⟩))
        go_ret
        exact ⟨by rw [← HV.out]; rfl, hU0.drewN _⟩
    · have g5' : (c == 5) = false := beq_eq_false_iff_ne.2 g5
      have HV : Hid (y = V) := Lib.hid (by rw [← hV]; cases x <;> cases y <;> simp [g5'])
      clear hV
      cases x <;> cases y <;>
      · go_enter Try.func24, Try.ntmps24
        go_wp2
        go_quiet (fail)
        go_wp2_with (go_at_call 36; first | ((with_reducible refine (HB.out _).mono ?_); rintro e u ⟨rfl, rfl⟩) | ((with_reducible refine (HC.out _).mono ?_); rintro e u ⟨rfl, rfl⟩))
        go_ret
        exact ⟨by rw [← HV.out]; rfl, hU0.drewN _⟩
  · have h5' : (b == 5) = false := beq_eq_false_iff_ne.2 h5
    rw [if_neg h5] at hV
    by_cases g5 : c = 5
    · subst g5
      rw [if_pos rfl] at hV
      have HV : Hid (x = V) := Lib.hid (by rw [← hV]; cases x <;> cases y <;> rfl)
      clear hV
      cases x <;> cases y <;>
      · go_enter Try.func24, Try.ntmps24
        go_wp2
        go_quiet (fail)
        go_wp2_with (go_at_call 36; first | ((with_reducible refine (HB.out _).mono ?_); rintro e u ⟨rfl, rfl⟩) | ((with_reducible refine (HC.out _).mono ?_); rintro e u ⟨rfl, rfl⟩))
        go_ret
        exact ⟨by rw [← HV.out]; rfl, hU0.drewN _⟩
    · have g5' : (c == 5) = false := beq_eq_false_iff_ne.2 g5
      rw [if_neg g5] at hV
      by_cases h7 : b = 7
      · subst h7
        obtain ⟨z, hz⟩ : ∃ z, (c == 7) = z := ⟨_, rfl⟩
        rw [if_pos rfl, hz] at hV
        have HV : Hid ((if (x && y) = true then true else z) = V) := Lib.hid hV
        clear hV
        have hz2 : (c == 7) = z := hz
        clear hz
        cases x <;> cases y <;>
        · go_enter Try.func24, Try.ntmps24
          go_wp2
          go_quiet (fail)
          go_wp2_with (go_at_call 36; first | ((with_reducible refine (HB.out _).mono ?_); rintro e u ⟨rfl, rfl⟩) | ((with_reducible refine (HC.out _).mono ?_); rintro e u ⟨rfl, rfl⟩))
          go_ret
          exact ⟨by rw [← HV.out]; first | rfl | (rw [← hz2]; rfl), hU0.drewN _⟩
      · have h7' : (b == 7) = false := beq_eq_false_iff_ne.2 h7
        rw [if_neg h7] at hV
        have HV : Hid ((if (x && y) = true then true else p || q) = V) := Lib.hid hV
        clear hV
        cases x <;> cases y <;> cases p <;>
        · go_enter Try.func24, Try.ntmps24
          go_wp2
          go_quiet (fail)
          have hUn := fun n => hU0.drewN n
          have hAn : ∀ n, At ((w.alloc (Obj.cells #[Value.int IntKind.i64 a, Value.int IntKind.i64 b, Value.int IntKind.i64 c, Value.int IntKind.i64 d] 40)).drewN n) w.heap.size 40 #[Value.int IntKind.i64 a, Value.int IntKind.i64 b, Value.int IntKind.i64 c, Value.int IntKind.i64 d] := fun n => at_new _ _ _
          go_wp2_with (first
            | (go_at_call 36; first | ((with_reducible refine (HB.out _).mono ?_); rintro e u ⟨rfl, rfl⟩) | ((with_reducible refine (HC.out _).mono ?_); rintro e u ⟨rfl, rfl⟩))
            | (go_at_call 41; first | ((with_reducible refine (H1.out _).mono ?_); rintro e u1 ⟨rfl, hu1⟩; have hA1 := (hAn _).up hu1; have k0 := hA1.cell 0 _ rfl; have k1 := hA1.cell 1 _ rfl; have k2 := hA1.cell 2 _ rfl; have k3 := hA1.cell 3 _ rfl) | ((with_reducible refine (H2.out _).mono ?_); rintro e u2 ⟨rfl, hu2⟩)))
          go_ret
          exact ⟨by rw [← HV.out]; first | rfl | simp, by first | exact (hUn _).trans (hu1.trans hu2) | exact (hUn _).trans hu1 | exact hUn _⟩
end Go.Proofs.Ytcplhbafbjpnlaa
