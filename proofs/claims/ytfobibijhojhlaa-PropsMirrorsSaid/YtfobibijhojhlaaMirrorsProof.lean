/-
  For every rune r the statement PropsMirrors returns true: a mirrored sign has that sign as its own, a bracket's other one likewise, one of both opens. No condition.
-/
import Derived.Test.YtfobibijhojhlaaHas
import Derived.Test.YtfobibijhojhlaaAlive
import Derived.Test.YtfobibijhojhlaaMir
import Derived.WalkKit
import Derived.ProofKit
import Derived.OpenShut
set_option linter.unusedVariables false
namespace Go.Proofs.Ytfobibijhojhlaa.propsMirrors
open Go.ChangeShapes Go.WideShapes Go.ChangeAt Go.RowKit Go.Proofs.Ytfobibijhojhlaa
theorem own : ownKnob Try.prog.godebug = none := by kernel_rfl
theorem laidOut : laidOutB Try.prog = true := by kernel_rfl

theorem field_mi (b c k s j wd mi pa : Int) (op : Bool) (w : World) : (Instr.field 23 (.agg #[.int .i64 b, .int .i64 c, .int .i64 k, .int .i64 s, .int .i64 j, .int .i64 wd, .int .i32 mi, .int .i32 pa, .bool op]) 6).run Try.prog w = .ok (.int .i32 mi) w := by
  simp [Instr.field, go_sem, part, asAgg, Try.isAgg21]
set_option maxHeartbeats 4000000 in
theorem walk (a0 : Int) (w : World) (w0 : (Lit.int .i32 a0).wf = true) :
    Calls Try.prog 6 #[.int .i32 a0] w fun e w' => e = .returned (.bool true) ∧ Below w.heap.size w w' := by
  obtain ⟨p, hp⟩ : ∃ p, ofP a0 = p := ⟨_, rfl⟩
  obtain ⟨m, hm⟩ : ∃ m, ofP p.mi = m := ⟨_, rfl⟩
  obtain ⟨q, hq⟩ : ∃ q, ofP p.pa = q := ⟨_, rfl⟩
  have k1 := mir_mi a0
  have k2 := mir_pa0 a0
  have k3 := mir_pa a0
  rw [hp] at k1 k2 k3
  rw [hm] at k1
  rw [hq] at k3
  have c1 := fun w => of_x a0 p hp w
  have c2 := fun w => of_x p.mi m hm w
  have c3 := fun w => of_x p.pa q hq w
  clear hp hm hq w0
  obtain ⟨b, c, k, s, j, wd, mi, pa, op⟩ := p
  obtain ⟨mb, mc, mk, ms, mj, mw, mm, mp, mo⟩ := m
  obtain ⟨qb, qc, qk, qs, qj, qw, qm, qp, qo⟩ := q
  simp only [] at k1 k2 k3
  by_cases hmi : mi = 0
  · subst hmi
    by_cases hpa : pa = 0
    · subst hpa
      have hop := k2 rfl
      subst hop
      clear k1 k2 k3
      have H1 := Lib.hid (show ∀ w, Calls Try.prog 7 #[.int .i32 a0] w fun e w' => e = .returned (.agg #[.int .i64 b, .int .i64 c, .int .i64 k, .int .i64 s, .int .i64 j, .int .i64 wd, .int .i32 0, .int .i32 0, .bool false]) ∧ Up w w' from c1)
      clear c1 c2 c3
      go_enter Try.func6, Try.ntmps6
      go_wp2_with (first | (go_at_call 7; (with_reducible refine (H1.out _).mono ?_); rintro e u1 ⟨rfl, hu1⟩; have hN := at_new u1 #[.int .i64 b, .int .i64 c, .int .i64 k, .int .i64 s, .int .i64 j, .int .i64 wd, .int .i32 0, .int .i32 0, .bool false] 23; have hU1 : Up w (u1.alloc (.cells #[.int .i64 b, .int .i64 c, .int .i64 k, .int .i64 s, .int .i64 j, .int .i64 wd, .int .i32 0, .int .i32 0, .bool false] 23)) := hu1.alloc _) | (go_at_call 12; refine (alive_ok _).mono ?_; rintro e u4 ⟨rfl, hu4⟩; have hUz := hU1.trans hu4))
      go_ret
      exact ⟨rfl, hUz.1⟩
    · obtain ⟨k4, k5⟩ := k3 hpa
      simp only [k4, k5] at c3
      clear k1 k2 k3 k4 k5
      cases op
      · have H1 := Lib.hid (show ∀ w, Calls Try.prog 7 #[.int .i32 a0] w fun e w' => e = .returned (.agg #[.int .i64 b, .int .i64 c, .int .i64 k, .int .i64 s, .int .i64 j, .int .i64 wd, .int .i32 0, .int .i32 pa, .bool false]) ∧ Up w w' from c1)
        have H3 := Lib.hid (show ∀ w, Calls Try.prog 7 #[.int .i32 pa] w fun e w' => e = .returned (.agg #[.int .i64 qb, .int .i64 qc, .int .i64 qk, .int .i64 qs, .int .i64 qj, .int .i64 qw, .int .i32 qm, .int .i32 a0, .bool true]) ∧ Up w w' from c3)
        clear c1 c2 c3
        go_enter Try.func6, Try.ntmps6
        go_wp2_with (first | (go_at_call 7; (with_reducible refine (H1.out _).mono ?_); rintro e u1 ⟨rfl, hu1⟩; have hN := at_new u1 #[.int .i64 b, .int .i64 c, .int .i64 k, .int .i64 s, .int .i64 j, .int .i64 wd, .int .i32 0, .int .i32 pa, .bool false] 23; have hU1 : Up w (u1.alloc (.cells #[.int .i64 b, .int .i64 c, .int .i64 k, .int .i64 s, .int .i64 j, .int .i64 wd, .int .i32 0, .int .i32 pa, .bool false] 23)) := hu1.alloc _) | (go_at_call 7; (with_reducible refine (H3.out _).mono ?_); rintro e u3 ⟨rfl, hu3⟩; have hN3 := hN.up hu3; have hU3 := hU1.trans hu3; have y7 := hN3.cell 7 _ rfl; have y8 := hN3.cell 8 _ rfl; have hs3 := hN3.lt; clear hN hU1 hu3; have hU1 := (hU3.alloc (.cells #[.int .i64 qb, .int .i64 qc, .int .i64 qk, .int .i64 qs, .int .i64 qj, .int .i64 qw, .int .i32 qm, .int .i32 a0, .bool true] 23)); clear hN3 hU3) | (go_at_call 12; refine (alive_ok _).mono ?_; rintro e u4 ⟨rfl, hu4⟩; have hUz := hU1.trans hu4))
        go_ret
        exact ⟨rfl, hUz.1⟩
      · have H1 := Lib.hid (show ∀ w, Calls Try.prog 7 #[.int .i32 a0] w fun e w' => e = .returned (.agg #[.int .i64 b, .int .i64 c, .int .i64 k, .int .i64 s, .int .i64 j, .int .i64 wd, .int .i32 0, .int .i32 pa, .bool true]) ∧ Up w w' from c1)
        have H3 := Lib.hid (show ∀ w, Calls Try.prog 7 #[.int .i32 pa] w fun e w' => e = .returned (.agg #[.int .i64 qb, .int .i64 qc, .int .i64 qk, .int .i64 qs, .int .i64 qj, .int .i64 qw, .int .i32 qm, .int .i32 a0, .bool false]) ∧ Up w w' from c3)
        clear c1 c2 c3
        go_enter Try.func6, Try.ntmps6
        go_wp2_with (first | (go_at_call 7; (with_reducible refine (H1.out _).mono ?_); rintro e u1 ⟨rfl, hu1⟩; have hN := at_new u1 #[.int .i64 b, .int .i64 c, .int .i64 k, .int .i64 s, .int .i64 j, .int .i64 wd, .int .i32 0, .int .i32 pa, .bool true] 23; have hU1 : Up w (u1.alloc (.cells #[.int .i64 b, .int .i64 c, .int .i64 k, .int .i64 s, .int .i64 j, .int .i64 wd, .int .i32 0, .int .i32 pa, .bool true] 23)) := hu1.alloc _) | (go_at_call 7; (with_reducible refine (H3.out _).mono ?_); rintro e u3 ⟨rfl, hu3⟩; have hN3 := hN.up hu3; have hU3 := hU1.trans hu3; have y7 := hN3.cell 7 _ rfl; have y8 := hN3.cell 8 _ rfl; have hs3 := hN3.lt; clear hN hU1 hu3; have hU1 := (hU3.alloc (.cells #[.int .i64 qb, .int .i64 qc, .int .i64 qk, .int .i64 qs, .int .i64 qj, .int .i64 qw, .int .i32 qm, .int .i32 a0, .bool false] 23)); clear hN3 hU3) | (go_at_call 12; refine (alive_ok _).mono ?_; rintro e u4 ⟨rfl, hu4⟩; have hUz := hU1.trans hu4))
        go_ret
        exact ⟨rfl, hUz.1⟩
  · have k7 := k1 hmi
    simp only [k7] at c2
    clear k7
    by_cases hpa : pa = 0
    · subst hpa
      have hop := k2 rfl
      subst hop
      clear k1 k2 k3
      have H1 := Lib.hid (show ∀ w, Calls Try.prog 7 #[.int .i32 a0] w fun e w' => e = .returned (.agg #[.int .i64 b, .int .i64 c, .int .i64 k, .int .i64 s, .int .i64 j, .int .i64 wd, .int .i32 mi, .int .i32 0, .bool false]) ∧ Up w w' from c1)
      have H2 := Lib.hid (show ∀ w, Calls Try.prog 7 #[.int .i32 mi] w fun e w' => e = .returned (.agg #[.int .i64 mb, .int .i64 mc, .int .i64 mk, .int .i64 ms, .int .i64 mj, .int .i64 mw, .int .i32 a0, .int .i32 mp, .bool mo]) ∧ Up w w' from c2)
      have hf := fun w => field_mi mb mc mk ms mj mw a0 mp mo w
      clear c1 c2 c3
      go_enter Try.func6, Try.ntmps6
      go_wp2_with (first | (go_at_call 7; (with_reducible refine (H1.out _).mono ?_); rintro e u1 ⟨rfl, hu1⟩; have hN := at_new u1 #[.int .i64 b, .int .i64 c, .int .i64 k, .int .i64 s, .int .i64 j, .int .i64 wd, .int .i32 mi, .int .i32 0, .bool false] 23; have hU1 : Up w (u1.alloc (.cells #[.int .i64 b, .int .i64 c, .int .i64 k, .int .i64 s, .int .i64 j, .int .i64 wd, .int .i32 mi, .int .i32 0, .bool false] 23)) := hu1.alloc _) | (go_at_call 7; (with_reducible refine (H2.out _).mono ?_); rintro e u2 ⟨rfl, hu2⟩; have hN2 := hN.up hu2; have hU2 := hU1.trans hu2; have x7 := hN2.cell 7 _ rfl; have x8 := hN2.cell 8 _ rfl; have hs2 := hN2.lt; clear hN hU1 hu2; have hN := hN2; have hU1 := hU2; clear hN2 hU2) | (go_at_call 12; refine (alive_ok _).mono ?_; rintro e u4 ⟨rfl, hu4⟩; have hUz := hU1.trans hu4))
      go_ret
      exact ⟨rfl, hUz.1⟩
    · obtain ⟨k4, k5⟩ := k3 hpa
      simp only [k4, k5] at c3
      clear k1 k2 k3 k4 k5
      cases op
      · have H1 := Lib.hid (show ∀ w, Calls Try.prog 7 #[.int .i32 a0] w fun e w' => e = .returned (.agg #[.int .i64 b, .int .i64 c, .int .i64 k, .int .i64 s, .int .i64 j, .int .i64 wd, .int .i32 mi, .int .i32 pa, .bool false]) ∧ Up w w' from c1)
        have H2 := Lib.hid (show ∀ w, Calls Try.prog 7 #[.int .i32 mi] w fun e w' => e = .returned (.agg #[.int .i64 mb, .int .i64 mc, .int .i64 mk, .int .i64 ms, .int .i64 mj, .int .i64 mw, .int .i32 a0, .int .i32 mp, .bool mo]) ∧ Up w w' from c2)
        have hf := fun w => field_mi mb mc mk ms mj mw a0 mp mo w
        have H3 := Lib.hid (show ∀ w, Calls Try.prog 7 #[.int .i32 pa] w fun e w' => e = .returned (.agg #[.int .i64 qb, .int .i64 qc, .int .i64 qk, .int .i64 qs, .int .i64 qj, .int .i64 qw, .int .i32 qm, .int .i32 a0, .bool true]) ∧ Up w w' from c3)
        clear c1 c2 c3
        go_enter Try.func6, Try.ntmps6
        go_wp2_with (first | (go_at_call 7; (with_reducible refine (H1.out _).mono ?_); rintro e u1 ⟨rfl, hu1⟩; have hN := at_new u1 #[.int .i64 b, .int .i64 c, .int .i64 k, .int .i64 s, .int .i64 j, .int .i64 wd, .int .i32 mi, .int .i32 pa, .bool false] 23; have hU1 : Up w (u1.alloc (.cells #[.int .i64 b, .int .i64 c, .int .i64 k, .int .i64 s, .int .i64 j, .int .i64 wd, .int .i32 mi, .int .i32 pa, .bool false] 23)) := hu1.alloc _) | (go_at_call 7; (with_reducible refine (H2.out _).mono ?_); rintro e u2 ⟨rfl, hu2⟩; have hN2 := hN.up hu2; have hU2 := hU1.trans hu2; have x7 := hN2.cell 7 _ rfl; have x8 := hN2.cell 8 _ rfl; have hs2 := hN2.lt; clear hN hU1 hu2; have hN := hN2; have hU1 := hU2; clear hN2 hU2) | (go_at_call 7; (with_reducible refine (H3.out _).mono ?_); rintro e u3 ⟨rfl, hu3⟩; have hN3 := hN.up hu3; have hU3 := hU1.trans hu3; have y7 := hN3.cell 7 _ rfl; have y8 := hN3.cell 8 _ rfl; have hs3 := hN3.lt; clear hN hU1 hu3; have hU1 := (hU3.alloc (.cells #[.int .i64 qb, .int .i64 qc, .int .i64 qk, .int .i64 qs, .int .i64 qj, .int .i64 qw, .int .i32 qm, .int .i32 a0, .bool true] 23)); clear hN3 hU3) | (go_at_call 12; refine (alive_ok _).mono ?_; rintro e u4 ⟨rfl, hu4⟩; have hUz := hU1.trans hu4))
        go_ret
        exact ⟨rfl, hUz.1⟩
      · have H1 := Lib.hid (show ∀ w, Calls Try.prog 7 #[.int .i32 a0] w fun e w' => e = .returned (.agg #[.int .i64 b, .int .i64 c, .int .i64 k, .int .i64 s, .int .i64 j, .int .i64 wd, .int .i32 mi, .int .i32 pa, .bool true]) ∧ Up w w' from c1)
        have H2 := Lib.hid (show ∀ w, Calls Try.prog 7 #[.int .i32 mi] w fun e w' => e = .returned (.agg #[.int .i64 mb, .int .i64 mc, .int .i64 mk, .int .i64 ms, .int .i64 mj, .int .i64 mw, .int .i32 a0, .int .i32 mp, .bool mo]) ∧ Up w w' from c2)
        have hf := fun w => field_mi mb mc mk ms mj mw a0 mp mo w
        have H3 := Lib.hid (show ∀ w, Calls Try.prog 7 #[.int .i32 pa] w fun e w' => e = .returned (.agg #[.int .i64 qb, .int .i64 qc, .int .i64 qk, .int .i64 qs, .int .i64 qj, .int .i64 qw, .int .i32 qm, .int .i32 a0, .bool false]) ∧ Up w w' from c3)
        clear c1 c2 c3
        go_enter Try.func6, Try.ntmps6
        go_wp2_with (first | (go_at_call 7; (with_reducible refine (H1.out _).mono ?_); rintro e u1 ⟨rfl, hu1⟩; have hN := at_new u1 #[.int .i64 b, .int .i64 c, .int .i64 k, .int .i64 s, .int .i64 j, .int .i64 wd, .int .i32 mi, .int .i32 pa, .bool true] 23; have hU1 : Up w (u1.alloc (.cells #[.int .i64 b, .int .i64 c, .int .i64 k, .int .i64 s, .int .i64 j, .int .i64 wd, .int .i32 mi, .int .i32 pa, .bool true] 23)) := hu1.alloc _) | (go_at_call 7; (with_reducible refine (H2.out _).mono ?_); rintro e u2 ⟨rfl, hu2⟩; have hN2 := hN.up hu2; have hU2 := hU1.trans hu2; have x7 := hN2.cell 7 _ rfl; have x8 := hN2.cell 8 _ rfl; have hs2 := hN2.lt; clear hN hU1 hu2; have hN := hN2; have hU1 := hU2; clear hN2 hU2) | (go_at_call 7; (with_reducible refine (H3.out _).mono ?_); rintro e u3 ⟨rfl, hu3⟩; have hN3 := hN.up hu3; have hU3 := hU1.trans hu3; have y7 := hN3.cell 7 _ rfl; have y8 := hN3.cell 8 _ rfl; have hs3 := hN3.lt; clear hN hU1 hu3; have hU1 := (hU3.alloc (.cells #[.int .i64 qb, .int .i64 qc, .int .i64 qk, .int .i64 qs, .int .i64 qj, .int .i64 qw, .int .i32 qm, .int .i32 a0, .bool false] 23)); clear hN3 hU3) | (go_at_call 12; refine (alive_ok _).mono ?_; rintro e u4 ⟨rfl, hu4⟩; have hUz := hU1.trans hu4))
        go_ret
        exact ⟨rfl, hUz.1⟩

set_option maxRecDepth 100000 in
theorem lifted (os : Os) (started : os.Started) (H : Type) (enc : TypeId × Value → H) :
    ReturnsInHanded {} Try.checked os 6 .any (Rows.propsMirrorsSpec.pre6 enc Try.prog Try.f6 Rows.propsMirrorsRow.domain false) (Rows.propsMirrorsSpec.post enc Try.prog Try.f6 false true false false) := by
  refine returnsInHanded_of_change (C := Try.checked) own started (by kernel_rfl) Try.func6
    (ChangeSpec.witness6 (enc := enc) (C := Try.checked) false ⟨#[], #[.int .i32 0], []⟩ 8 (by kernel_rfl) (by kernel_rfl) (by kernel_rfl) (by kernel_rfl)) ?_
  intro W base args ds gs before hval0 hW hcnd _
  have hval : ∀ (j : Nat) t v, Try.f6.params[j]? = some t → args[j]? = some v → Value.okWide Try.prog W .any base t v := hval0
  have hW' := hW
  obtain ⟨p, q, hA0, hV, rfl, hfz, hnd⟩ := hW
  have hA : DataW.TrodAll enc Try.prog W 0 (fun _ => true) true Try.f6.params.toList args.toList ds p := hA0
  rw [Try.params6] at hA hval
  obtain ⟨v0, vs0, d0, ds0, p0, q0, hargs, rfl, rfl, h0, r0⟩ := trodAll_cons hA
  obtain ⟨rfl, rfl, rfl⟩ := trodAll_nil r0
  obtain rfl : args = #[v0] := by cases args; simp_all
  obtain ⟨rfl, rfl⟩ := trodVars_none hV
  clear hA0 hval0
  have hlt : ∀ x ∈ p0 ++ [], x.block < W.heap.size := fun x hx => by simpa using hW'.lt x (List.mem_append_left _ hx)
  have k0 := h0
  obtain ⟨a0, rfl, rfl, rfl, w0⟩ := open_int Try.underlying21 (hval 0 21 v0 rfl rfl) h0
  refine (walk a0 W w0).mono fun e W' ⟨he, hb⟩ => ?_
  subst he
  exact ⟨_, rfl, _, _, _, [], _, [], hW', (trodAll_cons_mk (shut_bool Try.underlying4 _) trodAll_mk0), (trodAll_cons_mk (Below.trod laidOut (by kernel_rfl) (of_decide_eq_true (by kernel_rfl)) k0 hb (fun x hx => hlt x (List.mem_append_left _ hx))) trodAll_mk0), rfl, hb.frame _, fun h => by cases h⟩

theorem over : Rows.propsMirrorsRow.holds Try.pinned (OpenSpec.ofChange Rows.propsMirrorsSpec) :=
  OpenClaim.holds_of_wide 6 Try.f6 rfl rfl rfl rfl rfl rfl rfl ⟨rfl, rfl, rfl, rfl, rfl⟩ rfl rfl rfl rfl rfl (by kernel_rfl) Try.func6 (by kernel_rfl)
    (of_decide_eq_true (by kernel_rfl)) (by unfold Func.isWrapper; first | (rw [if_pos (by decide +kernel)]; kernel_rfl) | (rw [if_neg (by decide +kernel)]; exact ⟨rfl, rfl⟩))
    (fun os started H enc _ => lifted os started H enc)

/-- the statement -/
theorem proved : Rows.PropsMirrorsSaid :=
  over
#print axioms proved
end Go.Proofs.Ytfobibijhojhlaa.propsMirrors
