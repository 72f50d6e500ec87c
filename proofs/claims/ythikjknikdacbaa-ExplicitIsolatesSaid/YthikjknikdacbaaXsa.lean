/-
  Contracts of what the program reads of its state: the last entry, whether something overflows, the level above, the class that is shown. Condition: at most 1000 entries.
-/
import Derived.Test.YthikjknikdacbaaXst
set_option linter.unusedVariables false
set_option linter.unusedSimpArgs false
namespace Go.Proofs.Ythikjknikdacbaa
open Go.ChangeShapes Go.WideShapes Go.ChangeAt Go.RowKit Go.Sort

theorem field0_59 (e : En) (w : World) : (Instr.field 59 (entV e) 0).run Try.prog w = .ok (.int .i64 (e.lv : Int)) w := by
  simp [Instr.field, go_sem, part, asAgg, entV, Try.isAgg3]
theorem field2_59 (e : En) (w : World) : (Instr.field 59 (entV e) 2).run Try.prog w = .ok (.bool e.iso) w := by
  simp [Instr.field, go_sem, part, asAgg, entV, Try.isAgg4]

set_option maxHeartbeats 2000000 in
theorem last_ok (B g : Nat) (s : Xs) (w : World) (hs : St B w g s) (hl : 0 < s.l.length ∧ s.l.length ≤ 1000) :
    Calls Try.prog 39 #[.pointer (some ⟨g, 0, none⟩)] w fun e w' => e = .returned (entV (lastE s.l)) ∧ Up w w' := by
  obtain ⟨lo, v, h1, h2, h3⟩ := hs
  obtain ⟨q, hq⟩ : ∃ q, s.l.length = q + 1 := ⟨s.l.length - 1, by omega⟩
  obtain ⟨A, c, rfl, hc, _, hh⟩ := h2.has
  obtain ⟨b, off, rfl, hb, c0, c1, c2⟩ := hh.ent (last_get s.l q hq)
  have hq2 : q ≤ 1000 := by omega
  rw [hq] at h1
  generalize lastE s.l = E at c0 c1 c2 ⊢
  obtain ⟨lv, ov, iso⟩ := E
  unfold entV
  simp only at c0 c1 c2 ⊢
  have d0 : ∀ n os, (grow (((w.alloc (.cells #[.int .i64 0, .int .i64 0, .bool false] 59))).drewN n) os).cell? ⟨g, 0, none⟩ = some (Value.slice (some ⟨b, off, none⟩) (q + 1) c) := grown_cell (h1.alloc _) 0 _ rfl
  have hu0 : ∀ n os, Up w (grow (((w.alloc (.cells #[.int .i64 0, .int .i64 0, .bool false] 59))).drewN n) os) := fun n os => ((Up.refl w).alloc _).trans (Up.of_grow _ _ _)
  have e0 := fun n os => (hu0 n os).cell c0
  have e1 := fun n os => (hu0 n os).cell c1
  have e2 := fun n os => (hu0 n os).cell c2
  have hat := fun n os => (at_new w #[.int .i64 0, .int .i64 0, .bool false] 59).up (Up.of_grow _ n os)
  clear h1 h2 h3 hh hl hc hq c0 c1 c2
  have mixed : Try.prog.follows .mixedOrders = true := by kernel_rfl
  go_enter Try.func39, Try.ntmps39
  go_wp2
  refine wp_region_last_lit _ ⟨none, .move (.const undef), 0, "", #[], none⟩ (by kernel_rfl) mixed (by rfl) (by rfl) (by kernel_rfl) ?_
  dsimp only [List.dropLast, List.getLastD, List.getLast]
  repeat (go_big_quiet_step (fail))
  refine wpQuiet_nil ?_
  intro w' hw'
  obtain ⟨⟨n, os⟩, hw''⟩ := hw'
  subst hw''
  refine wp_store_row 59 _ _ rfl w.heap.size _ rfl rfl 59 _ (hat n os) (by exact Try.info59) rfl (by simp [Value.oneCell']) ?_
  have hA2 : At ((grow (((w.alloc (.cells #[.int .i64 0, .int .i64 0, .bool false] 59))).drewN n) os).setRow w.heap.size #[.int .i64 (lv : Int), .int .i64 (ov : Int), .bool iso]) w.heap.size 59 #[.int .i64 (lv : Int), .int .i64 (ov : Int), .bool iso] := setRow_heap _ w.heap.size _ _ _ _ (hat n os)
  have hU3 : Up w ((grow (((w.alloc (.cells #[.int .i64 0, .int .i64 0, .bool false] 59))).drewN n) os).setRow w.heap.size #[.int .i64 (lv : Int), .int .i64 (ov : Int), .bool iso]) := ⟨(hu0 n os).1.trans ⟨rfl, rfl, rfl, by simp, fun k hk => setRow_other _ _ _ _ (by omega)⟩, (hu0 n os).2⟩
  go_wp2
  exact bodyPost_ret (results_cell_at Try.results39 _ _ w.heap.size 59 _ _ (by rfl) hA2 Try.underlying59 rfl (by exact Try.info59)) rfl ⟨rfl, hU3⟩

def ovfB (s : Xs) : Bool := decide (0 < s.isos) || decide (0 < s.embs)
set_option maxHeartbeats 2000000 in
theorem ovf_ok (B g : Nat) (s : Xs) (w : World) (hs : St B w g s) :
    Calls Try.prog 40 #[.pointer (some ⟨g, 0, none⟩)] w fun e w' => e = .returned (.bool (ovfB s)) ∧ w = w' := by
  obtain ⟨lo, v, h1, h2, h3⟩ := hs
  have d1 : w.cell? ⟨g, 1, none⟩ = some (.int .i64 (s.isos : Int)) := h1.cell 1 _ rfl
  have d2 : w.cell? ⟨g, 2, none⟩ = some (.int .i64 (s.embs : Int)) := h1.cell 2 _ rfl
  have HO : Hid (ovfB s = (decide (0 < s.isos) || decide (0 < s.embs))) := Lib.hid rfl
  generalize ovfB s = O at *
  generalize s.isos = i at *
  generalize s.embs = m at *
  clear h1 h2 h3
  rcases Nat.eq_zero_or_pos i with rfl | hi
  · rcases Nat.eq_zero_or_pos m with rfl | hm
    · go_enter Try.func40, Try.ntmps40
      go_wp2
      go_ret
      exact ⟨by rw [HO.out]; rfl, rfl⟩
    · have e1 : decide ((0 : Int) < (m : Int)) = true := decide_eq_true (by omega)
      go_enter Try.func40, Try.ntmps40
      go_wp2
      go_ret
      exact ⟨by rw [HO.out, decide_eq_true hm]; rfl, rfl⟩
  · have e1 : decide ((0 : Int) < (i : Int)) = true := decide_eq_true (by omega)
    go_enter Try.func40, Try.ntmps40
    go_wp2
    go_ret
    exact ⟨by rw [HO.out, decide_eq_true hi]; rfl, rfl⟩

theorem and_one : ∀ n : Nat, n < 127 → bits .and .i64 ((n : Int) + 1) 1 = (((n + 1) % 2 : Nat) : Int) := by decide
set_option maxHeartbeats 2000000 in
theorem above_ok (B g : Nat) (s : Xs) (left : Bool) (w : World) (hs : St B w g s) (hl : 0 < s.l.length ∧ s.l.length ≤ 1000) (hv : (lastE s.l).lv ≤ 125) :
    Calls Try.prog 42 #[.pointer (some ⟨g, 0, none⟩), .bool left] w fun e w' => e = .returned (.int .i64 (nextL (lastE s.l).lv left : Int)) ∧ Up w w' := by
  have HL := Lib.hid (last_ok B g s w hs hl)
  generalize lastE s.l = E at *
  have hf := fun w => field0_59 E w
  obtain ⟨lv, ov, iso⟩ := E
  unfold entV at hf
  simp only at hf hv ⊢
  obtain ⟨R, hR⟩ : ∃ R, nextL lv left = R := ⟨_, rfl⟩
  rw [hR]
  have hb := and_one lv (by omega)
  unfold nextL at hR
  have h01 : (lv + 1) % 2 = 0 ∨ (lv + 1) % 2 = 1 := by omega
  clear hs hl
  rcases h01 with h0 | h0 <;> rw [h0] at hb hR <;> cases left
  all_goals
    simp only [Int.natCast_zero, show ((1 : Nat) : Int) = 1 from rfl, show ((0 : Nat) == 1) = false from rfl, show ((1 : Nat) == 1) = true from rfl, if_true, if_false, reduceCtorEq] at hb hR
    have HR := Lib.hid hR
    clear hR h0
    go_enter Try.func42, Try.ntmps42
    go_wp2_with (go_at_call 39; refine HL.out.mono ?_; rintro e u ⟨rfl, hu⟩; unfold entV; simp only)
    go_ret
    exact ⟨by rw [← HR.out]; rfl, hu⟩
end Go.Proofs.Ythikjknikdacbaa
