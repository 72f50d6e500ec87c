/-
  The document's state by value, and contracts of its small functions: the last entry, the next level, whether there is room, the class by the last entry. Condition: at most 1000 entries.
-/
import Derived.Test.YtjdkpnmejkbkiaaXst
import Derived.IntWalk
set_option linter.unusedVariables false
set_option linter.unusedSimpArgs false
namespace Go.Proofs.Ytjdkpnmejkbkiaa
open Go.ChangeShapes Go.WideShapes Go.ChangeAt Go.RowKit Go.Sort

/-- the document's state s as a value -/
def RSt (w : World) (v : Value) (s : Xs) : Prop := ∃ A c, v = .agg #[.slice A s.l.length c, .int .i64 (s.isos : Int), .int .i64 (s.embs : Int), .int .i64 (s.vals : Int)] ∧ s.l.length ≤ c ∧ HasN LE w w.heap.size A s.l
/-- the block of a state's stack -/
def stkB (v : Value) : Option Nat := match v with | .agg cs => (cs[0]?.getD undef).ownBlock | _ => none
/-- the new stack lies where the elder one lies, or in a block that was not there -/
def Far (w : World) (v v' : Value) : Prop := ∀ b, b < w.heap.size → stkB v ≠ some b → stkB v' ≠ some b
theorem far_new {w : World} {v : Value} {A : Option Addr} {n c : Nat} {x y z : Value} (h : ∀ a, A = some a → w.heap.size ≤ a.block) : Far w v (.agg #[.slice A n c, x, y, z]) := fun b hb _ e => by
  cases A with
  | none => cases e
  | some a =>
    have e2 : some a.block = some b := e
    injection e2 with e2
    have := h a rfl
    omega
theorem far_same {w : World} {A : Option Addr} {n c m d : Nat} {x y z x' y' z' : Value} : Far w (.agg #[.slice A n c, x, y, z]) (.agg #[.slice A m d, x', y', z']) := fun b _ h => by cases A <;> exact h
theorem RSt.carry {w w' : World} {v : Value} {s : Xs} (h : RSt w v s) (hb : Below w.heap.size w w') : RSt w' v s := by
  obtain ⟨A, c, h1, h2, h3⟩ := h
  exact ⟨A, c, h1, h2, h3.carry hb⟩
theorem At.four {w : World} {g : Nat} {t : TypeId} {a b c d : Value} (h : At w g t #[a, b, c, d]) : w.cell? ⟨g, 0, none⟩ = some a ∧ w.cell? ⟨g, 1, none⟩ = some b ∧ w.cell? ⟨g, 2, none⟩ = some c ∧ w.cell? ⟨g, 3, none⟩ = some d :=
  ⟨h.cell 0 _ rfl, h.cell 1 _ rfl, h.cell 2 _ rfl, h.cell 3 _ rfl⟩
theorem field0_50 (e : En) (w : World) : (Instr.field 49 (entV e) 0).run Try.prog w = .ok (.int .i64 (e.lv : Int)) w := by
  simp [Instr.field, go_sem, part, asAgg, entV, Try.isAgg3]
theorem field1_50 (e : En) (w : World) : (Instr.field 49 (entV e) 1).run Try.prog w = .ok (.int .i64 (e.ov : Int)) w := by
  simp [Instr.field, go_sem, part, asAgg, entV, Try.isAgg3]
theorem field2_50 (e : En) (w : World) : (Instr.field 49 (entV e) 2).run Try.prog w = .ok (.bool e.iso) w := by
  simp [Instr.field, go_sem, part, asAgg, entV, Try.isAgg4]

set_option maxHeartbeats 2000000 in
theorem rlast_ok (v : Value) (s : Xs) (w : World) (hs : RSt w v s) (hl : 0 < s.l.length ∧ s.l.length ≤ 1000) :
    Calls Try.prog 20 #[v] w fun e w' => e = .returned (entV (lastE s.l)) ∧ Up w w' := by
  obtain ⟨A, c, rfl, hc, hh⟩ := hs
  obtain ⟨q, hq⟩ : ∃ q, s.l.length = q + 1 := ⟨s.l.length - 1, by omega⟩
  obtain ⟨b, off, rfl, hb, c0, c1, c2⟩ := hh.ent (last_get s.l q hq)
  have hq2 : q ≤ 1000 := by omega
  rw [hq]
  generalize lastE s.l = E at c0 c1 c2 ⊢
  obtain ⟨lv, ov, iso⟩ := E
  unfold entV
  simp only at c0 c1 c2 ⊢
  clear hh hl hc hq
  go_enter Try.func20, Try.ntmps20
  go_wp2_with (refine wpList_store_at rfl 49 _ _ rfl (w.heap.size + 1) _ rfl rfl 49 _ (by have := at_new (w.alloc (.cells #[Value.slice (some ⟨b, off, none⟩) (q + 1) c, .int .i64 (s.isos : Int), .int .i64 (s.embs : Int), .int .i64 (s.vals : Int)] 46)) #[.int .i64 0, .int .i64 0, .bool false] 49; rwa [World.size_alloc] at this) (by exact Try.info49) (by rfl) (by simp [Value.oneCell']) w (((Up.refl w).alloc _).alloc _) (Nat.le_succ _) ?_; intro w1 hat hk hs hu1)
  exact bodyPost_ret (results_cell_at Try.results20 _ _ (w.heap.size + 1) 49 _ _ (by rfl) hat Try.underlying49 rfl (by exact Try.info49)) rfl ⟨rfl, hu1⟩

set_option maxHeartbeats 2000000 in
theorem rnext_ok (n : Nat) (odd : Bool) (w : World) (hn : n ≤ 125) : Calls Try.prog 40 #[.int .i64 (n : Int), .bool odd] w fun e w' => e = .returned (.int .i64 (nextL n odd : Int)) ∧ w = w' := by
  obtain ⟨R, hR⟩ : ∃ R, nextL n odd = R := ⟨_, rfl⟩
  rw [hR]
  unfold nextL at hR
  have h01 : (n + 1) % 2 = 0 ∨ (n + 1) % 2 = 1 := by omega
  rcases h01 with h0 | h0 <;> rw [h0] at hR <;> cases odd
  all_goals
    simp only [show ((0 : Nat) == 1) = false from rfl, show ((1 : Nat) == 1) = true from rfl, if_true, if_false, reduceCtorEq] at hR
    have HR := Lib.hid hR
    clear hR
    first
      | (have hm : ((n : Int) + 1) % 2 = 0 := by omega
         clear h0
         go_enter Try.func40, Try.ntmps40
         go_wp2
         go_ret
         exact ⟨by rw [← HR.out]; rfl, rfl⟩)
      | (have hm : ((n : Int) + 1) % 2 = 1 := by omega
         clear h0
         go_enter Try.func40, Try.ntmps40
         go_wp2
         go_ret
         exact ⟨by rw [← HR.out]; rfl, rfl⟩)

set_option maxHeartbeats 2000000 in
theorem rroom_ok (v : Value) (s : Xs) (n : Nat) (w : World) (hs : RSt w v s) : Calls Try.prog 41 #[v, .int .i64 (n : Int)] w fun e w' => e = .returned (.bool (roomX s n)) ∧ Up w w' := by
  obtain ⟨A, c, rfl, hc, hh⟩ := hs
  have HR : Hid (roomX s n = (decide (n ≤ 125) && (s.isos == 0 && s.embs == 0))) := Lib.hid rfl
  generalize roomX s n = R at *
  generalize s.isos = i at *
  generalize s.embs = m at *
  clear hh
  by_cases h1 : n ≤ 125
  · have d1 : decide ((n : Int) ≤ 125) = true := decide_eq_true (by omega)
    rcases Nat.eq_zero_or_pos i with rfl | hi
    · rcases Nat.eq_zero_or_pos m with rfl | hm
      · have HR2 : Hid (R = true) := Lib.hid (by rw [HR.out, decide_eq_true h1]; rfl)
        go_enter Try.func41, Try.ntmps41
        go_wp2
        go_ret
        exact ⟨by rw [HR2.out]; rfl, (Up.refl w).alloc _⟩
      · have e2 : ((m : Int) == 0) = false := beq_eq_false_iff_ne.2 (by omega)
        have HR2 : Hid (R = false) := Lib.hid (by rw [HR.out, show (m == 0) = false from beq_eq_false_iff_ne.2 (by omega)]; simp)
        go_enter Try.func41, Try.ntmps41
        go_wp2
        go_ret
        exact ⟨by rw [HR2.out]; rfl, (Up.refl w).alloc _⟩
    · have e1 : ((i : Int) == 0) = false := beq_eq_false_iff_ne.2 (by omega)
      have HR2 : Hid (R = false) := Lib.hid (by rw [HR.out, show (i == 0) = false from beq_eq_false_iff_ne.2 (by omega)]; simp)
      go_enter Try.func41, Try.ntmps41
      go_wp2
      go_ret
      exact ⟨by rw [HR2.out]; rfl, (Up.refl w).alloc _⟩
  · have d1 : decide ((n : Int) ≤ 125) = false := decide_eq_false (by omega)
    have HR2 : Hid (R = false) := Lib.hid (by rw [HR.out, decide_eq_false h1]; rfl)
    go_enter Try.func41, Try.ntmps41
    go_wp2
    go_ret
    exact ⟨by rw [HR2.out]; rfl, (Up.refl w).alloc _⟩

set_option maxHeartbeats 2000000 in
theorem rown_ok (v : Value) (s : Xs) (c : Int) (w : World) (hs : RSt w v s) (hl : 0 < s.l.length ∧ s.l.length ≤ 1000) :
    Calls Try.prog 21 #[v, .int .i64 c] w fun e w' => e = .returned (.int .i64 (ownX s c)) ∧ Up w w' := by
  have HL : Hid (∀ W, Up w W → Calls Try.prog 20 #[v] W fun e w' => e = .returned (entV (lastE s.l)) ∧ Up W w') := Lib.hid fun W hW => rlast_ok v s W (hs.carry hW.1) hl
  have HO : Hid (ownX s c = if (lastE s.l).ov ≠ 0 then ((lastE s.l).ov : Int) else c) := Lib.hid rfl
  obtain ⟨A, cc, rfl, hc, hh⟩ := hs
  generalize ownX s c = O at *
  generalize lastE s.l = E at *
  have hf := fun w => field1_50 E w
  obtain ⟨lv, ov, iso⟩ := E
  unfold entV at HL hf
  simp only at HL HO hf
  clear hh hl
  have HA : Hid (∀ u, Up (w.alloc (.cells #[Value.slice A s.l.length cc, .int .i64 (s.isos : Int), .int .i64 (s.embs : Int), .int .i64 (s.vals : Int)] 46)) u → Up w u ∧ u.cell? ⟨w.heap.size, 0, none⟩ = some (Value.slice A s.l.length cc) ∧ u.cell? ⟨w.heap.size, 1, none⟩ = some (.int .i64 (s.isos : Int)) ∧ u.cell? ⟨w.heap.size, 2, none⟩ = some (.int .i64 (s.embs : Int)) ∧ u.cell? ⟨w.heap.size, 3, none⟩ = some (.int .i64 (s.vals : Int))) :=
    Lib.hid fun u hu => ⟨((Up.refl w).alloc _).trans hu, ((at_new w _ _).up hu).four⟩
  rcases Nat.eq_zero_or_pos ov with rfl | h0
  · have HO2 : Hid (O = c) := Lib.hid (by rw [HO.out]; rfl)
    simp only [show ((0 : Nat) : Int) = 0 from rfl] at hf HL
    clear HO
    go_enter Try.func21, Try.ntmps21
    go_wp2_with (go_at_call 20; refine (HL.out _ ((Up.refl w).alloc _)).mono ?_; rintro e u ⟨rfl, hu⟩)
    go_ret
    exact ⟨by rw [HO2.out]; rfl, ((Up.refl w).alloc _).trans hu⟩
  · have HO2 : Hid (O = ov) := Lib.hid (by rw [HO.out, if_pos (by omega)])
    have h1 : ((ov : Int) == 0) = false := by simp; omega
    clear HO
    go_enter Try.func21, Try.ntmps21
    go_wp2_with (go_at_call 20; first
      | (with_reducible refine (HL.out _ ((Up.refl w).alloc _)).mono ?_; rintro e u ⟨rfl, hu⟩; obtain ⟨hu2, d0, d1, d2, d3⟩ := HA.out u hu)
      | (with_reducible refine (HL.out _ hu2).mono ?_; rintro e u3 ⟨rfl, hu3⟩))
    go_ret
    exact ⟨by rw [HO2.out]; rfl, hu2.trans hu3⟩
end Go.Proofs.Ytjdkpnmejkbkiaa
