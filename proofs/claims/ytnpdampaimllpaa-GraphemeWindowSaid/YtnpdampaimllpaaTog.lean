/-
  Contract of together: three texts, one behind the other; what stands between two texts does not matter for boundaries within the first and, past the window, within the last. Condition: at most 1000 code points each.
-/
import Derived.Test.YtnpdampaimllpaaCuts
import Derived.Laws.AppendOwnNone
import Derived.Test.YtnpdampaimllpaaHas
set_option linter.unusedVariables false
namespace Go.Proofs.Ytnpdampaimllpaa
open Go.ChangeShapes Go.WideShapes Go.ChangeAt Go.RowKit

theorem Try.full21 : (Try.prog.info? 21).map (fun i => (i.zero, i.size, i.bytes)) = some (some (.int .i32 0), 1, 4) := by kernel_rfl

/-- append of a slice that came in to a slice of the call's own -/
theorem wpList_pushall {P : Program} {ops : Array Oper} {rest : List Oper} {o : Oper} {a : Act} {Q : Exit → Act → World → Prop} {k : IntKind} {e : TypeId} {bytes : Nat} (hgd : o.guard = none) (s x : Operand) (t : TypeId)
    (ho : o.op = .call { callee := .builtin .append, args := #[s, x], argTypes := #[t, t] })
    (ht : P.underlying t = some (.slice e)) (hi : (P.info? e).map (fun i => (i.zero, i.size, i.bytes)) = some (some (.int k 0), 1, bytes)) (hby : bytes ≤ 64)
    (B : Nat) (v : Value) (xs ys : List Int) (W0 wr : World) (A : Option Addr) (n c : Nat) (hnc : n = ys.length) (hA : A = none → c = 0) (hh : Has wr wr.heap.size A (ys.map (Value.int k))) (hown : Mine k e wr B v xs) (hs : a.eval s = v) (hx : a.eval x = .slice A n c)
    (hbl : Below B W0 wr) (hB : B ≤ wr.heap.size) (hn : xs.length ≤ 1000000) (hm : ys.length ≤ 1000000)
    (h : ∀ v' w', Mine k e w' B v' (xs ++ ys) → Below B W0 w' → Below B wr w' → wpList P ops Q rest (a.put o.dst v') w') : wpList P ops Q (o :: rest) a wr := by
  subst hnc
  obtain ⟨i0, hi', hz0, hz1, hz2⟩ := info_parts hi
  cases A with
  | none =>
    have hc := hA rfl
    subst hc
    have hy : ys = [] := by
      rcases ys with _ | ⟨y, ys⟩
      · rfl
      · exfalso
        obtain ⟨b, off, e1, _⟩ := hh (by simp)
        cases e1
    subst hy
    refine wpList_append_own_none hgd s x t ho B e i0 1 ht hi' v xs.length _ hs hown hx ?_
    exact h v wr (by rw [List.append_nil]; exact hown) hbl (Below.refl _ _)
  | some ad =>
    have hb : (xs.length + ys.length) * bytes ≤ 140737488355328 := by
      have : (xs.length + ys.length) * bytes ≤ 2000000 * 64 := Nat.mul_le_mul (by omega) hby
      omega
    refine wpList_append_own (P := P) _ hgd s x t ho B e i0 (.int k 0) 1 bytes ht hi' hz0 hz1 hz2 rfl (by decide) v xs.length _ hs hown ad ys.length c (ys.map (Value.int k)) hx (by simp) ?_
      (by intro u hu; rw [List.mem_map] at hu; obtain ⟨z, _, rfl⟩ := hu; rfl)
      (by unfold maxLen; omega) hb hB fun v' w1 h1 hg _ => ?_
    · intro j u hj
      obtain ⟨b, off, e1, _, hc⟩ := hh (by intro h0; rw [h0] at hj; simp at hj)
      injection e1 with e1
      subst e1
      rw [add_plain]
      exact hc j u hj
    · have hg2 : Below B wr w1 := (Below.refl _ _).grown hg hB fun j hj => (World.ownsRow.lt hown j hj).1
      exact h v' w1 (by unfold Mine; simpa using h1) (hbl.trans hg2) hg2

/-- a slice with room for nothing -/
theorem mine_empty (w : World) (B : Nat) (hB : B ≤ w.heap.size) : Mine .i32 21 (w.alloc (.cells #[] 21)) B (.slice (some ⟨w.heap.size, 0, none⟩) 0 0) [] :=
  ⟨rfl, .inr ⟨w.heap.size, 0, #[], rfl, hB, heap_alloc_new w _, Nat.le_refl _, by unfold maxLen; simp, by simp, by simp⟩⟩

set_option maxHeartbeats 1000000 in
theorem together_ok (A1 A2 A3 : Option Addr) (c1 c2 c3 : Nat) (xs us ys : List Int) (w : World) (e1 : A1 = none → c1 = 0) (e2 : A2 = none → c2 = 0) (e3 : A3 = none → c3 = 0) (n1 : xs.length ≤ 1000) (n2 : us.length ≤ 1000) (n3 : ys.length ≤ 1000)
    (h1 : Has w w.heap.size A1 (xs.map (Value.int .i32))) (h2 : Has w w.heap.size A2 (us.map (Value.int .i32))) (h3 : Has w w.heap.size A3 (ys.map (Value.int .i32))) :
    Calls Try.prog 24 #[.slice A1 xs.length c1, .slice A2 us.length c2, .slice A3 ys.length c3] w fun e w' => SliceOf .i32 w w' e (xs ++ us ++ ys) := by
  have hb0 : Below w.heap.size w (w.alloc (.cells #[] 21)) := (Below.refl _ _).alloc (Nat.le_refl _) _
  have hm0 := mine_empty w w.heap.size (Nat.le_refl _)
  have g1 := h1.carry hb0
  have hs0 := hb0.size
  go_enter Try.func24, Try.ntmps24
  go_wp2_with (first
    | (at_builtin; (refine wpList_pushall rfl _ _ 22 rfl Try.underlying22 Try.full21 (by omega) w.heap.size _ [] xs w _ A1 xs.length c1 rfl e1 g1 hm0 rfl rfl hb0 hs0 (by simp) (by omega) ?_); intro v1 w1 hm1 hb1 hc1; have g2 := h2.carry hb1; have hs1 := hb1.size; rw [List.nil_append] at hm1)
    | (at_builtin; (refine wpList_pushall rfl _ _ 22 rfl Try.underlying22 Try.full21 (by omega) w.heap.size _ xs us w _ A2 us.length c2 rfl e2 g2 hm1 rfl rfl hb1 hs1 (by omega) (by omega) ?_); intro v2 w2 hm2 hb2 hc2; have g3 := h3.carry hb2; have hs2 := hb2.size)
    | (at_builtin; (refine wpList_pushall rfl _ _ 22 rfl Try.underlying22 Try.full21 (by omega) w.heap.size _ (xs ++ us) ys w _ A3 ys.length c3 rfl e3 g3 hm2 rfl rfl hb2 hs2 (by rw [List.length_append]; omega) (by omega) ?_); intro v3 w3 hm3 hb3 hc3))
  go_ret
  exact ⟨_, rfl, hm3.sliceV hb3⟩

/-- a slice without an address has no room -/
theorem none_cap {H : Type} {enc : TypeId × Value → H} {W : World} {t e : TypeId} {k : IntKind} {A : Option Addr} {n c : Nat} {d : DataW H} {p : List MemPlace}
    (ht : Try.prog.underlying t = some (.slice e)) (he : Try.prog.underlying e = some (.int k)) (hc : Try.prog.cellsOf e = 1)
    (h : DataW.Trod enc Try.prog W 0 (fun _ => true) true t (.slice A n c) d p) : A = none → c = 0 := by
  intro hA
  obtain ⟨fuel, hf⟩ := h
  rcases open_ints ht he hc hf with ⟨hcs, hx⟩ | ⟨a, len', cap', zs, hcs, _, hl, hm, hz, hx, hcell, hwz⟩
  · simp [Value.cells] at hcs
    exact hcs.2.2
  · simp [Value.cells] at hcs
    rw [hA] at hcs
    cases hcs.1

theorem cls_append (a b : List Int) : cls (a ++ b) = cls a ++ cls b := by unfold cls; rw [List.map_append]
/-- within the first text -/
theorem bP_first (x p q : List Int) (i : Nat) (h : i < x.length) : bP (x ++ p) i = bP (x ++ q) i := by
  by_cases h0 : i = 0
  · subst h0
    rw [bP_zero _ (by rw [List.length_append]; omega), bP_zero _ (by rw [List.length_append]; omega)]
  · rw [bP_mid _ _ (by omega) (by rw [List.length_append]; omega), bP_mid _ _ (by omega) (by rw [List.length_append]; omega), hang_left _ _ _ h, hang_left _ _ _ h]
/-- past the window of the last text -/
theorem hang_last (p y : List Int) (i : Nat) (a b : Int) (hw : WinV y 0 a b) (hb : b < i) (h0 : 0 < i) (hi : i < y.length) : hang (p ++ y) (p.length + i) = hang y i := by
  obtain ⟨_, r, hr, h1, h2⟩ := hw.2 0 rfl (Nat.zero_le _)
  rw [List.drop_zero] at hr
  have hd : (p ++ y).drop p.length = y := by simp
  have hg : ∀ j, g (p ++ y) (p.length + j) = g y j := fun j => by rw [← g_drop, hd]
  have key := hang_behind (p ++ y) p.length i h0 (fun h5 hx => ?_) (fun hx h6 => ?_)
  · rw [key, hd]
  · exfalso
    rw [show p.length + i - 1 = p.length + (i - 1) by omega, hg] at h5
    rw [hd] at hx
    have hall : ∀ j, j < i → attB (g y j) = true := fun j hj => by
      by_cases he : j = i - 1
      · subst he; rw [h5]; rfl
      · rw [allx_at _ _ hx j (by omega)]; rfl
    have hr0 : r = 0 := by
      rcases Nat.eq_zero_or_pos r with h | h
      · exact h
      · exfalso
        have ha := hr.2.1 0 h
        have hb := hall 0 h0
        rw [beq_iff_eq] at ha
        rw [ha] at hb
        exact absurd hb (by decide)
    obtain ⟨s, hs, h3⟩ := h2 hr0
    rw [List.drop_zero] at hs
    have hsi : s < i := by omega
    rcases hs.2.2 with h4 | h4
    · omega
    · rw [hall s hsi] at h4; cases h4
  · exfalso
    rw [hd] at hx
    have hall := regs_at _ _ hx
    have hri : r = 0 ∨ r < i := by
      rcases Nat.eq_zero_or_pos r with h | h
      · exact .inl h
      · right
        have := h1 h
        omega
    have hlt : r < i := by omega
    rcases hr.2.2 with h4 | h4
    · omega
    · rw [hall r hlt] at h4; cases h4
theorem bP_last (p q y : List Int) (i : Nat) (a b : Int) (hw : WinV y 0 a b) (hb : b < i) (h0 : 0 < i) (hi : i ≤ y.length) : bP (p ++ y) (p.length + i) = bP (q ++ y) (q.length + i) := by
  by_cases he : i = y.length
  · subst he
    have e1 : p.length + y.length = (p ++ y).length := List.length_append.symm
    have e2 : q.length + y.length = (q ++ y).length := List.length_append.symm
    rw [e1, e2, bP_end _ (by omega), bP_end _ (by omega)]
  · rw [bP_mid _ _ (by omega) (by rw [List.length_append]; omega), bP_mid _ _ (by omega) (by rw [List.length_append]; omega), hang_last p y i a b hw hb h0 (by omega), hang_last q y i a b hw hb h0 (by omega)]
theorem win_nat (y : List Int) (a b : Int) (hw : WinV y 0 a b) : ∃ t : Nat, b = t ∧ t ≤ y.length := by
  obtain ⟨_, r, hr, h1, h2⟩ := hw.2 0 rfl (Nat.zero_le _)
  rw [List.drop_zero] at hr
  rcases Nat.eq_zero_or_pos r with h | h
  · obtain ⟨s, hs, h3⟩ := h2 h
    rw [List.drop_zero] at hs
    exact ⟨s, by omega, hs.1⟩
  · exact ⟨r, by have := h1 h; omega, hr.1⟩
/-- in the law's terms -/
theorem is_first (xs us vs ys : List Int) (i : Nat) (h : i < xs.length) : isV (cls (xs ++ us ++ ys)) i = isV (cls (xs ++ vs ++ ys)) i := by
  rw [isV_nat _ _ (by rw [cls_len, List.length_append, List.length_append]; omega), isV_nat _ _ (by rw [cls_len, List.length_append, List.length_append]; omega)]
  rw [cls_append, cls_append, cls_append, cls_append, List.append_assoc, List.append_assoc]
  exact bP_first _ _ _ i (by rw [cls_len]; exact h)
theorem is_last (xs us vs ys : List Int) (i : Nat) (a b : Int) (hw : WinV (cls ys) 0 a b) (hb : b < i) (h0 : 0 < i) (hi : i ≤ ys.length) :
    isV (cls (xs ++ us ++ ys)) ((xs.length + us.length + i : Nat) : Int) = isV (cls (xs ++ vs ++ ys)) ((xs.length + vs.length + i : Nat) : Int) := by
  rw [isV_nat _ _ (by rw [cls_len, List.length_append, List.length_append]; omega), isV_nat _ _ (by rw [cls_len, List.length_append, List.length_append]; omega)]
  rw [cls_append (xs ++ us), cls_append (xs ++ vs)]
  have e1 : xs.length + us.length = (cls (xs ++ us)).length := by rw [cls_len, List.length_append]
  have e2 : xs.length + vs.length = (cls (xs ++ vs)).length := by rw [cls_len, List.length_append]
  rw [e1, e2]
  exact bP_last _ _ _ i a b hw hb h0 (by rw [cls_len]; exact hi)
end Go.Proofs.Ytnpdampaimllpaa
