/-
  Slices whose elements are some cells each: storing into one cell of an element of a slice of the call's own; appending a whole slice; what a call hands back. No condition.
-/
import Derived.Test.YtnpcakeagpbgiaaGreatZRow
import Derived.Laws.AppendOwnNone
set_option linter.unusedVariables false
set_option linter.unusedSimpArgs false
namespace Go.Proofs.YtnpcakeagpbgiaaGreat
open Go.ChangeShapes Go.WideShapes Go.ChangeAt Go.RowKit

section
variable {α : Type} {R : Lay α}
theorem cellsN_set : ∀ (l : List α) (i : Nat) (x y : α) (q : Nat) (u : Value), l[i]? = some x → q < R.C → R.row y = (R.row x).set q u → cellsN R (l.set i y) = (cellsN R l).set (i * R.C + q) u
  | [], _, _, _, _, _, h, _, _ => by simp at h
  | z :: l, 0, x, y, q, u, h, hq, hr => by
    simp at h; subst h
    rw [List.set_cons_zero, cellsN_cons, cellsN_cons, hr, Nat.zero_mul, Nat.zero_add, List.set_append_left _ _ (by rw [R.len]; exact hq)]
  | z :: l, i + 1, x, y, q, u, h, hq, hr => by
    rw [List.set_cons_succ, cellsN_cons, cellsN_cons, cellsN_set l i x y q u (by simpa using h) hq hr, List.set_append_right _ _ (by rw [R.len, Nat.succ_mul]; omega), R.len]
    congr 2
    rw [Nat.succ_mul]; omega
theorem MineN.set {e : TypeId} {w : World} {B g n c : Nat} {l : List α} {i q : Nat} {x y : α} {u : Value} (h : MineN R e w B (.slice (some ⟨g, 0, none⟩) n c) l) (hi : l[i]? = some x) (hq : q < R.C) (hr : R.row y = (R.row x).set q u) :
    MineN R e (w.setCell ⟨g, i * R.C + q, none⟩ u) B (.slice (some ⟨g, 0, none⟩) n c) (l.set i y) := by
  refine ⟨length_cellsN _, ?_⟩
  rcases h.2 with ⟨a, b⟩ | ⟨g', cap, cur, a, b, hg, hc, hm, hs, ht⟩
  · cases a
  · injection a with a1 a2 a3
    injection a1 with a1
    injection a1 with a1
    subst a1; subst a2; subst a3
    rw [List.length_set]
    refine .inr ⟨g, c, cur.setIfInBounds (i * R.C + q) u, rfl, b, ?_, hc, hm, by simp [hs], ?_⟩
    · have hlt := (Array.getElem?_eq_some_iff.1 hg).1
      have h' : w.heap[g] = .cells cur e (0, 0) := by simpa [Array.getElem?_eq_getElem hlt] using hg
      show (w.heap.modify g _)[g]? = _
      rw [Array.getElem?_eq_getElem (by simpa using hlt), Array.getElem_modify_self, h']
      rfl
    · rw [Array.toList_setIfInBounds, List.take_set, ht, cellsN_set l i x y q u hi hq hr]
theorem MineN.free {e : TypeId} {w : World} {B g n c : Nat} {l : List α} (h : MineN R e w B (.slice (some ⟨g, 0, none⟩) n c) l) (j : Nat) : w.frozen? ⟨g, j, none⟩ = false := by
  rcases h.2 with ⟨hx, _⟩ | ⟨g', cap, cur, hx, _, hg, _⟩
  · cases hx
  · injection hx with hx1 hx2 hx3
    injection hx1 with hx1
    injection hx1 with hx1
    subst hx1
    simp [World.frozen?, hg]
theorem MineN.cellAt {e : TypeId} {w : World} {B g n c : Nat} {l : List α} (h : MineN R e w B (.slice (some ⟨g, 0, none⟩) n c) l) {i q : Nat} {x : α} {u : Value} (hi : l[i]? = some x) (hq : (R.row x)[q]? = some u) : w.cell? ⟨g, i * R.C + q, none⟩ = some u := by
  obtain ⟨g', c', hv, _, _, _, hc⟩ := h.form (fun e => by subst e; simp at hi)
  injection hv with hv1 hv2 hv3
  injection hv1 with hv1
  injection hv1 with hv1
  subst hv1
  have := hc i x hi q u hq
  rwa [Nat.zero_add] at this
theorem MineN.below {e : TypeId} {w w' : World} {B : Nat} {v : Value} {l : List α} (h : MineN R e w B v l) (hb : Below w.heap.size w w') : MineN R e w' B v l := h.stays fun b _ hlt => hb.block b hlt
end


section
variable {α : Type} {R : Lay α} {e : TypeId}
/-- what a call hands back: a slice that reads as a list, in no older block; where it is nil it has no room -/
def ListV (R : Lay α) (w w' : World) (v : Value) (l : List α) : Prop :=
  ∃ A c, v = .slice A l.length c ∧ (l.length ≤ c ∧ Fresh w.heap.size A ∧ (A = none → c = 0)) ∧ HasN R w' w'.heap.size A l ∧ Below w.heap.size w w'
def ListOf (R : Lay α) (w w' : World) (x : Ending) (l : List α) : Prop := ∃ v, x = .returned v ∧ ListV R w w' v l
theorem MineN.cap0 {w : World} {B : Nat} {v : Value} {l : List α} (h : MineN R e w B v l) : ∀ A n c, v = .slice A n c → A = none → c = 0 := by
  intro A n c hv hA
  rcases h.2 with ⟨hn, _⟩ | ⟨g, cap, cur, hg, _⟩
  · rw [hn] at hv; injection hv with _ _ h3; exact h3.symm
  · rw [hg] at hv; injection hv with h1; rw [hA] at h1; cases h1
theorem MineN.listV {w w' : World} {v : Value} {l : List α} (h : MineN R e w' w.heap.size v l) (hb : Below w.heap.size w w') : ListV R w w' v l := by
  obtain ⟨A, c, hv, h1, h2, h3⟩ := h.has
  exact ⟨A, c, hv, ⟨h1, h2, h.cap0 A _ c hv⟩, h3, hb⟩
theorem ListV.trans {w w1 w2 : World} {v : Value} {l : List α} (h : ListV R w1 w2 v l) (hb : Below w.heap.size w w1) : ListV R w w2 v l := by
  obtain ⟨A, c, h1, ⟨h2, h3, h4⟩, h5, h6⟩ := h
  exact ⟨A, c, h1, ⟨h2, fun a ha => Nat.le_trans hb.size (h3 a ha), h4⟩, h5, below_trans hb h6 hb.size⟩
theorem listV_nil (w w' : World) (hb : Below w.heap.size w w') : ListV R w w' (.slice none 0 0) [] := ⟨none, 0, rfl, ⟨by simp, (fun a ha => by cases ha), fun _ => rfl⟩, HasN.nil_, hb⟩
/-- append of a whole slice that reads as a list to a slice of the call's own -/
theorem wpList_pushallN {P : Program} {ops : Array Oper} {rest : List Oper} {o : Oper} {a : Act} {Q : Exit → Act → World → Prop} {bytes : Nat} (hgd : o.guard = none) (s x : Operand) (t : TypeId)
    (ho : o.op = .call { callee := .builtin .append, args := #[s, x], argTypes := #[t, t] }) (z : Value)
    (ht : P.underlying t = some (.slice e)) (hi : (P.info? e).map (fun i => (i.zero, i.size, i.bytes)) = some (some z, R.C, bytes)) (hz : z.cells.size = R.C) (hC : 0 < R.C) (hby : bytes ≤ 128)
    (B : Nat) (v : Value) (xs ys : List α) (W0 wr : World) (A : Option Addr) (n c : Nat) (hnc : n = ys.length) (hA : A = none → c = 0) (hh : HasN R wr wr.heap.size A ys) (hown : MineN R e wr B v xs) (hs : a.eval s = v) (hx : a.eval x = .slice A n c)
    (hbl : Below B W0 wr) (hB : B ≤ wr.heap.size) (hn : xs.length ≤ 1000000) (hm : ys.length ≤ 1000000)
    (h : ∀ v' w', MineN R e w' B v' (xs ++ ys) → Below B W0 w' → Below B wr w' → wpList P ops Q rest (a.put o.dst v') w') : wpList P ops Q (o :: rest) a wr := by
  subst hnc
  obtain ⟨i0, hi', hz0, hz1, hz2⟩ := info_parts hi
  cases A with
  | none =>
    have hc := hA rfl
    subst hc
    have hy : ys = [] := by
      rcases ys with _ | ⟨y, ys⟩
      · rfl
      · exfalso
        obtain ⟨b, off, e1, _⟩ := hh (by simp)
        cases e1
    subst hy
    refine wpList_append_own_none hgd s x t ho B e i0 R.C ht hi' v xs.length _ hs hown hx ?_
    exact h v wr (by rw [List.append_nil]; exact hown) hbl (Below.refl _ _)
  | some ad =>
    have hb : (xs.length + ys.length) * bytes ≤ 140737488355328 := by
      have : (xs.length + ys.length) * bytes ≤ 2000000 * 128 := Nat.mul_le_mul (by omega) hby
      omega
    refine wpList_append_own (P := P) _ hgd s x t ho B e i0 z R.C bytes ht hi' hz0 hz1 hz2 hz hC v xs.length _ hs hown ad ys.length c (cellsN R ys) hx (by rw [length_cellsN]) ?_
      ?_ (by unfold maxLen; omega) hb hB fun v' w1 h1 hg _ => ?_
    · intro j u hj
      obtain ⟨b, off, e1, _, hc⟩ := hh (by intro h0; rw [h0] at hj; simp [cellsN] at hj)
      injection e1 with e1
      subst e1
      have hjl : j < (cellsN R ys).length := (List.getElem?_eq_some_iff.1 hj).1
      rw [length_cellsN] at hjl
      have hq : j % R.C < R.C := Nat.mod_lt _ hC
      have hi2 : j / R.C < ys.length := Nat.div_lt_of_lt_mul (by rw [Nat.mul_comm]; exact hjl)
      have hd : j / R.C * R.C + j % R.C = j := by rw [Nat.mul_comm]; exact Nat.div_add_mod j R.C
      have hq2 : j % R.C < (R.row ys[j / R.C]).length := by rw [R.len]; exact hq
      have hg := cellsN_get ys (j / R.C) _ (List.getElem?_eq_getElem hi2) (j % R.C) _ (List.getElem?_eq_getElem hq2)
      rw [hd, hj] at hg
      have hcc := hc (j / R.C) _ (List.getElem?_eq_getElem hi2) (j % R.C) _ (List.getElem?_eq_getElem hq2)
      rw [Nat.add_assoc, hd, ← Option.some.inj hg] at hcc
      rw [add_plain]
      exact hcc
    · intro u hu
      obtain ⟨y, _, hy⟩ := List.mem_flatMap.1 hu
      exact R.one y u hy
    · have hg2 : Below B wr w1 := (Below.refl _ _).grown hg hB fun j hj => (World.ownsRow.lt hown j hj).1
      exact h v' w1 (by unfold MineN; rw [cellsN_append, List.length_append]; exact h1) (hbl.trans hg2) hg2
end
end Go.Proofs.YtnpcakeagpbgiaaGreat
