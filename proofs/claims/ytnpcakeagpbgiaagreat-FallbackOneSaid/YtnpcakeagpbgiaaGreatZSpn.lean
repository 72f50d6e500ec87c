/-
  Slices of spans in memory: 'HasS' (reads as a list of spans), 'MineS' (the call's own, to be grown in place), appending one span, turning the last one's end, what a call hands back. No condition.
-/
import Derived.Test.YtnpcakeagpbgiaaGreatSpm
import Derived.Test.YtnpcakeagpbgiaaGreatZAny
set_option linter.unusedVariables false
namespace Go.Proofs.YtnpcakeagpbgiaaGreat.S5
open Go.ChangeShapes Go.WideShapes Go.ChangeAt Go.RowKit

section
variable {w w' : World} {g : Nat} {t : TypeId} {cs : Array Value}
theorem At.free (h : At w g t cs) (j : Nat) : w.frozen? ⟨g, j, none⟩ = false := by
  unfold At at h
  simp [World.frozen?, h]
theorem At.setCell (h : At w g t cs) (j : Nat) (v : Value) : At (w.setCell ⟨g, j, none⟩ v) g t (cs.setIfInBounds j v) := by
  have hlt := h.lt
  unfold At at *
  have h' : w.heap[g] = .cells cs t (0, 0) := by simpa [Array.getElem?_eq_getElem hlt] using h
  show (w.heap.modify g _)[g]? = _
  rw [Array.getElem?_eq_getElem (by simpa using hlt), Array.getElem_modify_self, h']
  rfl
end
def row (s : Sp) : List Value := [.int .i64 s.f, .int .i64 s.t, .int .i64 s.v]
def cellsS (l : List Sp) : List Value := l.flatMap row
theorem cellsS_cons (s : Sp) (l : List Sp) : cellsS (s :: l) = row s ++ cellsS l := by simp [cellsS]
theorem cellsS_append (l m : List Sp) : cellsS (l ++ m) = cellsS l ++ cellsS m := by simp [cellsS]
theorem length_cellsS : ∀ l : List Sp, (cellsS l).length = l.length * 3
  | [] => rfl
  | s :: l => by rw [cellsS_cons, List.length_append, length_cellsS l]; simp [row]; omega
theorem cellsS_get : ∀ (l : List Sp) (i : Nat) (s : Sp), l[i]? = some s → ∀ q u, (row s)[q]? = some u → (cellsS l)[i * 3 + q]? = some u
  | [], _, _, h, _, _, _ => by simp at h
  | s :: l, 0, s', h, q, u, hq => by
    simp at h; subst h
    have hlt : q < (row s).length := (List.getElem?_eq_some_iff.1 hq).1
    rw [cellsS_cons, List.getElem?_append_left (by simpa using hlt)]
    simpa using hq
  | s :: l, i + 1, s', h, q, u, hq => by
    have ih := cellsS_get l i s' (by simpa using h) q u hq
    rw [cellsS_cons, List.getElem?_append_right (by simp [row]; omega)]
    rw [← ih]
    congr 1
    simp [row]
    omega

/-- the slice headed at A reads as the spans l, in a block below B -/
def HasS (w : World) (B : Nat) (A : Option Addr) (l : List Sp) : Prop :=
  l ≠ [] → ∃ b off, A = some ⟨b, off, none⟩ ∧ b < B ∧ ∀ (i : Nat) s, l[i]? = some s → w.cell? ⟨b, off + i * 3, none⟩ = some (.int .i64 s.f) ∧ w.cell? ⟨b, off + i * 3 + 1, none⟩ = some (.int .i64 s.t) ∧ w.cell? ⟨b, off + i * 3 + 2, none⟩ = some (.int .i64 s.v)
section
variable {w w' : World} {B B' : Nat} {A : Option Addr} {l : List Sp} {v : Value}
theorem HasS.nil_ : HasS w B A [] := fun h => absurd rfl h
theorem HasS.at_ (h : HasS w B A l) {i : Nat} (hi : i < l.length) : ∃ b off, A = some ⟨b, off, none⟩ ∧ b < B ∧ w.cell? ⟨b, off + i * 3, none⟩ = some (.int .i64 l[i].f) ∧ w.cell? ⟨b, off + i * 3 + 1, none⟩ = some (.int .i64 l[i].t) ∧ w.cell? ⟨b, off + i * 3 + 2, none⟩ = some (.int .i64 l[i].v) := by
  obtain ⟨b, off, e, hb, hc⟩ := h (fun e => by subst e; simp at hi)
  exact ⟨b, off, e, hb, hc i _ (List.getElem?_eq_getElem hi)⟩
theorem HasS.below (h : HasS w B A l) (hb : Below B w w') : HasS w' B A l := fun hne => by
  obtain ⟨b, off, e, hl, hc⟩ := h hne
  refine ⟨b, off, e, hl, fun i s hs => ?_⟩
  obtain ⟨h1, h2, h3⟩ := hc i s hs
  exact ⟨(hb.cell (p := ⟨b, off + i * 3, none⟩) hl).trans h1, (hb.cell (p := ⟨b, off + i * 3 + 1, none⟩) hl).trans h2, (hb.cell (p := ⟨b, off + i * 3 + 2, none⟩) hl).trans h3⟩
theorem HasS.more (h : HasS w B A l) (hB : B ≤ B') : HasS w B' A l := fun hne => by
  obtain ⟨b, off, e, hl, hc⟩ := h hne
  exact ⟨b, off, e, by omega, hc⟩
theorem HasS.carry (h : HasS w w.heap.size A l) (hb : Below w.heap.size w w') : HasS w' w'.heap.size A l := (h.below hb).more hb.size
/-- past the first span -/
theorem HasS.tail {b off : Nat} {s : Sp} (h : HasS w B (some ⟨b, off, none⟩) (s :: l)) : HasS w B (some ⟨b, off + 3, none⟩) l := fun hne => by
  obtain ⟨b', off', e, hl, hc⟩ := h (by simp)
  injection e with e; injection e with e1 e2; subst e1; subst e2
  refine ⟨b, off + 3, rfl, hl, fun i s' hs => ?_⟩
  have := hc (i + 1) s' (by simpa using hs)
  rwa [show off + (i + 1) * 3 = off + 3 + i * 3 by omega] at this

def MineS (w : World) (B : Nat) (v : Value) (l : List Sp) : Prop := w.ownsRow B 32 3 v l.length (cellsS l)
theorem MineS.nil_ (w : World) (B : Nat) : MineS w B (.slice none 0 0) [] := World.ownsRow_nil _ _ _ _
theorem MineS.form (h : MineS w B v l) (hne : l ≠ []) : ∃ g c, v = .slice (some ⟨g, 0, none⟩) l.length c ∧ l.length ≤ c ∧ B ≤ g ∧ g < w.heap.size ∧
    ∀ (i : Nat) s, l[i]? = some s → w.cell? ⟨g, 0 + i * 3, none⟩ = some (.int .i64 s.f) ∧ w.cell? ⟨g, 0 + i * 3 + 1, none⟩ = some (.int .i64 s.t) ∧ w.cell? ⟨g, 0 + i * 3 + 2, none⟩ = some (.int .i64 s.v) := by
  have h' := h
  unfold MineS at h'
  have hlen : 0 < l.length := by cases l with | nil => exact absurd rfl hne | cons a l => simp
  rcases h'.2 with ⟨_, h0⟩ | ⟨g, cap, cur, hv, hB, hg, hc, _⟩
  · omega
  · subst hv
    obtain ⟨h1, h2⟩ := World.ownsRow.lt h' g rfl
    refine ⟨g, cap, rfl, hc, h1, h2, fun i s hs => ?_⟩
    have hcl : ∀ q u, (row s)[q]? = some u → w.cell? ⟨g, 0 + (i * 3 + q), none⟩ = some u := fun q u hq => by
      have := World.ownsRow.cells h' (g := g) rfl _ u (cellsS_get l i s hs q u hq)
      rwa [add_plain] at this
    exact ⟨hcl 0 _ rfl, hcl 1 _ rfl, hcl 2 _ rfl⟩
theorem MineS.has (h : MineS w B v l) : ∃ A c, v = .slice A l.length c ∧ l.length ≤ c ∧ Fresh B A ∧ HasS w w.heap.size A l := by
  by_cases hne : l = []
  · subst hne
    rcases h.2 with ⟨rfl, _⟩ | ⟨g, cap, cur, rfl, hB, _⟩
    · exact ⟨none, 0, rfl, by simp, (fun a ha => by cases ha), HasS.nil_⟩
    · exact ⟨_, cap, rfl, by simp, (fun a ha => by injection ha with ha; subst ha; exact hB), HasS.nil_⟩
  · obtain ⟨g, c, hv, hc, h1, h2, hcell⟩ := h.form hne
    exact ⟨_, c, hv, hc, (fun a ha => by injection ha with ha; subst ha; exact h1), fun _ => ⟨g, 0, rfl, h2, hcell⟩⟩
theorem MineS.alloc (h : MineS w B v l) (o : Obj) : MineS (w.alloc o) B v l := World.ownsRow.alloc h o
theorem MineS.drew (h : MineS w B v l) : MineS w.drew B v l := h
theorem MineS.drewN (h : MineS w B v l) (n : Nat) : MineS (w.drewN n) B v l := h
theorem MineS.low (h : MineS w B v l) (hB : B' ≤ B) : MineS w B' v l := by
  refine ⟨h.1, ?_⟩
  rcases h.2 with ⟨a, b⟩ | ⟨g, cap, cur, a, b, r⟩
  · exact .inl ⟨a, b⟩
  · exact .inr ⟨g, cap, cur, a, Nat.le_trans hB b, r⟩
/-- a cell of another block is turned -/
theorem MineS.setOther (h : MineS w B v l) {p : Addr} (hp : p.block < B) (u : Value) : MineS (w.setCell p u) B v l := ownsRow_setCell_below h hp u
/-- the last span's end is turned -/
theorem MineS.setTo {g n c : Nat} {l' : List Sp} {s : Sp} (h : MineS w B (.slice (some ⟨g, 0, none⟩) n c) (l' ++ [s])) (to : Int) :
    MineS (w.setCell ⟨g, 0 + l'.length * 3 + 1, none⟩ (.int .i64 to)) B (.slice (some ⟨g, 0, none⟩) n c) (l' ++ [⟨s.f, to, s.v⟩]) := by
  refine ⟨by rw [length_cellsS], ?_⟩
  rcases h.2 with ⟨a, b⟩ | ⟨g', cap, cur, a, b, hg, hc, hm, hs, ht⟩
  · cases a
  · injection a with a1 a2 a3
    injection a1 with a1
    injection a1 with a1
    subst a1; subst a2; subst a3
    have hlen : (l' ++ [(⟨s.f, to, s.v⟩ : Sp)]).length = (l' ++ [s]).length := by simp
    rw [hlen]
    refine .inr ⟨g, c, cur.setIfInBounds (0 + l'.length * 3 + 1) (.int .i64 to), rfl, b, At.setCell (w := w) (t := 32) hg _ _, hc, hm, by simp [hs], ?_⟩
    rw [Array.toList_setIfInBounds, List.take_set, ht]
    rw [cellsS_append, cellsS_append]
    have e : (cellsS l').length = l'.length * 3 := length_cellsS l'
    rw [List.set_append_right _ _ (by omega)]
    congr 1
    rw [show 0 + l'.length * 3 + 1 - (cellsS l').length = 1 by omega]
    rfl
end
theorem cells_new3 (w : World) (s : Sp) (e : TypeId) : ∀ j u, (row s)[j]? = some u → (w.alloc (.cells (row s).toArray e)).cell? ((⟨w.heap.size, 0, none⟩ : Addr).add j) = some u := by
  intro j u hj
  have hg : (w.alloc (.cells (row s).toArray e)).heap[w.heap.size]? = some (.cells (row s).toArray e (0, 0)) := heap_alloc_new _ _
  rw [add_plain]
  rw [cell_of_row _ _ _ _ _ _ hg]
  simpa using hj
/-- append of one span to a slice of the call's own; the new span lies in the newest block -/
theorem wpList_pushS {P : Program} {ops : Array Oper} {rest : List Oper} {o : Oper} {a : Act} {Q : Exit → Act → World → Prop} {bytes : Nat} (hgd : o.guard = none) (s x : Operand) (t : TypeId)
    (ho : o.op = .call { callee := .builtin .append, args := #[s, x], argTypes := #[t, t] }) (z : Value)
    (ht : P.underlying t = some (.slice 32)) (hi : (P.info? 32).map (fun i => (i.zero, i.size, i.bytes)) = some (some z, 3, bytes)) (hz : z.cells.size = 3) (hby : bytes ≤ 64)
    (B : Nat) (v : Value) (l : List Sp) (y : Sp) (W0 wr : World) (cs : Array Value) (hcs : cs = (row y).toArray) (hown : MineS wr B v l) (hs : a.eval s = v) (hx : a.eval x = .slice (some ⟨wr.heap.size, 0, none⟩) 1 1)
    (hbl : Below B W0 wr) (hB : B ≤ wr.heap.size) (hn : l.length ≤ 1000000)
    (h : ∀ v' w', MineS w' B v' (l ++ [y]) → Below B W0 w' → wpList P ops Q rest (a.put o.dst v') w') : wpList P ops Q (o :: rest) a (wr.alloc (.cells cs 32)) := by
  subst hcs
  obtain ⟨i0, hi', hz0, hz1, hz2⟩ := info_parts hi
  have hb : (l.length + 1) * bytes ≤ 140737488355328 := by
    have : (l.length + 1) * bytes ≤ 1000001 * 64 := Nat.mul_le_mul (by omega) hby
    omega
  have hown' : (wr.alloc (.cells (row y).toArray 32)).ownsRow B 32 3 v l.length (cellsS l) := World.ownsRow.alloc hown _
  refine wpList_append_own (P := P) _ hgd s x t ho B 32 i0 z 3 bytes ht hi' hz0 hz1 hz2 hz (by decide) v l.length _ hs hown' ⟨wr.heap.size, 0, none⟩ 1 1 (row y) hx rfl (cells_new3 _ _ _) (by intro u hu; simp [row] at hu; rcases hu with rfl | rfl | rfl <;> rfl)
    (by unfold maxLen; omega) hb (by simp; omega) fun v' w1 h1 hg _ => ?_
  refine h v' w1 ?_ ((hbl.alloc hB _).grown hg (by simp; omega) fun j hj => (World.ownsRow.lt hown j hj).1)
  unfold MineS
  rw [cellsS_append]
  simpa [cellsS] using h1

/-- what a call hands back: a slice that reads as the spans l, in a block that is new (or nil) -/
def SpansV (w w' : World) (v : Value) (l : List Sp) : Prop := ∃ A c, v = .slice A l.length c ∧ l.length ≤ c ∧ HasS w' w'.heap.size A l ∧ Below w.heap.size w w'
def SpansOf (w w' : World) (e : Ending) (l : List Sp) : Prop := ∃ v, e = .returned v ∧ SpansV w w' v l
theorem MineS.spansV {w w' : World} {v : Value} {l : List Sp} {B : Nat} (h : MineS w' B v l) (hb : Below w.heap.size w w') : SpansV w w' v l := by
  obtain ⟨A, c, hv, hc, _, hh⟩ := h.has
  exact ⟨A, c, hv, hc, hh, hb⟩
theorem full32 : (Tryz.prog.info? 32).map (fun i => (i.zero, i.size, i.bytes)) = some (some (.agg #[.int .i64 0, .int .i64 0, .int .i64 0]), 3, 24) := by kernel_rfl
/-- what a span looks like -/
@[reducible] def spanS : Shp := .con (.int .i64) (.con (.int .i64) (.con (.int .i64) .nil))
def spOf (x : spanS.Dat) : Sp := ⟨x.1, x.2.1, x.2.2.1⟩
theorem HasN.spans {w : World} {B : Nat} {A : Option Addr} {l : List spanS.Dat} (h : HasN spanS.lay w B A l) : HasS w B A (l.map spOf) := fun hne => by
  obtain ⟨b, off, e, hb, hc⟩ := h (fun h0 => hne (by rw [h0]; rfl))
  refine ⟨b, off, e, hb, fun i s hs => ?_⟩
  rw [List.getElem?_map, Option.map_eq_some_iff] at hs
  obtain ⟨x, hx, rfl⟩ := hs
  exact ⟨hc i x hx 0 _ rfl, hc i x hx 1 _ rfl, hc i x hx 2 _ rfl⟩
end Go.Proofs.YtnpcakeagpbgiaaGreat.S5
