/-
  Slices whose elements are two cells each, in memory: 'HasR' (reads as a list), 'MineR' (the call's own, to be grown in place and cut), appending one element, and what stays as it was; pairs of places, brackets on the document's stack. No condition.
-/
import Derived.Test.YtlopddiplmjpfaaBcl
set_option linter.unusedVariables false
set_option linter.unusedSimpArgs false
namespace Go.Proofs.Ytlopddiplmjpfaa
open Go.ChangeShapes Go.WideShapes Go.ChangeAt Go.RowKit

section
variable {α : Type} {c0 c1 : α → Value}
def row2 (c0 c1 : α → Value) (x : α) : List Value := [c0 x, c1 x]
def cells2 (c0 c1 : α → Value) (l : List α) : List Value := l.flatMap (row2 c0 c1)
theorem cells2_cons (x : α) (l : List α) : cells2 c0 c1 (x :: l) = row2 c0 c1 x ++ cells2 c0 c1 l := by simp [cells2]
theorem cells2_append (l m : List α) : cells2 c0 c1 (l ++ m) = cells2 c0 c1 l ++ cells2 c0 c1 m := by simp [cells2]
theorem length_cells2 : ∀ l : List α, (cells2 c0 c1 l).length = l.length * 2
  | [] => rfl
  | x :: l => by rw [cells2_cons, List.length_append, length_cells2 l]; simp [row2]; omega
theorem cells2_get : ∀ (l : List α) (i : Nat) (x : α), l[i]? = some x → (cells2 c0 c1 l)[i * 2]? = some (c0 x) ∧ (cells2 c0 c1 l)[i * 2 + 1]? = some (c1 x)
  | [], _, _, h => by simp at h
  | y :: l, 0, x, h => by
    simp at h; subst h
    exact ⟨by simp [cells2_cons, row2], by simp [cells2_cons, row2]⟩
  | y :: l, i + 1, x, h => by
    have ih := cells2_get l i x (by simpa using h)
    rw [cells2_cons]
    exact ⟨by rw [List.getElem?_append_right (by simp [row2]; omega), ← ih.1]; congr 1; simp [row2]; omega,
      by rw [List.getElem?_append_right (by simp [row2]; omega), ← ih.2]; congr 1; simp [row2]; omega⟩
theorem cells2_take : ∀ (l : List α) (k : Nat), cells2 c0 c1 (l.take k) = (cells2 c0 c1 l).take (k * 2)
  | [], k => by simp [cells2]
  | y :: l, 0 => by simp [cells2]
  | y :: l, k + 1 => by
    rw [List.take_succ_cons, cells2_cons, cells2_cons, cells2_take l k, show (k + 1) * 2 = k * 2 + 1 + 1 by omega]
    simp [row2]

/-- the slice headed at A reads as the list l, in a block below B -/
def HasR (c0 c1 : α → Value) (w : World) (B : Nat) (A : Option Addr) (l : List α) : Prop :=
  l ≠ [] → ∃ b off, A = some ⟨b, off, none⟩ ∧ b < B ∧ ∀ (i : Nat) x, l[i]? = some x → w.cell? ⟨b, off + i * 2, none⟩ = some (c0 x) ∧ w.cell? ⟨b, off + i * 2 + 1, none⟩ = some (c1 x)
/-- the call's own -/
def MineR (c0 c1 : α → Value) (e : TypeId) (w : World) (B : Nat) (v : Value) (l : List α) : Prop := w.ownsRow B e 2 v l.length (cells2 c0 c1 l)
variable {w w' : World} {B B' : Nat} {A : Option Addr} {l : List α} {v : Value} {e : TypeId}
theorem HasR.nil_ : HasR c0 c1 w B A [] := fun h => absurd rfl h
theorem HasR.at_ (h : HasR c0 c1 w B A l) {i : Nat} (hi : i < l.length) : ∃ b off, A = some ⟨b, off, none⟩ ∧ b < B ∧ w.cell? ⟨b, off + i * 2, none⟩ = some (c0 l[i]) ∧ w.cell? ⟨b, off + i * 2 + 1, none⟩ = some (c1 l[i]) := by
  obtain ⟨b, off, e, hb, hc⟩ := h (fun e => by subst e; simp at hi)
  exact ⟨b, off, e, hb, hc i _ (List.getElem?_eq_getElem hi)⟩
theorem HasR.below (h : HasR c0 c1 w B A l) (hb : Below B w w') : HasR c0 c1 w' B A l := fun hne => by
  obtain ⟨b, off, e, hl, hc⟩ := h hne
  refine ⟨b, off, e, hl, fun i s hs => ?_⟩
  obtain ⟨h1, h2⟩ := hc i s hs
  exact ⟨(hb.cell (p := ⟨b, off + i * 2, none⟩) hl).trans h1, (hb.cell (p := ⟨b, off + i * 2 + 1, none⟩) hl).trans h2⟩
theorem HasR.more (h : HasR c0 c1 w B A l) (hB : B ≤ B') : HasR c0 c1 w B' A l := fun hne => by
  obtain ⟨b, off, e, hl, hc⟩ := h hne
  exact ⟨b, off, e, by omega, hc⟩
theorem HasR.carry (h : HasR c0 c1 w w.heap.size A l) (hb : Below w.heap.size w w') : HasR c0 c1 w' w'.heap.size A l := (h.below hb).more hb.size
theorem HasR.up (h : HasR c0 c1 w w.heap.size A l) (hu : Up w w') : HasR c0 c1 w' w'.heap.size A l := h.carry hu.1

theorem MineR.nil_ (e : TypeId) (w : World) (B : Nat) : MineR c0 c1 e w B (.slice none 0 0) [] := World.ownsRow_nil _ _ _ _
theorem MineR.form (h : MineR c0 c1 e w B v l) (hne : l ≠ []) : ∃ g c, v = .slice (some ⟨g, 0, none⟩) l.length c ∧ l.length ≤ c ∧ B ≤ g ∧ g < w.heap.size ∧
    ∀ (i : Nat) x, l[i]? = some x → w.cell? ⟨g, 0 + i * 2, none⟩ = some (c0 x) ∧ w.cell? ⟨g, 0 + i * 2 + 1, none⟩ = some (c1 x) := by
  have h' := h
  unfold MineR at h'
  have hlen : 0 < l.length := by cases l with | nil => exact absurd rfl hne | cons a l => simp
  rcases h'.2 with ⟨_, h0⟩ | ⟨g, cap, cur, hv, hB, hg, hc, _⟩
  · omega
  · subst hv
    obtain ⟨h1, h2⟩ := World.ownsRow.lt h' g rfl
    refine ⟨g, cap, rfl, hc, h1, h2, fun i x hx => ?_⟩
    obtain ⟨g1, g2⟩ := cells2_get (c0 := c0) (c1 := c1) l i x hx
    have hcl : ∀ q u, (cells2 c0 c1 l)[q]? = some u → w.cell? ⟨g, 0 + q, none⟩ = some u := fun q u hq => by
      have := World.ownsRow.cells h' (g := g) rfl _ u hq
      rwa [add_plain] at this
    exact ⟨hcl _ _ g1, hcl _ _ g2⟩
theorem MineR.has (h : MineR c0 c1 e w B v l) : ∃ A c, v = .slice A l.length c ∧ l.length ≤ c ∧ Fresh B A ∧ HasR c0 c1 w w.heap.size A l := by
  by_cases hne : l = []
  · subst hne
    rcases h.2 with ⟨rfl, _⟩ | ⟨g, cap, cur, rfl, hB, _⟩
    · exact ⟨none, 0, rfl, by simp, (fun a ha => by cases ha), HasR.nil_⟩
    · exact ⟨_, cap, rfl, by simp, (fun a ha => by injection ha with ha; subst ha; exact hB), HasR.nil_⟩
  · obtain ⟨g, c, hv, hc, h1, h2, hcell⟩ := h.form hne
    exact ⟨_, c, hv, hc, (fun a ha => by injection ha with ha; subst ha; exact h1), fun _ => ⟨g, 0, rfl, h2, hcell⟩⟩
theorem MineR.alloc (h : MineR c0 c1 e w B v l) (o : Obj) : MineR c0 c1 e (w.alloc o) B v l := World.ownsRow.alloc h o
theorem MineR.drewN (h : MineR c0 c1 e w B v l) (n : Nat) : MineR c0 c1 e (w.drewN n) B v l := h
theorem MineR.low (h : MineR c0 c1 e w B v l) (hB : B' ≤ B) : MineR c0 c1 e w B' v l := by
  refine ⟨h.1, ?_⟩
  rcases h.2 with ⟨a, b⟩ | ⟨g, cap, cur, a, b, r⟩
  · exact .inl ⟨a, b⟩
  · exact .inr ⟨g, cap, cur, a, Nat.le_trans hB b, r⟩
/-- its block stays as it is -/
theorem MineR.stays (h : MineR c0 c1 e w B v l) (hk : ∀ b, v.ownBlock = some b → b < w.heap.size → w'.heap[b]? = w.heap[b]?) : MineR c0 c1 e w' B v l := by
  refine ⟨h.1, ?_⟩
  rcases h.2 with ⟨a, b⟩ | ⟨g, cap, cur, a, b, hg, r⟩
  · exact .inl ⟨a, b⟩
  · exact .inr ⟨g, cap, cur, a, b, by rw [hk g (by rw [a]; rfl) (Array.getElem?_eq_some_iff.1 hg).1]; exact hg, r⟩
theorem MineR.up (h : MineR c0 c1 e w B v l) (hu : Up w w') : MineR c0 c1 e w' B v l := h.stays (fun b _ hb => hu.1.block b hb)
theorem MineR.own_lt (h : MineR c0 c1 e w B v l) (b : Nat) (hb : v.ownBlock = some b) : B ≤ b ∧ b < w.heap.size := World.ownsRow.lt h b hb
/-- cut to its first k elements -/
theorem MineR.cut {g n c k : Nat} (h : MineR c0 c1 e w B (.slice (some ⟨g, 0, none⟩) n c) l) (hk : k ≤ l.length) : MineR c0 c1 e w B (.slice (some ⟨g, 0, none⟩) k c) (l.take k) := by
  have hl : (l.take k).length = k := by rw [List.length_take]; omega
  refine ⟨by rw [length_cells2], ?_⟩
  rcases h.2 with ⟨a, b⟩ | ⟨g', cap, cur, a, b, hg, hc, hm, hs, ht⟩
  · cases a
  · injection a with a1 a2 a3
    injection a1 with a1
    injection a1 with a1
    subst a1; subst a3
    refine .inr ⟨g, c, cur, by rw [hl], b, hg, by omega, hm, hs, ?_⟩
    rw [hl, cells2_take, ← ht, List.take_take]
    congr 1
    omega
theorem cells_new2 (w : World) (x : α) (e : TypeId) : ∀ j u, (row2 c0 c1 x)[j]? = some u → (w.alloc (.cells (row2 c0 c1 x).toArray e)).cell? ((⟨w.heap.size, 0, none⟩ : Addr).add j) = some u := by
  intro j u hj
  have hg : (w.alloc (.cells (row2 c0 c1 x).toArray e)).heap[w.heap.size]? = some (.cells (row2 c0 c1 x).toArray e (0, 0)) := heap_alloc_new _ _
  rw [add_plain]
  rw [cell_of_row _ _ _ _ _ _ hg]
  simpa using hj
/-- append of one element to a slice of the call's own, the new one in the newest block; what stays as it was -/
theorem wpList_push2 {P : Program} {ops : Array Oper} {rest : List Oper} {o : Oper} {a : Act} {Q : Exit → Act → World → Prop} {bytes : Nat} (hgd : o.guard = none) (s x : Operand) (t : TypeId)
    (ho : o.op = .call { callee := .builtin .append, args := #[s, x], argTypes := #[t, t] }) (z : Value)
    (ht : P.underlying t = some (.slice e)) (hi : (P.info? e).map (fun i => (i.zero, i.size, i.bytes)) = some (some z, 2, bytes)) (hz : z.cells.size = 2) (hby : bytes ≤ 64)
    (B : Nat) (v : Value) (l : List α) (y : α) (wr : World) (cs : Array Value) (hcs : cs = (row2 c0 c1 y).toArray) (hone : ∀ u ∈ row2 c0 c1 y, u.oneCell' = true) (hown : MineR c0 c1 e wr B v l) (hs : a.eval s = v) (hx : a.eval x = .slice (some ⟨wr.heap.size, 0, none⟩) 1 1)
    (hB : B ≤ wr.heap.size) (hn : l.length ≤ 1000000)
    (h : ∀ v' w', MineR c0 c1 e w' B v' (l ++ [y]) → Below B wr w' → (∀ b, b < wr.heap.size → v.ownBlock ≠ some b → v'.ownBlock ≠ some b ∧ w'.heap[b]? = wr.heap[b]?) → wpList P ops Q rest (a.put o.dst v') w') : wpList P ops Q (o :: rest) a (wr.alloc (.cells cs e)) := by
  subst hcs
  obtain ⟨i0, hi', hz0, hz1, hz2⟩ := info_parts hi
  have hb : (l.length + 1) * bytes ≤ 140737488355328 := by
    have : (l.length + 1) * bytes ≤ 1000001 * 64 := Nat.mul_le_mul (by omega) hby
    omega
  have hown' : (wr.alloc (.cells (row2 c0 c1 y).toArray e)).ownsRow B e 2 v l.length (cells2 c0 c1 l) := World.ownsRow.alloc hown _
  refine wpList_append_lies (P := P) _ hgd s x t ho B e i0 z 2 bytes ht hi' hz0 hz1 hz2 hz (by decide) v l.length _ hs hown' ⟨wr.heap.size, 0, none⟩ 1 1 (row2 c0 c1 y) hx rfl (cells_new2 _ _ _) hone
    (by omega) (by unfold maxLen; omega) hb (by simp; omega) _ rfl fun g cap w1 h1 hg hl _ => ?_
  have hbel : Below B wr w1 := ((Below.refl B wr).alloc hB _).grown hg (by simp; omega) fun j hj => (World.ownsRow.lt hown j hj).1
  refine h _ w1 ?_ hbel fun b hb' hne => ⟨?_, ?_⟩
  · unfold MineR
    rw [cells2_append]
    simpa [cells2] using h1
  · intro e1
    have e2 : some g = some b := e1
    injection e2 with e2
    subst e2
    rcases hl with hl | hl
    · exact hne hl
    · simp at hl; omega
  · rw [hg.block b (by simp; omega) (fun e1 => hne e1.symm)]
    exact Below.heap_alloc _ _ _ hb'
end

/-- pairs of places -/
def pc0 (p : Nat × Nat) : Value := .int .i64 (p.1 : Int)
def pc1 (p : Nat × Nat) : Value := .int .i64 (p.2 : Int)
/-- brackets on the document's stack -/
def oc0 (x : Nat × Int) : Value := .int .i64 (x.1 : Int)
def oc1 (x : Nat × Int) : Value := .int .i32 x.2
abbrev HasP := @HasR (Nat × Nat) pc0 pc1
abbrev MineP := @MineR (Nat × Nat) pc0 pc1 35
abbrev HasO := @HasR (Nat × Int) oc0 oc1
abbrev MineO := @MineR (Nat × Int) oc0 oc1 45
theorem full2 : (Try.prog.info? 35).map (fun i => (i.zero, i.size, i.bytes)) = some (some (.agg #[.int .i64 0, .int .i64 0]), 2, 16) := by kernel_rfl
theorem fullO : (Try.prog.info? 45).map (fun i => (i.zero, i.size, i.bytes)) = some (some (.agg #[.int .i64 0, .int .i32 0]), 2, 16) := by kernel_rfl
theorem fullI : (Try.prog.info? 3).map (fun i => (i.zero, i.size, i.bytes)) = some (some (.int .i64 0), 1, 8) := by kernel_rfl

theorem Mine.stays {k : IntKind} {e : TypeId} {w w' : World} {B : Nat} {v : Value} {xs : List Int} (h : Mine k e w B v xs) (hk : ∀ b, v.ownBlock = some b → b < w.heap.size → w'.heap[b]? = w.heap[b]?) : Mine k e w' B v xs := by
  refine ⟨h.1, ?_⟩
  rcases h.2 with ⟨a, b⟩ | ⟨g, cap, cur, a, b, hg, r⟩
  · exact .inl ⟨a, b⟩
  · exact .inr ⟨g, cap, cur, a, b, by rw [hk g (by rw [a]; rfl) (Array.getElem?_eq_some_iff.1 hg).1]; exact hg, r⟩
theorem Mine.up {k : IntKind} {e : TypeId} {w w' : World} {B : Nat} {v : Value} {xs : List Int} (h : Mine k e w B v xs) (hu : Up w w') : Mine k e w' B v xs := h.stays (fun b _ hb => hu.1.block b hb)
theorem Mine.own_lt {k : IntKind} {e : TypeId} {w : World} {B : Nat} {v : Value} {xs : List Int} (h : Mine k e w B v xs) (b : Nat) (hb : v.ownBlock = some b) : B ≤ b ∧ b < w.heap.size := World.ownsRow.lt h b hb
/-- cut to its first k elements -/
theorem Mine.cut {q : IntKind} {e : TypeId} {w : World} {B : Nat} {xs : List Int} {g n c k : Nat} (h : Mine q e w B (.slice (some ⟨g, 0, none⟩) n c) xs) (hk : k ≤ xs.length) : Mine q e w B (.slice (some ⟨g, 0, none⟩) k c) (xs.take k) := by
  have hl : (xs.take k).length = k := by rw [List.length_take]; omega
  refine ⟨by simp, ?_⟩
  rcases h.2 with ⟨a, b⟩ | ⟨g', cap, cur, a, b, hg, hc, hm, hs, ht⟩
  · cases a
  · injection a with a1 a2 a3
    injection a1 with a1
    injection a1 with a1
    subst a1; subst a3
    refine .inr ⟨g, c, cur, by rw [hl], b, hg, by omega, hm, hs, ?_⟩
    rw [hl, List.map_take, ← ht, List.take_take]
    congr 1
    omega
/-- what a call hands back: a slice of its own that holds the pairs l -/
def PairsOf (w w' : World) (e : Ending) (l : List (Nat × Nat)) : Prop := ∃ v, e = .returned v ∧ MineP w' w.heap.size v l ∧ Below w.heap.size w w'
end Go.Proofs.Ytlopddiplmjpfaa
