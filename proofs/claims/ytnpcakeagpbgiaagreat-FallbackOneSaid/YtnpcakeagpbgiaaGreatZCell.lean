/-
  Slices of clusters (structs of two ints) in memory: 'HasC' (reads as a list of pairs), 'MineC' (the call's own, to be grown in place), appending one, what a call hands back. No condition.
-/
import Derived.Test.YtnpcakeagpbgiaaGreatAza
set_option linter.unusedVariables false
namespace Go.Proofs.YtnpcakeagpbgiaaGreat
open Go.ChangeShapes Go.WideShapes Go.ChangeAt Go.RowKit

def row (s : Nat × Nat) : List Value := [.int .i64 s.1, .int .i64 s.2]
def cellsC (l : List (Nat × Nat)) : List Value := l.flatMap row
theorem cellsC_cons (s : Nat × Nat) (l : List (Nat × Nat)) : cellsC (s :: l) = row s ++ cellsC l := by simp [cellsC]
theorem cellsC_append (l m : List (Nat × Nat)) : cellsC (l ++ m) = cellsC l ++ cellsC m := by simp [cellsC]
theorem length_cellsC : ∀ l : List (Nat × Nat), (cellsC l).length = l.length * 2
  | [] => rfl
  | s :: l => by rw [cellsC_cons, List.length_append, length_cellsC l]; simp [row]; omega
theorem cellsC_get : ∀ (l : List (Nat × Nat)) (i : Nat) (s : Nat × Nat), l[i]? = some s → ∀ q u, (row s)[q]? = some u → (cellsC l)[i * 2 + q]? = some u
  | [], _, _, h, _, _, _ => by simp at h
  | s :: l, 0, s', h, q, u, hq => by
    simp at h; subst h
    have hlt : q < (row s).length := (List.getElem?_eq_some_iff.1 hq).1
    rw [cellsC_cons, List.getElem?_append_left (by simpa using hlt)]
    simpa using hq
  | s :: l, i + 1, s', h, q, u, hq => by
    have ih := cellsC_get l i s' (by simpa using h) q u hq
    rw [cellsC_cons, List.getElem?_append_right (by simp [row]; omega)]
    rw [← ih]
    congr 1
    simp [row]
    omega

/-- the slice headed at A reads as the pairs l, in a block below B -/
def HasC (w : World) (B : Nat) (A : Option Addr) (l : List (Nat × Nat)) : Prop :=
  l ≠ [] → ∃ b off, A = some ⟨b, off, none⟩ ∧ b < B ∧ ∀ (i : Nat) s, l[i]? = some s → w.cell? ⟨b, off + i * 2, none⟩ = some (.int .i64 s.1) ∧ w.cell? ⟨b, off + i * 2 + 1, none⟩ = some (.int .i64 s.2)
section
variable {w w' : World} {B B' : Nat} {A : Option Addr} {l : List (Nat × Nat)} {v : Value}
theorem HasC.nil_ : HasC w B A [] := fun h => absurd rfl h
theorem HasC.at_ (h : HasC w B A l) {i : Nat} (hi : i < l.length) : ∃ b off, A = some ⟨b, off, none⟩ ∧ b < B ∧ w.cell? ⟨b, off + i * 2, none⟩ = some (.int .i64 l[i].1) ∧ w.cell? ⟨b, off + i * 2 + 1, none⟩ = some (.int .i64 l[i].2) := by
  obtain ⟨b, off, e, hb, hc⟩ := h (fun e => by subst e; simp at hi)
  exact ⟨b, off, e, hb, hc i _ (List.getElem?_eq_getElem hi)⟩
theorem HasC.below (h : HasC w B A l) (hb : Below B w w') : HasC w' B A l := fun hne => by
  obtain ⟨b, off, e, hl, hc⟩ := h hne
  refine ⟨b, off, e, hl, fun i s hs => ?_⟩
  obtain ⟨h1, h2⟩ := hc i s hs
  exact ⟨(hb.cell (p := ⟨b, off + i * 2, none⟩) hl).trans h1, (hb.cell (p := ⟨b, off + i * 2 + 1, none⟩) hl).trans h2⟩
theorem HasC.more (h : HasC w B A l) (hB : B ≤ B') : HasC w B' A l := fun hne => by
  obtain ⟨b, off, e, hl, hc⟩ := h hne
  exact ⟨b, off, e, by omega, hc⟩
theorem HasC.carry (h : HasC w w.heap.size A l) (hb : Below w.heap.size w w') : HasC w' w'.heap.size A l := (h.below hb).more hb.size

/-- a slice in a block that stays as it is reads on -/
theorem HasC.stays (h : HasC w w.heap.size A l) (hs : w.heap.size ≤ w'.heap.size) (hk : ∀ a, A = some a → a.block < w.heap.size → w'.heap[a.block]? = w.heap[a.block]?) : HasC w' w'.heap.size A l := fun hne => by
  obtain ⟨b, off, e, hl, hc⟩ := h hne
  refine ⟨b, off, e, by omega, fun i s hs => ?_⟩
  have hb := hk ⟨b, off, none⟩ e hl
  obtain ⟨h1, h2⟩ := hc i s hs
  exact ⟨(World.cell?_of_block (a := ⟨b, off + i * 2, none⟩) hb).trans h1, (World.cell?_of_block (a := ⟨b, off + i * 2 + 1, none⟩) hb).trans h2⟩

def MineC (w : World) (B : Nat) (v : Value) (l : List (Nat × Nat)) : Prop := w.ownsRow B 52 2 v l.length (cellsC l)
theorem MineC.nil_ (w : World) (B : Nat) : MineC w B (.slice none 0 0) [] := World.ownsRow_nil _ _ _ _
theorem MineC.form (h : MineC w B v l) (hne : l ≠ []) : ∃ g c, v = .slice (some ⟨g, 0, none⟩) l.length c ∧ l.length ≤ c ∧ B ≤ g ∧ g < w.heap.size ∧
    ∀ (i : Nat) s, l[i]? = some s → w.cell? ⟨g, 0 + i * 2, none⟩ = some (.int .i64 s.1) ∧ w.cell? ⟨g, 0 + i * 2 + 1, none⟩ = some (.int .i64 s.2) := by
  have h' := h
  unfold MineC at h'
  have hlen : 0 < l.length := by cases l with | nil => exact absurd rfl hne | cons a l => simp
  rcases h'.2 with ⟨_, h0⟩ | ⟨g, cap, cur, hv, hB, hg, hc, _⟩
  · omega
  · subst hv
    obtain ⟨h1, h2⟩ := World.ownsRow.lt h' g rfl
    refine ⟨g, cap, rfl, hc, h1, h2, fun i s hs => ?_⟩
    have hcl : ∀ q u, (row s)[q]? = some u → w.cell? ⟨g, 0 + (i * 2 + q), none⟩ = some u := fun q u hq => by
      have := World.ownsRow.cells h' (g := g) rfl _ u (cellsC_get l i s hs q u hq)
      rwa [add_plain] at this
    exact ⟨hcl 0 _ rfl, hcl 1 _ rfl⟩
theorem MineC.has (h : MineC w B v l) : ∃ A c, v = .slice A l.length c ∧ l.length ≤ c ∧ Fresh B A ∧ HasC w w.heap.size A l := by
  by_cases hne : l = []
  · subst hne
    rcases h.2 with ⟨rfl, _⟩ | ⟨g, cap, cur, rfl, hB, _⟩
    · exact ⟨none, 0, rfl, by simp, (fun a ha => by cases ha), HasC.nil_⟩
    · exact ⟨_, cap, rfl, by simp, (fun a ha => by injection ha with ha; subst ha; exact hB), HasC.nil_⟩
  · obtain ⟨g, c, hv, hc, h1, h2, hcell⟩ := h.form hne
    exact ⟨_, c, hv, hc, (fun a ha => by injection ha with ha; subst ha; exact h1), fun _ => ⟨g, 0, rfl, h2, hcell⟩⟩
theorem MineC.below (h : MineC w B v l) (hb : Below w.heap.size w w') : MineC w' B v l := by
  unfold MineC at *
  refine ⟨h.1, ?_⟩
  rcases h.2 with ⟨a, b⟩ | ⟨g, cap, cur, a, b, hg, r⟩
  · exact .inl ⟨a, b⟩
  · have hlt : g < w.heap.size := by
      rcases Nat.lt_or_ge g w.heap.size with h' | h'
      · exact h'
      · rw [Array.getElem?_eq_none h'] at hg; cases hg
    exact .inr ⟨g, cap, cur, a, b, by rw [hb.block g hlt]; exact hg, r⟩
end
theorem cells_new2 (w : World) (s : Nat × Nat) (e : TypeId) : ∀ j u, (row s)[j]? = some u → (w.alloc (.cells (row s).toArray e)).cell? ((⟨w.heap.size, 0, none⟩ : Addr).add j) = some u := by
  intro j u hj
  have hg : (w.alloc (.cells (row s).toArray e)).heap[w.heap.size]? = some (.cells (row s).toArray e (0, 0)) := heap_alloc_new _ _
  rw [add_plain]
  rw [cell_of_row _ _ _ _ _ _ hg]
  simpa using hj
/-- append of one pair to a slice of the call's own; the new one lies in the newest block -/
theorem wpList_pushC {P : Program} {ops : Array Oper} {rest : List Oper} {o : Oper} {a : Act} {Q : Exit → Act → World → Prop} {bytes : Nat} (hgd : o.guard = none) (s x : Operand) (t : TypeId)
    (ho : o.op = .call { callee := .builtin .append, args := #[s, x], argTypes := #[t, t] }) (z : Value)
    (ht : P.underlying t = some (.slice 52)) (hi : (P.info? 52).map (fun i => (i.zero, i.size, i.bytes)) = some (some z, 2, bytes)) (hz : z.cells.size = 2) (hby : bytes ≤ 64)
    (B : Nat) (v : Value) (l : List (Nat × Nat)) (y : Nat × Nat) (W0 wr : World) (cs : Array Value) (hcs : cs = (row y).toArray) (hown : MineC wr B v l) (hs : a.eval s = v) (hx : a.eval x = .slice (some ⟨wr.heap.size, 0, none⟩) 1 1)
    (hbl : Below B W0 wr) (hB : B ≤ wr.heap.size) (hn : l.length ≤ 1000000)
    (h : ∀ v' w', MineC w' B v' (l ++ [y]) → Below B W0 w' → wpList P ops Q rest (a.put o.dst v') w') : wpList P ops Q (o :: rest) a (wr.alloc (.cells cs 52)) := by
  subst hcs
  obtain ⟨i0, hi', hz0, hz1, hz2⟩ := info_parts hi
  have hb : (l.length + 1) * bytes ≤ 140737488355328 := by
    have : (l.length + 1) * bytes ≤ 1000001 * 64 := Nat.mul_le_mul (by omega) hby
    omega
  have hown' : (wr.alloc (.cells (row y).toArray 52)).ownsRow B 52 2 v l.length (cellsC l) := World.ownsRow.alloc hown _
  refine wpList_append_own (P := P) _ hgd s x t ho B 52 i0 z 2 bytes ht hi' hz0 hz1 hz2 hz (by decide) v l.length _ hs hown' ⟨wr.heap.size, 0, none⟩ 1 1 (row y) hx rfl (cells_new2 _ _ _) (by intro u hu; simp [row] at hu; rcases hu with rfl | rfl <;> rfl)
    (by unfold maxLen; omega) hb (by simp; omega) fun v' w1 h1 hg _ => ?_
  refine h v' w1 ?_ ((hbl.alloc hB _).grown hg (by simp; omega) fun j hj => (World.ownsRow.lt hown j hj).1)
  unfold MineC
  rw [cellsC_append]
  simpa [cellsC] using h1
/-- the same at a step of a region that draws its order -/
theorem step_pushC {P : Program} {ops : Array Oper} {o : Oper} {a : Act} {w : World} {K : Act → World → Prop} {Q : Exit → Act → World → Prop} {E : Prop} {bytes : Nat} (hgd : o.guard = none) (s x : Operand) (t : TypeId)
    (ho : o.op = .call { callee := .builtin .append, args := #[s, x], argTypes := #[t, t] }) (z : Value)
    (ht : P.underlying t = some (.slice 52)) (hi : (P.info? 52).map (fun i => (i.zero, i.size, i.bytes)) = some (some z, 2, bytes)) (hz : z.cells.size = 2) (hby : bytes ≤ 64)
    (B : Nat) (v : Value) (l : List (Nat × Nat)) (y : Nat × Nat) (W0 : World) (b : Nat) (hown : MineC w B v l) (hs : a.eval s = v) (hx : a.eval x = .slice (some ⟨b, 0, none⟩) 1 1) (hy : w.cell? ⟨b, 0, none⟩ = some (.int .i64 y.1)) (hy2 : w.cell? ⟨b, 1, none⟩ = some (.int .i64 y.2))
    (hbl : Below B W0 w) (hB : B ≤ w.heap.size) (hn : l.length ≤ 1000000)
    (h : ∀ v' w', MineC w' B v' (l ++ [y]) → Below B W0 w' → K (a.put o.dst v') w') : if Region.wanted o (yielded ops a.tmps) = true then Oper.wp P o a w K Q else E := by
  obtain ⟨i0, hi', hz0, hz1, hz2⟩ := info_parts hi
  have hb : (l.length + 1) * bytes ≤ 140737488355328 := by
    have : (l.length + 1) * bytes ≤ 1000001 * 64 := Nat.mul_le_mul (by omega) hby
    omega
  refine step_append_lies (P := P) w hgd s x t ho B 52 i0 z 2 bytes ht hi' hz0 hz1 hz2 hz (by decide) v l.length _ hs hown ⟨b, 0, none⟩ 1 1 (row y) hx rfl ?_ (by intro u hu; simp [row] at hu; rcases hu with rfl | rfl <;> rfl)
    (by omega) (by unfold maxLen; omega) hb hB w.heap.size rfl fun g cap w1 h1 hg _ _ => ?_
  · intro j u hj
    match j, hj with
    | 0, hj => simp [row] at hj; subst hj; simpa [Addr.add] using hy
    | 1, hj => simp [row] at hj; subst hj; simpa [Addr.add] using hy2
  · refine h _ w1 ?_ (hbl.grown hg hB fun j hj => (World.ownsRow.lt hown j hj).1)
    unfold MineC
    rw [cellsC_append]
    simpa [cellsC] using h1

/-- what a call hands back: a slice that reads as the pairs l -/
def CutsV (w w' : World) (v : Value) (l : List (Nat × Nat)) : Prop := ∃ A c, v = .slice A l.length c ∧ (l.length ≤ c ∧ Fresh w.heap.size A) ∧ HasC w' w'.heap.size A l ∧ Below w.heap.size w w'
def CutsOf (w w' : World) (e : Ending) (l : List (Nat × Nat)) : Prop := ∃ v, e = .returned v ∧ CutsV w w' v l
theorem MineC.cutsV {w w' : World} {v : Value} {l : List (Nat × Nat)} (h : MineC w' w.heap.size v l) (hb : Below w.heap.size w w') : CutsV w w' v l := by
  obtain ⟨A, c, hv, hc, hf, hh⟩ := h.has
  exact ⟨A, c, hv, ⟨hc, hf⟩, hh, hb⟩
end Go.Proofs.YtnpcakeagpbgiaaGreat
