/-
  Slices of spans in memory: 'HasS' (reads as a list of spans), 'MineS' (the call's own, to be grown in place), appending one span, turning the last one's end, what a call hands back. No condition.
-/
import Derived.Test.YtllmafbpjmclbaaSpm
import Derived.Test.YtllmafbpjmclbaaAny
set_option linter.unusedVariables false
namespace Go.Proofs.Ytllmafbpjmclbaa.S5
open Go.ChangeShapes Go.WideShapes Go.ChangeAt Go.RowKit

section
variable {w w' : World} {g : Nat} {t : TypeId} {cs : Array Value}
theorem At.free (h : At w g t cs) (j : Nat) : w.frozen? ⟨g, j, none⟩ = false := by
  unfold At at h
  simp [World.frozen?, h]
theorem At.setCell (h : At w g t cs) (j : Nat) (v : Value) : At (w.setCell ⟨g, j, none⟩ v) g t (cs.setIfInBounds j v) := by
  have hlt := h.lt
  unfold At at *
  have h' : w.heap[g] = .cells cs t (0, 0) := by simpa [Array.getElem?_eq_getElem hlt] using h
  show (w.heap.modify g _)[g]? = _
  rw [Array.getElem?_eq_getElem (by simpa using hlt), Array.getElem_modify_self, h']
  rfl
end
def row (s : Sp) : List Value := [.int .i64 s.f, .int .i64 s.t, .int .i64 s.v]
def cellsS (l : List Sp) : List Value := l.flatMap row
theorem cellsS_cons (s : Sp) (l : List Sp) : cellsS (s :: l) = row s ++ cellsS l := by simp [cellsS]
theorem cellsS_append (l m : List Sp) : cellsS (l ++ m) = cellsS l ++ cellsS m := by simp [cellsS]
theorem length_cellsS : ∀ l : List Sp, (cellsS l).length = l.length * 3
  | [] => rfl
  | s :: l => by rw [cellsS_cons, List.length_append, length_cellsS l]; simp [row]; omega
theorem cellsS_get : ∀ (l : List Sp) (i : Nat) (s : Sp), l[i]? = some s → ∀ q u, (row s)[q]? = some u → (cellsS l)[i * 3 + q]? = some u
  | [], _, _, h, _, _, _ => by simp at h
  | s :: l, 0, s', h, q, u, hq => by
    simp at h; subst h
    have hlt : q < (row s).length := (List.getElem?_eq_some_iff.1 hq).1
    rw [cellsS_cons, List.getElem?_append_left (by simpa using hlt)]
    simpa using hq
  | s :: l, i + 1, s', h, q, u, hq => by
    have ih := cellsS_get l i s' (by simpa using h) q u hq
    rw [cellsS_cons, List.getElem?_append_right (by simp [row]; omega)]
    rw [← ih]
    congr 1
    simp [row]
    omega

/-- the slice headed at A reads as the spans l, in a block below B -/
def HasS (w : World) (B : Nat) (A : Option Addr) (l : List Sp) : Prop :=
  l ≠ [] → ∃ b off, A = some ⟨b, off, none⟩ ∧ b < B ∧ ∀ (i : Nat) s, l[i]? = some s → w.cell? ⟨b, off + i * 3, none⟩ = some (.int .i64 s.f) ∧ w.cell? ⟨b, off + i * 3 + 1, none⟩ = some (.int .i64 s.t) ∧ w.cell? ⟨b, off + i * 3 + 2, none⟩ = some (.int .i64 s.v)
section
variable {w w' : World} {B B' : Nat} {A : Option Addr} {l : List Sp} {v : Value}
theorem HasS.nil_ : HasS w B A [] := fun h => absurd rfl h
theorem HasS.at_ (h : HasS w B A l) {i : Nat} (hi : i < l.length) : ∃ b off, A = some ⟨b, off, none⟩ ∧ b < B ∧ w.cell? ⟨b, off + i * 3, none⟩ = some (.int .i64 l[i].f) ∧ w.cell? ⟨b, off + i * 3 + 1, none⟩ = some (.int .i64 l[i].t) ∧ w.cell? ⟨b, off + i * 3 + 2, none⟩ = some (.int .i64 l[i].v) := by
  obtain ⟨b, off, e, hb, hc⟩ := h (fun e => by subst e; simp at hi)
  exact ⟨b, off, e, hb, hc i _ (List.getElem?_eq_getElem hi)⟩
theorem HasS.below (h : HasS w B A l) (hb : Below B w w') : HasS w' B A l := fun hne => by
  obtain ⟨b, off, e, hl, hc⟩ := h hne
  refine ⟨b, off, e, hl, fun i s hs => ?_⟩
  obtain ⟨h1, h2, h3⟩ := hc i s hs
  exact ⟨(hb.cell (p := ⟨b, off + i * 3, none⟩) hl).trans h1, (hb.cell (p := ⟨b, off + i * 3 + 1, none⟩) hl).trans h2, (hb.cell (p := ⟨b, off + i * 3 + 2, none⟩) hl).trans h3⟩
theorem HasS.more (h : HasS w B A l) (hB : B ≤ B') : HasS w B' A l := fun hne => by
  obtain ⟨b, off, e, hl, hc⟩ := h hne
  exact ⟨b, off, e, by omega, hc⟩
theorem HasS.carry (h : HasS w w.heap.size A l) (hb : Below w.heap.size w w') : HasS w' w'.heap.size A l := (h.below hb).more hb.size
/-- past the first span -/
theorem HasS.tail {b off : Nat} {s : Sp} (h : HasS w B (some ⟨b, off, none⟩) (s :: l)) : HasS w B (some ⟨b, off + 3, none⟩) l := fun hne => by
  obtain ⟨b', off', e, hl, hc⟩ := h (by simp)
  injection e with e; injection e with e1 e2; subst e1; subst e2
  refine ⟨b, off + 3, rfl, hl, fun i s' hs => ?_⟩
  have := hc (i + 1) s' (by simpa using hs)
  rwa [show off + (i + 1) * 3 = off + 3 + i * 3 by omega] at this

end
theorem cells_new3 (w : World) (s : Sp) (e : TypeId) : ∀ j u, (row s)[j]? = some u → (w.alloc (.cells (row s).toArray e)).cell? ((⟨w.heap.size, 0, none⟩ : Addr).add j) = some u := by
  intro j u hj
  have hg : (w.alloc (.cells (row s).toArray e)).heap[w.heap.size]? = some (.cells (row s).toArray e (0, 0)) := heap_alloc_new _ _
  rw [add_plain]
  rw [cell_of_row _ _ _ _ _ _ hg]
  simpa using hj
/-- what a call hands back: a slice that reads as the spans l, in a block that is new (or nil) -/
def SpansV (w w' : World) (v : Value) (l : List Sp) : Prop := ∃ A c, v = .slice A l.length c ∧ l.length ≤ c ∧ HasS w' w'.heap.size A l ∧ Below w.heap.size w w'
def SpansOf (w w' : World) (e : Ending) (l : List Sp) : Prop := ∃ v, e = .returned v ∧ SpansV w w' v l
/-- what a span looks like -/
@[reducible] def spanS : Shp := .con (.int .i64) (.con (.int .i64) (.con (.int .i64) .nil))
def spOf (x : spanS.Dat) : Sp := ⟨x.1, x.2.1, x.2.2.1⟩
theorem HasN.spans {w : World} {B : Nat} {A : Option Addr} {l : List spanS.Dat} (h : HasN spanS.lay w B A l) : HasS w B A (l.map spOf) := fun hne => by
  obtain ⟨b, off, e, hb, hc⟩ := h (fun h0 => hne (by rw [h0]; rfl))
  refine ⟨b, off, e, hb, fun i s hs => ?_⟩
  rw [List.getElem?_map, Option.map_eq_some_iff] at hs
  obtain ⟨x, hx, rfl⟩ := hs
  exact ⟨hc i x hx 0 _ rfl, hc i x hx 1 _ rfl, hc i x hx 2 _ rfl⟩
end Go.Proofs.Ytllmafbpjmclbaa.S5
