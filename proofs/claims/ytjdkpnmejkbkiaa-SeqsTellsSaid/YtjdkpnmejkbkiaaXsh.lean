/-
  What the program's Levels holds between two rounds: two slices that are being filled, where isolates end, the state in blocks of its own. No condition.
-/
import Derived.Test.YtjdkpnmejkbkiaaXsg
import Derived.Deep.DeepCutAuto
import Derived.Deep.OwnRows
set_option linter.unusedVariables false
set_option linter.unusedSimpArgs false
namespace Go.Proofs.Ytjdkpnmejkbkiaa
open Go.ChangeShapes Go.WideShapes Go.ChangeAt Go.RowKit Go.Sort

/-- two slices of length n, filled up to k; the ends of isolates; all below B1 -/
structure Lv (w : World) (B1 g6 g7 n : Nat) (V8 : Value) (E : List Int) (k : Nat) (lv cl : List Int) (W : World) : Prop where
  lev : Mine .i64 3 W w.heap.size (.slice (some ⟨g6, 0, none⟩) n n) (lv ++ List.replicate (n - k) 0)
  shn : Mine .i64 3 W w.heap.size (.slice (some ⟨g7, 0, none⟩) n n) (cl ++ List.replicate (n - k) 0)
  len6 : lv.length = k
  len7 : cl.length = k
  ends : Mine .i64 3 W w.heap.size V8 E
  ne67 : g6 ≠ g7
  ne86 : V8.ownBlock ≠ some g6
  ne87 : V8.ownBlock ≠ some g7
  lt6 : g6 < B1
  lt7 : g7 < B1
  lt8 : ∀ b, V8.ownBlock = some b → b < B1
  low : w.heap.size ≤ B1
  up : B1 ≤ W.heap.size
  below : Below w.heap.size w W
section
variable {w W W' : World} {B1 g6 g7 n k : Nat} {V8 : Value} {E lv cl : List Int}
theorem Lv.carry (h : Lv w B1 g6 g7 n V8 E k lv cl W) (hb : Below B1 W W') : Lv w B1 g6 g7 n V8 E k lv cl W' := by
  obtain ⟨a1, a2, a3, a4, a5, a6, a7, a8, a9, b1, b2, b3, b4, b5⟩ := h
  refine ⟨a1.stays fun b hb2 hl => hb.block b ?_, a2.stays fun b hb2 hl => hb.block b ?_, a3, a4, a5.stays fun b hb2 hl => hb.block b (b2 b hb2), a6, a7, a8, a9, b1, b2, b3, Nat.le_trans b4 hb.size, b5.trans (hb.mono b3)⟩
  · have : some g6 = some b := hb2
    injection this with this
    subst this; exact a9
  · have : some g7 = some b := hb2
    injection this with this
    subst this; exact b1
theorem set_at (lv : List Int) (n k : Nat) (hk : k < n) (hl : lv.length = k) (x : Int) : (lv ++ List.replicate (n - k) 0).set k x = (lv ++ [x]) ++ List.replicate (n - (k + 1)) 0 := by
  rw [show n - k = (n - (k + 1)) + 1 by omega, List.replicate_succ, List.set_append_right _ _ (by omega), hl, Nat.sub_self, List.set_cons_zero, List.append_assoc]
  rfl
theorem Lv.push (h : Lv w B1 g6 g7 n V8 E k lv cl W) (hk : k < n) (x y : Int) : Lv w B1 g6 g7 n V8 E (k + 1) (lv ++ [x]) (cl ++ [y]) ((W.setCell ⟨g6, k, none⟩ (.int .i64 x)).setCell ⟨g7, k, none⟩ (.int .i64 y)) := by
  obtain ⟨a1, a2, a3, a4, a5, a6, a7, a8, a9, b1, b2, b3, b4, b5⟩ := h
  have l6 : (lv ++ List.replicate (n - k) (0 : Int)).length = n := by rw [List.length_append, a3, List.length_replicate]; omega
  have l7 : (cl ++ List.replicate (n - k) (0 : Int)).length = n := by rw [List.length_append, a4, List.length_replicate]; omega
  have s6 := a1.set k (by omega) x
  have s7 := (a2.stays (w' := W.setCell ⟨g6, k, none⟩ (.int .i64 x)) fun b hb hl => Below.heap_setCell _ _ _ _ (fun e => a6 (by have : some g7 = some b := hb; injection this with this; rw [this, e])))
  have s7 := s7.set k (by omega) y
  rw [set_at lv n k hk a3] at s6
  rw [set_at cl n k hk a4] at s7
  have o6 := (a1.own_lt g6 rfl).1
  have o7 := (a2.own_lt g7 rfl).1
  refine ⟨s6.stays fun b hb hl => Below.heap_setCell _ _ _ _ (fun e => a6 (by have : some g6 = some b := hb; injection this with this; rw [this, e])), s7, by simp [a3], by simp [a4], a5.stays fun b hb hl => ?_, a6, a7, a8, a9, b1, b2, b3, by simpa using b4, (b5.setCell o6 _).setCell o7 _⟩
  rw [Below.heap_setCell _ _ _ _ (fun e => a8 (by rw [hb, e])), Below.heap_setCell _ _ _ _ (fun e => a7 (by rw [hb, e]))]
theorem Lv.cells (h : Lv w B1 g6 g7 n V8 E k lv cl W) (hk : k < n) : (∃ X, W.cell? ⟨g6, k, none⟩ = some (.int .i64 X)) ∧ (∃ X, W.cell? ⟨g7, k, none⟩ = some (.int .i64 X)) ∧ W.frozen? ⟨g6, k, none⟩ = false ∧ W.frozen? ⟨g7, k, none⟩ = false := by
  have l6 : (lv ++ List.replicate (n - k) (0 : Int)).length = n := by rw [List.length_append, h.len6, List.length_replicate]; omega
  have l7 : (cl ++ List.replicate (n - k) (0 : Int)).length = n := by rw [List.length_append, h.len7, List.length_replicate]; omega
  exact ⟨⟨_, h.lev.cellAt k (by omega)⟩, ⟨_, h.shn.cellAt k (by omega)⟩, h.lev.free k, h.shn.free k⟩
end
end Go.Proofs.Ytjdkpnmejkbkiaa
