/-
  Two slices of the call's own, of integers of two kinds, apart: appending to either. Slices handed on. No condition.
-/
import Derived.Test.YtekjejbcdnghjaaDoorZOwn
import Derived.Test.YtekjejbcdnghjaaDoorZa
set_option linter.unusedVariables false
set_option linter.unusedSimpArgs false
namespace Go.Proofs.YtekjejbcdnghjaaDoor
open Go.ChangeShapes Go.WideShapes Go.ChangeAt Go.RowKit

structure TwoM (k1 k2 : IntKind) (e1 e2 : TypeId) (B : Nat) (w wr : World) (v u : Value) (l m : List Int) : Prop where
  one : Mine k1 e1 wr B v l
  two : Mine k2 e2 wr B u m
  far : Apart v u
  bel : Below B w wr
section
variable {k1 k2 : IntKind} {e1 e2 : TypeId} {B : Nat} {w wr W : World} {v u v' u' : Value} {l m l' m' : List Int}
theorem TwoM.nil_ (k1 k2 : IntKind) (e1 e2 : TypeId) (B : Nat) (w : World) : TwoM k1 k2 e1 e2 B w w (.slice none 0 0) (.slice none 0 0) [] [] := ⟨Mine.nil_ _ _ _ _, Mine.nil_ _ _ _ _, apart_nil _, Below.refl _ _⟩
theorem TwoM.push1 (h : TwoM k1 k2 e1 e2 B w wr v u l m) (hM : Mine k1 e1 W B v' l') (hb : Below B wr W) (hf : ∀ b, b < wr.heap.size → v.ownBlock ≠ some b → v'.ownBlock ≠ some b ∧ W.heap[b]? = wr.heap[b]?) : TwoM k1 k2 e1 e2 B w W v' u l' m :=
  ⟨hM, h.two.stays fun b hb2 hlt => (hf b hlt fun e => h.far b e hb2).2, fun b hb2 e => (hf b (h.two.own_lt b e).2 fun e2 => h.far b e2 e).1 hb2, h.bel.trans hb⟩
theorem TwoM.push2 (h : TwoM k1 k2 e1 e2 B w wr v u l m) (hM : Mine k2 e2 W B u' m') (hb : Below B wr W) (hf : ∀ b, b < wr.heap.size → u.ownBlock ≠ some b → u'.ownBlock ≠ some b ∧ W.heap[b]? = wr.heap[b]?) : TwoM k1 k2 e1 e2 B w W v u' l m' :=
  ⟨h.one.stays fun b hb2 hlt => (hf b hlt fun e => h.far b hb2 e).2, hM, fun b hb2 e => (hf b (h.one.own_lt b hb2).2 fun e2 => h.far b hb2 e2).1 e, h.bel.trans hb⟩
theorem TwoM.up (h : TwoM k1 k2 e1 e2 B w wr v u l m) (hB : B ≤ wr.heap.size) (hu : Below wr.heap.size wr W) : TwoM k1 k2 e1 e2 B w W v u l m :=
  ⟨h.one.below hu, h.two.below hu, h.far, h.bel.trans (hu.mono hB)⟩
/-- handed on to a caller whose memory ends at B -/
theorem Mine.give {q : IntKind} {e : TypeId} {w w0 wr : World} {v : Value} {xs : List Int} (h : Mine q e wr w0.heap.size v xs) (h0 : Below w.heap.size w w0) (hb : Below w0.heap.size w0 wr) : SliceV q w wr v xs := (h.sliceV hb).trans h0
theorem SliceV.later {q : IntKind} {w w1 w2 : World} {v : Value} {xs : List Int} (h : SliceV q w w1 v xs) (hb : Below w1.heap.size w1 w2) : SliceV q w w2 v xs := by
  obtain ⟨A, c, rfl, hc, hh, h0⟩ := h
  exact ⟨A, c, rfl, hc, hh.carry hb, h0.trans (hb.mono h0.size)⟩
end
end Go.Proofs.YtekjejbcdnghjaaDoor
