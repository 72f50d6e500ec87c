/-
  Three slices of numbers of the call's own, all apart; the lesser of two ints behind a guard that is met. No condition.
-/
import Derived.Test.YtnocdminhcpmpaaRom
set_option linter.unusedVariables false
set_option linter.unusedSimpArgs false
namespace Go.Proofs.Ytnocdminhcpmpaa
open Go.ChangeShapes Go.WideShapes Go.ChangeAt Go.RowKit Go.Sort

structure ThrS (w : World) (B : Nat) (wr : World) (u v o : Value) (L M O : List Nat) : Prop where
  m1 : Mine .i64 3 wr B u (inN L)
  m2 : Mine .i64 3 wr B v (inN M)
  m3 : Mine .i64 3 wr B o (inN O)
  f12 : Apart u v
  f23 : Apart v o
  f31 : Apart o u
  bel : Below B w wr
section
variable {w wr W : World} {B : Nat} {u v o u' : Value} {L M O : List Nat}
theorem ThrS.turn (h : ThrS w B wr u v o L M O) : ThrS w B wr v o u M O L := ⟨h.m2, h.m3, h.m1, h.f23, h.f31, h.f12, h.bel⟩
theorem ThrS.push {x : Nat} (h : ThrS w B wr u v o L M O) (hM : Mine .i64 3 W B u' (inN L ++ [(x : Int)])) (hb : Below B wr W) (hf : ∀ b, b < wr.heap.size → u.ownBlock ≠ some b → u'.ownBlock ≠ some b ∧ W.heap[b]? = wr.heap[b]?) : ThrS w B W u' v o (L ++ [x]) M O :=
  ⟨by rw [inN_append]; exact hM, h.m2.stays fun b hb2 hlt => (hf b hlt fun e => h.f12 b e hb2).2, h.m3.stays fun b hb2 hlt => (hf b hlt (h.f31 b hb2)).2,
   (fun b hb2 e => (hf b (h.m2.own_lt b e).2 fun e2 => h.f12 b e2 e).1 hb2), h.f23, (fun b hb2 => (hf b (h.m3.own_lt b hb2).2 (h.f31 b hb2)).1), h.bel.trans hb⟩
theorem ThrS.nil (w : World) : ThrS w w.heap.size w (.slice none 0 0) (.slice none 0 0) (.slice none 0 0) [] [] [] := ⟨Mine.nil_ _ _ _ _, Mine.nil_ _ _ _ _, Mine.nil_ _ _ _ _, apart_nil _, apart_nil _, apart_nil _, Below.refl _ _⟩
end
theorem rep_snoc (k n : Nat) : List.replicate (n + 1) k = List.replicate n k ++ [k] := by
  rw [List.replicate_succ']
/-- the places from the last down, as far as q of them -/
def downL (N q : Nat) : List Nat := (List.range q).map fun i => N - 1 - i
theorem down_snoc (N q : Nat) : downL N (q + 1) = downL N q ++ [N - 1 - q] := by
  unfold downL
  rw [List.range_succ, List.map_append]; rfl
theorem down_len (N q : Nat) : (downL N q).length = q := by simp [downL]
theorem down_all (N : Nat) : downL N N = (List.range N).reverse := by
  apply List.ext_getElem?
  intro i
  unfold downL
  rw [List.getElem?_map]
  rcases Nat.lt_or_ge i N with h | h
  · rw [List.getElem?_range h, List.getElem?_reverse (by simpa using h), List.length_range, List.getElem?_range (by omega)]; rfl
  · rw [List.getElem?_eq_none (by simpa using h), List.getElem?_eq_none (by simpa using h)]; rfl
end Go.Proofs.Ytnocdminhcpmpaa
