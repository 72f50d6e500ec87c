/-
  Slices of integers that a call makes for itself: 'Mine k e w B v xs' says that v is a slice of element type e, in a block from B on, that holds the integers xs and may be grown in place. Appending one element; reading one. No condition.
-/
import Derived.Test.YtllmafbpjmclbaaHas
import Derived.Laws.AppendOwn
import Derived.OwnWalk
import Derived.Deep.AppendLies
set_option linter.unusedVariables false
namespace Go.Proofs.Ytllmafbpjmclbaa
open Go.ChangeShapes Go.WideShapes Go.ChangeAt Go.RowKit

def Mine (k : IntKind) (e : TypeId) (w : World) (B : Nat) (v : Value) (xs : List Int) : Prop := w.ownsRow B e 1 v xs.length (xs.map (Value.int k))
section
variable {k : IntKind} {e : TypeId} {w : World} {B : Nat} {v : Value} {xs : List Int}
theorem Mine.nil_ (k : IntKind) (e : TypeId) (w : World) (B : Nat) : Mine k e w B (.slice none 0 0) [] := World.ownsRow_nil _ _ _ _
theorem Mine.one (k : IntKind) (e : TypeId) (w : World) (B : Nat) (x : Int) (hB : B ≤ w.heap.size) : Mine k e (w.alloc (.cells #[.int k x] e)) B (.slice (some ⟨w.heap.size, 0, none⟩) 1 1) [x] :=
  ⟨by simp, .inr ⟨w.heap.size, 1, #[.int k x], rfl, hB, heap_alloc_new w _, Nat.le_refl _, by unfold maxLen; simp, by simp, by simp⟩⟩
theorem Mine.form (h : Mine k e w B v xs) (hne : xs ≠ []) :
    ∃ g c, v = .slice (some ⟨g, 0, none⟩) xs.length c ∧ B ≤ g ∧ g < w.heap.size ∧ ∀ j u, xs[j]? = some u → w.cell? ⟨g, j, none⟩ = some (.int k u) := by
  have h' := h
  unfold Mine at h'
  have hlen : 0 < xs.length := by cases xs with | nil => exact absurd rfl hne | cons a l => simp
  rcases h'.2 with ⟨_, h0⟩ | ⟨g, cap, cur, hv, _⟩
  · omega
  · subst hv
    obtain ⟨h1, h2⟩ := World.ownsRow.lt h' g rfl
    refine ⟨g, cap, rfl, h1, h2, fun j u hu => ?_⟩
    have hc := World.ownsRow.cells h' (g := g) rfl j (.int k u) (by rw [List.getElem?_map, hu]; rfl)
    rwa [add_plain, Nat.zero_add] at hc
theorem Mine.low {B' : Nat} (h : Mine k e w B v xs) (hB : B' ≤ B) : Mine k e w B' v xs := by
  refine ⟨h.1, ?_⟩
  rcases h.2 with ⟨a, b⟩ | ⟨g, cap, cur, a, b, r⟩
  · exact .inl ⟨a, b⟩
  · exact .inr ⟨g, cap, cur, a, Nat.le_trans hB b, r⟩
theorem Mine.last {y : Int} {n : Nat} (h : Mine k e w B v (xs ++ [y])) (hl : xs.length = n) :
    ∃ g c, v = .slice (some ⟨g, 0, none⟩) (n + 1) c ∧ w.cell? ⟨g, n, none⟩ = some (.int k y) ∧ B ≤ g ∧ g < w.heap.size := by
  obtain ⟨g, c, hv, h1, h2, hc⟩ := h.form (by simp)
  refine ⟨g, c, by rw [hv]; simp [hl], hc n y (by rw [← hl]; simp), h1, h2⟩
/-- its value is a slice; it reads as a list -/
theorem Mine.reads (h : Mine k e w B v xs) : ∃ A c, v = .slice A xs.length c ∧ Has w w.heap.size A (xs.map (Value.int k)) := by
  have h' := h
  unfold Mine at h'
  rcases h'.2 with ⟨rfl, h0⟩ | ⟨g, cap, cur, rfl, _⟩
  · rw [h0]; exact ⟨none, 0, rfl, by rw [List.eq_nil_of_length_eq_zero h0]; exact Has.nil_⟩
  · exact ⟨_, cap, rfl, Has.own h'⟩
theorem Mine.alloc (h : Mine k e w B v xs) (o : Obj) : Mine k e (w.alloc o) B v xs := World.ownsRow.alloc h o
theorem Mine.drewN (h : Mine k e w B v xs) (n : Nat) : Mine k e (w.drewN n) B v xs := h
theorem Mine.drew (h : Mine k e w B v xs) : Mine k e w.drew B v xs := h
end
theorem push_cell (w : World) (x : Value) (e : TypeId) : ∀ j u, [x][j]? = some u → (w.alloc (.cells #[x] e)).cell? ((⟨w.heap.size, 0, none⟩ : Addr).add j) = some u := by
  intro j u hj
  match j, hj with
  | 0, hj => simp at hj; subst hj; simp [Addr.add]
theorem push_here (w : World) (x : Value) (e : TypeId) : ((w.alloc (.cells #[x] e)).drew).cell? ⟨w.heap.size, 0, none⟩ = some x := push_cell w x e 0 x rfl
theorem pushed {k : IntKind} {e : TypeId} {W0 wr w1 : World} {B : Nat} {v v' : Value} {xs : List Int} {y : Int} (hown : Mine k e wr B v xs) (hbl : Below B W0 wr) (hB : B ≤ wr.heap.size)
    (h : w1.ownsRow B e 1 v' (xs.length + 1) (xs.map (Value.int k) ++ [.int k y])) (hg : (wr.alloc (.cells #[.int k y] e)).grownBy w1 v.ownBlock) : Mine k e w1 B v' (xs ++ [y]) ∧ Below B W0 w1 :=
  ⟨by unfold Mine; simpa using h, (hbl.alloc hB _).grown hg (by simp; omega) fun j hj => (World.ownsRow.lt hown j hj).1⟩

/-- append of one element to a slice of the call's own -/
theorem wpList_push {P : Program} {ops : Array Oper} {rest : List Oper} {o : Oper} {a : Act} {Q : Exit → Act → World → Prop} {k : IntKind} {e : TypeId} {bytes : Nat} (hgd : o.guard = none) (s x : Operand) (t : TypeId)
    (ho : o.op = .call { callee := .builtin .append, args := #[s, x], argTypes := #[t, t] })
    (ht : P.underlying t = some (.slice e)) (hi : (P.info? e).map (fun i => (i.zero, i.size, i.bytes)) = some (some (.int k 0), 1, bytes)) (hby : bytes ≤ 64)
    (B : Nat) (v : Value) (xs : List Int) (y : Int) (W0 wr : World) (hown : Mine k e wr B v xs) (hs : a.eval s = v) (hx : a.eval x = .slice (some ⟨wr.heap.size, 0, none⟩) 1 1)
    (hbl : Below B W0 wr) (hB : B ≤ wr.heap.size) (hn : xs.length ≤ 1000000000)
    (h : ∀ v' w', Mine k e w' B v' (xs ++ [y]) → Below B W0 w' → wpList P ops Q rest (a.put o.dst v') w') : wpList P ops Q (o :: rest) a (wr.alloc (.cells #[.int k y] e)) := by
  obtain ⟨i0, hi', hz0, hz1, hz2⟩ := info_parts hi
  have hb : (xs.length + 1) * bytes ≤ 140737488355328 := by
    have : (xs.length + 1) * bytes ≤ 1000000001 * 64 := Nat.mul_le_mul (by omega) hby
    omega
  have hown' : (wr.alloc (.cells #[.int k y] e)).ownsRow B e 1 v xs.length (xs.map (Value.int k)) := World.ownsRow.alloc hown _
  refine wpList_append_own (P := P) _ hgd s x t ho B e i0 (.int k 0) 1 bytes ht hi' hz0 hz1 hz2 rfl (by decide) v xs.length _ hs hown' ⟨wr.heap.size, 0, none⟩ 1 1 [.int k y] hx rfl (push_cell _ _ _) (by intro u hu; simp at hu; subst hu; rfl)
    (by unfold maxLen; omega) hb (by simp; omega) fun v' w1 h1 hg _ => ?_
  obtain ⟨m1, m2⟩ := pushed hown hbl hB h1 hg
  exact h v' w1 m1 m2

/-- the same at a step of a region that draws its order: the new element lies in a block of its own -/
theorem step_push {P : Program} {ops : Array Oper} {o : Oper} {a : Act} {w : World} {K : Act → World → Prop} {Q : Exit → Act → World → Prop} {E : Prop} {k : IntKind} {e : TypeId} {bytes : Nat} (hgd : o.guard = none) (s x : Operand) (t : TypeId)
    (ho : o.op = .call { callee := .builtin .append, args := #[s, x], argTypes := #[t, t] })
    (ht : P.underlying t = some (.slice e)) (hi : (P.info? e).map (fun i => (i.zero, i.size, i.bytes)) = some (some (.int k 0), 1, bytes)) (hby : bytes ≤ 64)
    (B : Nat) (v : Value) (xs : List Int) (y : Int) (W0 : World) (b : Nat) (hown : Mine k e w B v xs) (hs : a.eval s = v) (hx : a.eval x = .slice (some ⟨b, 0, none⟩) 1 1) (hy : w.cell? ⟨b, 0, none⟩ = some (.int k y))
    (hbl : Below B W0 w) (hB : B ≤ w.heap.size) (hn : xs.length ≤ 1000000000)
    (h : ∀ v' w', Mine k e w' B v' (xs ++ [y]) → Below B W0 w' → K (a.put o.dst v') w') : if Region.wanted o (yielded ops a.tmps) = true then Oper.wp P o a w K Q else E := by
  obtain ⟨i0, hi', hz0, hz1, hz2⟩ := info_parts hi
  have hb : (xs.length + 1) * bytes ≤ 140737488355328 := by
    have : (xs.length + 1) * bytes ≤ 1000000001 * 64 := Nat.mul_le_mul (by omega) hby
    omega
  refine step_append_lies (P := P) w hgd s x t ho B e i0 (.int k 0) 1 bytes ht hi' hz0 hz1 hz2 rfl (by decide) v xs.length _ hs hown ⟨b, 0, none⟩ 1 1 [.int k y] hx rfl ?_ (by intro u hu; simp at hu; subst hu; rfl)
    (by omega) (by unfold maxLen; omega) hb hB w.heap.size rfl fun g cap w1 h1 hg _ _ => ?_
  · intro j u hj
    match j, hj with
    | 0, hj => simp at hj; subst hj; simpa [Addr.add] using hy
  · exact h _ w1 (by unfold Mine; simpa using h1) (hbl.grown hg hB fun j hj => (World.ownsRow.lt hown j hj).1)
end Go.Proofs.Ytllmafbpjmclbaa
