/-
  Slices that read as lists: 'Has w B A xs' says that the slice headed at A holds the values xs, in a block below B. Opening of an argument that is a slice of integers. No condition.
-/
import Derived.Test.YtnpcakeagpbgiaaGreatRows
import Derived.WalkKit
import Derived.ProofKit
import Derived.OpenShut
import Derived.SizedLaws
import Derived.Deep.Draws
import Derived.Laws.OwnMore
import Derived.Lib.Hide
import Derived.Laws.AppendOwn
import Derived.OwnWalk
import Derived.Deep.AppendLies
set_option linter.unusedVariables false
namespace Go.Proofs.YtnpcakeagpbgiaaGreat
open Go.ChangeShapes Go.WideShapes Go.ChangeAt Go.RowKit

def Has (w : World) (B : Nat) (A : Option Addr) (xs : List Value) : Prop :=
  xs ≠ [] → ∃ b off, A = some ⟨b, off, none⟩ ∧ b < B ∧ ∀ j u, xs[j]? = some u → w.cell? ⟨b, off + j, none⟩ = some u

section
variable {w w' : World} {B B' : Nat} {A : Option Addr} {xs : List Value}
theorem Has.nil_ : Has w B A [] := fun h => absurd rfl h
theorem Has.at_ (h : Has w B A xs) {k : Nat} (hk : k < xs.length) : ∃ b off, A = some ⟨b, off, none⟩ ∧ b < B ∧ w.cell? ⟨b, off + k, none⟩ = some xs[k] := by
  obtain ⟨b, off, e, hb, hc⟩ := h (fun e => by subst e; simp at hk)
  exact ⟨b, off, e, hb, hc k _ (List.getElem?_eq_getElem hk)⟩
theorem Has.below (h : Has w B A xs) (hb : Below B w w') : Has w' B A xs := fun hne => by
  obtain ⟨b, off, e, hl, hc⟩ := h hne
  exact ⟨b, off, e, hl, fun j u hu => (hb.cell (p := ⟨b, off + j, none⟩) hl).trans (hc j u hu)⟩
theorem Has.more (h : Has w B A xs) (hB : B ≤ B') : Has w B' A xs := fun hne => by
  obtain ⟨b, off, e, hl, hc⟩ := h hne
  exact ⟨b, off, e, by omega, hc⟩
theorem Has.carry (h : Has w w.heap.size A xs) (hb : Below w.heap.size w w') : Has w' w'.heap.size A xs := (h.below hb).more hb.size
theorem Has.own {base : Nat} {e : TypeId} {n c : Nat} (h : w.ownsRow base e 1 (.slice A n c) n xs) : Has w w.heap.size A xs := fun hne => by
  have hn : 0 < n := by
    have := h.1
    rcases Nat.eq_zero_or_pos n with h0 | h0
    · subst h0; exact absurd (List.eq_nil_of_length_eq_zero (by omega)) hne
    · exact h0
  rcases h.2 with ⟨_, h0⟩ | ⟨g, cap, cur, hv, _⟩
  · omega
  have hA : A = some ⟨g, 0, none⟩ := by injection hv
  subst hA
  refine ⟨g, 0, rfl, (World.ownsRow.lt h g rfl).2, fun j u hu => ?_⟩
  have hc := World.ownsRow.cells h (g := g) rfl j u hu
  rwa [add_plain] at hc
end
theorem Has.at_int {w : World} {B : Nat} {A : Option Addr} {q : IntKind} {zs : List Int} (h : Has w B A (zs.map (Value.int q))) {k : Nat} (hk : k < zs.length) :
    ∃ b off, A = some ⟨b, off, none⟩ ∧ b < B ∧ w.cell? ⟨b, off + k, none⟩ = some (.int q zs[k]) := by
  obtain ⟨b, off, e, hb, hc⟩ := h.at_ (k := k) (by simpa using hk)
  exact ⟨b, off, e, hb, by simpa using hc⟩
theorem below_trans {B : Nat} {a b c : World} (h : Below B a b) (k : Below b.heap.size b c) (hB : B ≤ b.heap.size) : Below B a c := h.trans (k.mono hB)
theorem below_drewN {B : Nat} {a w : World} (h : Below B a w) (n : Nat) : Below B a (w.drewN n) := ⟨h.os, h.tape, h.output, h.size, h.block⟩

/-- an argument that is a slice of integers, opened -/
theorem has_ints {H : Type} {enc : TypeId × Value → H} {W : World} {t e : TypeId} {k : IntKind} {A : Option Addr} {n c : Nat} {d : DataW H} {p : List MemPlace}
    (ht : Tryz.prog.underlying t = some (.slice e)) (he : Tryz.prog.underlying e = some (.int k)) (hc : Tryz.prog.cellsOf e = 1)
    (h : DataW.Trod enc Tryz.prog W 0 (fun _ => true) true t (.slice A n c) d p) (hlt : ∀ x ∈ p, x.block < W.heap.size) :
    ∃ zs : List Int, n = zs.length ∧ n ≤ 9223372036854775807 ∧ n ≤ c ∧ (∀ z ∈ zs, (Lit.int k z).wf = true) ∧ Has W W.heap.size A (zs.map (Value.int k)) := by
  obtain ⟨fuel, hf⟩ := h
  rcases open_ints ht he hc hf with ⟨hcs, hx⟩ | ⟨a, len', cap', zs, hcs, _, hl, hm, hz, hx, hcell, hwz⟩
  · simp [Value.cells] at hcs
    obtain ⟨rfl, rfl, rfl⟩ := hcs
    exact ⟨[], rfl, by omega, by omega, by simp, Has.nil_⟩
  · simp [Value.cells] at hcs
    obtain ⟨rfl, rfl, rfl⟩ := hcs
    simp only [Prod.mk.injEq] at hx
    obtain ⟨rfl, rfl⟩ := hx
    simp only [if_true] at hz
    unfold maxLen at hm
    refine ⟨zs.take n, by rw [List.length_take]; omega, by omega, by omega, fun z hz' => hwz z (List.mem_of_mem_take hz'), fun hne => ?_⟩
    have hn : 0 < n := by
      rcases Nat.eq_zero_or_pos n with h0 | h0
      · subst h0; simp at hne
      · exact h0
    obtain ⟨b, off, spot⟩ := a
    have hspot : spot = none := by simpa [Addr.add] using World.cell?_spot (hcell 0 (by omega))
    subst hspot
    refine ⟨b, off, rfl, hlt (.cell b off) (MemPlace.mem_row.2 ⟨0, by omega, by simp⟩), fun j u hu => ?_⟩
    rw [List.getElem?_map, Option.map_eq_some_iff] at hu
    obtain ⟨z, hz1, rfl⟩ := hu
    rw [List.getElem?_take] at hz1
    split at hz1
    · have hj : j < zs.length := by omega
      have := hcell j hj
      rw [add_plain] at this
      rw [this]
      simp [List.getD, hz1]
    · cases hz1
end Go.Proofs.YtnpcakeagpbgiaaGreat

/-
  Slices of integers that a call makes for itself: 'Mine k e w B v xs' says that v is a slice of element type e, in a block from B on, that holds the integers xs and may be grown in place. Appending one element; reading one. No condition.
-/
set_option linter.unusedVariables false
namespace Go.Proofs.YtnpcakeagpbgiaaGreat
open Go.ChangeShapes Go.WideShapes Go.ChangeAt Go.RowKit

def Mine (k : IntKind) (e : TypeId) (w : World) (B : Nat) (v : Value) (xs : List Int) : Prop := w.ownsRow B e 1 v xs.length (xs.map (Value.int k))
section
variable {k : IntKind} {e : TypeId} {w : World} {B : Nat} {v : Value} {xs : List Int}
theorem Mine.nil_ (k : IntKind) (e : TypeId) (w : World) (B : Nat) : Mine k e w B (.slice none 0 0) [] := World.ownsRow_nil _ _ _ _
theorem Mine.one (k : IntKind) (e : TypeId) (w : World) (B : Nat) (x : Int) (hB : B ≤ w.heap.size) : Mine k e (w.alloc (.cells #[.int k x] e)) B (.slice (some ⟨w.heap.size, 0, none⟩) 1 1) [x] :=
  ⟨by simp, .inr ⟨w.heap.size, 1, #[.int k x], rfl, hB, heap_alloc_new w _, Nat.le_refl _, by unfold maxLen; simp, by simp, by simp⟩⟩
theorem Mine.form (h : Mine k e w B v xs) (hne : xs ≠ []) :
    ∃ g c, v = .slice (some ⟨g, 0, none⟩) xs.length c ∧ B ≤ g ∧ g < w.heap.size ∧ ∀ j u, xs[j]? = some u → w.cell? ⟨g, j, none⟩ = some (.int k u) := by
  have h' := h
  unfold Mine at h'
  have hlen : 0 < xs.length := by cases xs with | nil => exact absurd rfl hne | cons a l => simp
  rcases h'.2 with ⟨_, h0⟩ | ⟨g, cap, cur, hv, _⟩
  · omega
  · subst hv
    obtain ⟨h1, h2⟩ := World.ownsRow.lt h' g rfl
    refine ⟨g, cap, rfl, h1, h2, fun j u hu => ?_⟩
    have hc := World.ownsRow.cells h' (g := g) rfl j (.int k u) (by rw [List.getElem?_map, hu]; rfl)
    rwa [add_plain, Nat.zero_add] at hc
theorem Mine.low {B' : Nat} (h : Mine k e w B v xs) (hB : B' ≤ B) : Mine k e w B' v xs := by
  refine ⟨h.1, ?_⟩
  rcases h.2 with ⟨a, b⟩ | ⟨g, cap, cur, a, b, r⟩
  · exact .inl ⟨a, b⟩
  · exact .inr ⟨g, cap, cur, a, Nat.le_trans hB b, r⟩
theorem Mine.last {y : Int} {n : Nat} (h : Mine k e w B v (xs ++ [y])) (hl : xs.length = n) :
    ∃ g c, v = .slice (some ⟨g, 0, none⟩) (n + 1) c ∧ w.cell? ⟨g, n, none⟩ = some (.int k y) ∧ B ≤ g ∧ g < w.heap.size := by
  obtain ⟨g, c, hv, h1, h2, hc⟩ := h.form (by simp)
  refine ⟨g, c, by rw [hv]; simp [hl], hc n y (by rw [← hl]; simp), h1, h2⟩
/-- its value is a slice; it reads as a list -/
theorem Mine.reads (h : Mine k e w B v xs) : ∃ A c, v = .slice A xs.length c ∧ Has w w.heap.size A (xs.map (Value.int k)) := by
  have h' := h
  unfold Mine at h'
  rcases h'.2 with ⟨rfl, h0⟩ | ⟨g, cap, cur, rfl, _⟩
  · rw [h0]; exact ⟨none, 0, rfl, by rw [List.eq_nil_of_length_eq_zero h0]; exact Has.nil_⟩
  · exact ⟨_, cap, rfl, Has.own h'⟩
theorem Mine.alloc (h : Mine k e w B v xs) (o : Obj) : Mine k e (w.alloc o) B v xs := World.ownsRow.alloc h o
theorem Mine.drewN (h : Mine k e w B v xs) (n : Nat) : Mine k e (w.drewN n) B v xs := h
theorem Mine.drew (h : Mine k e w B v xs) : Mine k e w.drew B v xs := h
end
theorem push_cell (w : World) (x : Value) (e : TypeId) : ∀ j u, [x][j]? = some u → (w.alloc (.cells #[x] e)).cell? ((⟨w.heap.size, 0, none⟩ : Addr).add j) = some u := by
  intro j u hj
  match j, hj with
  | 0, hj => simp at hj; subst hj; simp [Addr.add]
theorem push_here (w : World) (x : Value) (e : TypeId) : ((w.alloc (.cells #[x] e)).drew).cell? ⟨w.heap.size, 0, none⟩ = some x := push_cell w x e 0 x rfl
theorem pushed {k : IntKind} {e : TypeId} {W0 wr w1 : World} {B : Nat} {v v' : Value} {xs : List Int} {y : Int} (hown : Mine k e wr B v xs) (hbl : Below B W0 wr) (hB : B ≤ wr.heap.size)
    (h : w1.ownsRow B e 1 v' (xs.length + 1) (xs.map (Value.int k) ++ [.int k y])) (hg : (wr.alloc (.cells #[.int k y] e)).grownBy w1 v.ownBlock) : Mine k e w1 B v' (xs ++ [y]) ∧ Below B W0 w1 :=
  ⟨by unfold Mine; simpa using h, (hbl.alloc hB _).grown hg (by simp; omega) fun j hj => (World.ownsRow.lt hown j hj).1⟩

/-- append of one element to a slice of the call's own -/
theorem wpList_push {P : Program} {ops : Array Oper} {rest : List Oper} {o : Oper} {a : Act} {Q : Exit → Act → World → Prop} {k : IntKind} {e : TypeId} {bytes : Nat} (hgd : o.guard = none) (s x : Operand) (t : TypeId)
    (ho : o.op = .call { callee := .builtin .append, args := #[s, x], argTypes := #[t, t] })
    (ht : P.underlying t = some (.slice e)) (hi : (P.info? e).map (fun i => (i.zero, i.size, i.bytes)) = some (some (.int k 0), 1, bytes)) (hby : bytes ≤ 64)
    (B : Nat) (v : Value) (xs : List Int) (y : Int) (W0 wr : World) (hown : Mine k e wr B v xs) (hs : a.eval s = v) (hx : a.eval x = .slice (some ⟨wr.heap.size, 0, none⟩) 1 1)
    (hbl : Below B W0 wr) (hB : B ≤ wr.heap.size) (hn : xs.length ≤ 1000000000)
    (h : ∀ v' w', Mine k e w' B v' (xs ++ [y]) → Below B W0 w' → wpList P ops Q rest (a.put o.dst v') w') : wpList P ops Q (o :: rest) a (wr.alloc (.cells #[.int k y] e)) := by
  obtain ⟨i0, hi', hz0, hz1, hz2⟩ := info_parts hi
  have hb : (xs.length + 1) * bytes ≤ 140737488355328 := by
    have : (xs.length + 1) * bytes ≤ 1000000001 * 64 := Nat.mul_le_mul (by omega) hby
    omega
  have hown' : (wr.alloc (.cells #[.int k y] e)).ownsRow B e 1 v xs.length (xs.map (Value.int k)) := World.ownsRow.alloc hown _
  refine wpList_append_own (P := P) _ hgd s x t ho B e i0 (.int k 0) 1 bytes ht hi' hz0 hz1 hz2 rfl (by decide) v xs.length _ hs hown' ⟨wr.heap.size, 0, none⟩ 1 1 [.int k y] hx rfl (push_cell _ _ _) (by intro u hu; simp at hu; subst hu; rfl)
    (by unfold maxLen; omega) hb (by simp; omega) fun v' w1 h1 hg _ => ?_
  obtain ⟨m1, m2⟩ := pushed hown hbl hB h1 hg
  exact h v' w1 m1 m2

/-- the same at a step of a region that draws its order: the new element lies in a block of its own -/
theorem step_push {P : Program} {ops : Array Oper} {o : Oper} {a : Act} {w : World} {K : Act → World → Prop} {Q : Exit → Act → World → Prop} {E : Prop} {k : IntKind} {e : TypeId} {bytes : Nat} (hgd : o.guard = none) (s x : Operand) (t : TypeId)
    (ho : o.op = .call { callee := .builtin .append, args := #[s, x], argTypes := #[t, t] })
    (ht : P.underlying t = some (.slice e)) (hi : (P.info? e).map (fun i => (i.zero, i.size, i.bytes)) = some (some (.int k 0), 1, bytes)) (hby : bytes ≤ 64)
    (B : Nat) (v : Value) (xs : List Int) (y : Int) (W0 : World) (b : Nat) (hown : Mine k e w B v xs) (hs : a.eval s = v) (hx : a.eval x = .slice (some ⟨b, 0, none⟩) 1 1) (hy : w.cell? ⟨b, 0, none⟩ = some (.int k y))
    (hbl : Below B W0 w) (hB : B ≤ w.heap.size) (hn : xs.length ≤ 1000000000)
    (h : ∀ v' w', Mine k e w' B v' (xs ++ [y]) → Below B W0 w' → K (a.put o.dst v') w') : if Region.wanted o (yielded ops a.tmps) = true then Oper.wp P o a w K Q else E := by
  obtain ⟨i0, hi', hz0, hz1, hz2⟩ := info_parts hi
  have hb : (xs.length + 1) * bytes ≤ 140737488355328 := by
    have : (xs.length + 1) * bytes ≤ 1000000001 * 64 := Nat.mul_le_mul (by omega) hby
    omega
  refine step_append_lies (P := P) w hgd s x t ho B e i0 (.int k 0) 1 bytes ht hi' hz0 hz1 hz2 rfl (by decide) v xs.length _ hs hown ⟨b, 0, none⟩ 1 1 [.int k y] hx rfl ?_ (by intro u hu; simp at hu; subst hu; rfl)
    (by omega) (by unfold maxLen; omega) hb hB w.heap.size rfl fun g cap w1 h1 hg _ _ => ?_
  · intro j u hj
    match j, hj with
    | 0, hj => simp at hj; subst hj; simpa [Addr.add] using hy
  · exact h _ w1 (by unfold Mine; simpa using h1) (hbl.grown hg hB fun j hj => (World.ownsRow.lt hown j hj).1)
end Go.Proofs.YtnpcakeagpbgiaaGreat

/-
  What a call hands back: a slice that reads as a list, alone or beside numbers. Appending several elements. No condition.
-/
set_option linter.unusedVariables false
namespace Go.Proofs.YtnpcakeagpbgiaaGreat
open Go.ChangeShapes Go.WideShapes Go.ChangeAt Go.RowKit

/-- no older block -/
def Fresh (B : Nat) (A : Option Addr) : Prop := ∀ a, A = some a → B ≤ a.block
def SliceV (q : IntKind) (w w' : World) (v : Value) (xs : List Int) : Prop :=
  ∃ A c, v = .slice A xs.length c ∧ (xs.length ≤ c ∧ Fresh w.heap.size A) ∧ Has w' w'.heap.size A (xs.map (Value.int q)) ∧ Below w.heap.size w w'
def SliceOf (q : IntKind) (w w' : World) (e : Ending) (xs : List Int) : Prop := ∃ v, e = .returned v ∧ SliceV q w w' v xs
def PairOf (q : IntKind) (w w' : World) (e : Ending) (xs : List Int) (code : Int) : Prop := ∃ v, e = .returned (.tuple #[v, .int .i64 code]) ∧ SliceV q w w' v xs
def TripleOf (q : IntKind) (w w' : World) (e : Ending) (x : List Int × Nat × Int) : Prop := ∃ v, e = .returned (.tuple #[v, .int .i64 x.2.1, .int .i64 x.2.2]) ∧ SliceV q w w' v x.1

theorem has_lit (w : World) (q : IntKind) (e : TypeId) (xs : List Int) : Has (w.alloc (.cells (xs.map (Value.int q)).toArray e)) (w.alloc (.cells (xs.map (Value.int q)).toArray e)).heap.size (some ⟨w.heap.size, 0, none⟩) (xs.map (Value.int q)) := fun _ => by
  refine ⟨w.heap.size, 0, rfl, by simp, fun j u hu => ?_⟩
  simp only [Nat.zero_add]
  simp at hu ⊢
  exact hu
theorem sliceV_lit (w : World) (q : IntKind) (e : TypeId) (xs : List Int) (cs : Array Value) (hcs : cs = (xs.map (Value.int q)).toArray) (n : Nat) (hn : n = xs.length) :
    SliceV q w (w.alloc (.cells cs e)) (.slice (some ⟨w.heap.size, 0, none⟩) n n) xs := by
  subst hcs; subst hn
  exact ⟨_, _, rfl, ⟨Nat.le_refl _, fun a ha => by injection ha with ha; subst ha; exact Nat.le_refl _⟩, has_lit w q e xs, (Below.refl _ _).alloc (Nat.le_refl _) _⟩
theorem sliceV_nil (q : IntKind) (w w' : World) (h : Below w.heap.size w w') : SliceV q w w' (.slice none 0 0) [] := ⟨none, 0, rfl, ⟨by simp, fun a ha => by cases ha⟩, Has.nil_, h⟩
theorem Mine.sliceV {q : IntKind} {e : TypeId} {w w' : World} {v : Value} {xs : List Int} (h : Mine q e w' w.heap.size v xs) (hb : Below w.heap.size w w') : SliceV q w w' v xs := by
  obtain ⟨A, c, hv, hh⟩ := h.reads
  unfold Mine at h
  rcases h.2 with ⟨hn, h0⟩ | ⟨g, cap, cur, hg, hB, _, hc, _⟩
  · refine ⟨A, c, hv, ⟨by omega, fun a ha => ?_⟩, hh, hb⟩
    rw [hn, ha] at hv
    cases hv
  · rw [hg] at hv
    injection hv with h1 h2 h3
    refine ⟨A, c, by rw [hg, h1, h3], ⟨by omega, fun a ha => ?_⟩, hh, hb⟩
    rw [← h1] at ha
    injection ha with ha
    rw [← ha]
    exact hB
theorem SliceV.trans {q : IntKind} {w w1 w2 : World} {v : Value} {xs : List Int} (h : SliceV q w1 w2 v xs) (hb : Below w.heap.size w w1) : SliceV q w w2 v xs := by
  obtain ⟨A, c, h1, h2, h3, h4⟩ := h
  exact ⟨A, c, h1, ⟨h2.1, fun a ha => Nat.le_trans hb.size (h2.2 a ha)⟩, h3, below_trans hb h4 hb.size⟩
theorem Mine.below {q : IntKind} {e : TypeId} {w w' : World} {B : Nat} {v : Value} {xs : List Int} (h : Mine q e w B v xs) (hb : Below w.heap.size w w') : Mine q e w' B v xs := by
  unfold Mine at *
  refine ⟨h.1, ?_⟩
  rcases h.2 with ⟨a, b⟩ | ⟨g, cap, cur, a, b, hg, r⟩
  · exact .inl ⟨a, b⟩
  · have hlt : g < w.heap.size := by
      rcases Nat.lt_or_ge g w.heap.size with h' | h'
      · exact h'
      · rw [Array.getElem?_eq_none h'] at hg; cases hg
    exact .inr ⟨g, cap, cur, a, b, by rw [hb.block g hlt]; exact hg, r⟩

/-- append of one element, and what it leaves as it was -/
theorem wpList_push_far {P : Program} {ops : Array Oper} {rest : List Oper} {o : Oper} {a : Act} {Q : Exit → Act → World → Prop} {k : IntKind} {e : TypeId} {bytes : Nat} (hgd : o.guard = none) (s x : Operand) (t : TypeId)
    (ho : o.op = .call { callee := .builtin .append, args := #[s, x], argTypes := #[t, t] })
    (ht : P.underlying t = some (.slice e)) (hi : (P.info? e).map (fun i => (i.zero, i.size, i.bytes)) = some (some (.int k 0), 1, bytes)) (hby : bytes ≤ 64)
    (B : Nat) (v : Value) (xs : List Int) (y : Int) (wr : World) (hown : Mine k e wr B v xs) (hs : a.eval s = v) (hx : a.eval x = .slice (some ⟨wr.heap.size, 0, none⟩) 1 1)
    (hB : B ≤ wr.heap.size) (hn : xs.length ≤ 1000000000)
    (h : ∀ v' w', Mine k e w' B v' (xs ++ [y]) → Below B wr w' → (∀ b, b < wr.heap.size → v.ownBlock ≠ some b → v'.ownBlock ≠ some b ∧ w'.heap[b]? = wr.heap[b]?) → wpList P ops Q rest (a.put o.dst v') w') : wpList P ops Q (o :: rest) a (wr.alloc (.cells #[.int k y] e)) := by
  obtain ⟨i0, hi', hz0, hz1, hz2⟩ := info_parts hi
  have hb : (xs.length + 1) * bytes ≤ 140737488355328 := by
    have : (xs.length + 1) * bytes ≤ 1000000001 * 64 := Nat.mul_le_mul (by omega) hby
    omega
  have hown' : (wr.alloc (.cells #[.int k y] e)).ownsRow B e 1 v xs.length (xs.map (Value.int k)) := World.ownsRow.alloc hown _
  refine wpList_append_lies (P := P) _ hgd s x t ho B e i0 (.int k 0) 1 bytes ht hi' hz0 hz1 hz2 rfl (by decide) v xs.length _ hs hown' ⟨wr.heap.size, 0, none⟩ 1 1 [.int k y] hx rfl (push_cell _ _ _) (by intro u hu; simp at hu; subst hu; rfl)
    (by omega) (by unfold maxLen; omega) hb (by simp; omega) _ rfl fun g cap w1 h1 hg hl _ => ?_
  obtain ⟨m1, m2⟩ := pushed hown (Below.refl B wr) hB h1 hg
  refine h _ w1 m1 m2 fun b hb' hne => ⟨?_, ?_⟩
  · intro e1
    have e2 : some g = some b := e1
    injection e2 with e2
    subst e2
    rcases hl with hl | hl
    · exact hne hl
    · simp at hl; omega
  · rw [hg.block b (by simp; omega) (fun e1 => hne e1.symm)]
    exact Below.heap_alloc _ _ _ hb'
/-- a slice in a block that stays as it is reads on -/
theorem Has.stays {w w' : World} {A : Option Addr} {xs : List Value} (h : Has w w.heap.size A xs) (hs : w.heap.size ≤ w'.heap.size) (hk : ∀ a, A = some a → a.block < w.heap.size → w'.heap[a.block]? = w.heap[a.block]?) : Has w' w'.heap.size A xs := fun hne => by
  obtain ⟨b, off, e, hl, hc⟩ := h hne
  exact ⟨b, off, e, by omega, fun j u hu => (World.cell?_of_block (a := ⟨b, off + j, none⟩) (hk ⟨b, off, none⟩ e hl)).trans (hc j u hu)⟩

theorem pushs_cell (w : World) (q : IntKind) (ys : List Int) (e : TypeId) : ∀ j u, (ys.map (Value.int q))[j]? = some u → (w.alloc (.cells (ys.map (Value.int q)).toArray e)).cell? ((⟨w.heap.size, 0, none⟩ : Addr).add j) = some u := by
  intro j u hj
  have := has_lit w q e ys
  obtain ⟨b, off, e1, _, hc⟩ := this (by intro h; rw [h] at hj; simp at hj)
  injection e1 with e1; injection e1 with e1 e2; subst e1; subst e2
  rw [add_plain]
  exact hc j u hj
/-- append of two elements to a slice of the call's own -/
theorem wpList_pushs {P : Program} {ops : Array Oper} {rest : List Oper} {o : Oper} {a : Act} {Q : Exit → Act → World → Prop} {k : IntKind} {e : TypeId} {bytes : Nat} (hgd : o.guard = none) (s x : Operand) (t : TypeId)
    (ho : o.op = .call { callee := .builtin .append, args := #[s, x], argTypes := #[t, t] })
    (ht : P.underlying t = some (.slice e)) (hi : (P.info? e).map (fun i => (i.zero, i.size, i.bytes)) = some (some (.int k 0), 1, bytes)) (hby : bytes ≤ 64)
    (B : Nat) (v : Value) (xs : List Int) (ys : List Int) (W0 wr : World) (cs : Array Value) (hcs : cs = (ys.map (Value.int k)).toArray) (hown : Mine k e wr B v xs) (hs : a.eval s = v) (n : Nat) (hys : n = ys.length) (hx : a.eval x = .slice (some ⟨wr.heap.size, 0, none⟩) n n)
    (hbl : Below B W0 wr) (hB : B ≤ wr.heap.size) (hn : xs.length ≤ 1000000000) (hm : ys.length ≤ 1000)
    (h : ∀ v' w', Mine k e w' B v' (xs ++ ys) → Below B W0 w' → wpList P ops Q rest (a.put o.dst v') w') : wpList P ops Q (o :: rest) a (wr.alloc (.cells cs e)) := by
  subst hcs; subst hys
  obtain ⟨i0, hi', hz0, hz1, hz2⟩ := info_parts hi
  have hb : (xs.length + ys.length) * bytes ≤ 140737488355328 := by
    have : (xs.length + ys.length) * bytes ≤ 1000001000 * 64 := Nat.mul_le_mul (by omega) hby
    omega
  have hown' : (wr.alloc (.cells (ys.map (Value.int k)).toArray e)).ownsRow B e 1 v xs.length (xs.map (Value.int k)) := World.ownsRow.alloc hown _
  refine wpList_append_own (P := P) _ hgd s x t ho B e i0 (.int k 0) 1 bytes ht hi' hz0 hz1 hz2 rfl (by decide) v xs.length _ hs hown' ⟨wr.heap.size, 0, none⟩ ys.length ys.length (ys.map (Value.int k)) hx (by simp) (pushs_cell _ _ _ _)
    (by intro u hu; rw [List.mem_map] at hu; obtain ⟨z, _, rfl⟩ := hu; rfl)
    (by unfold maxLen; omega) hb (by simp; omega) fun v' w1 h1 hg _ => ?_
  refine h v' w1 ?_ ((hbl.alloc hB _).grown hg (by simp; omega) fun j hj => (World.ownsRow.lt hown j hj).1)
  unfold Mine
  simpa using h1
end Go.Proofs.YtnpcakeagpbgiaaGreat
