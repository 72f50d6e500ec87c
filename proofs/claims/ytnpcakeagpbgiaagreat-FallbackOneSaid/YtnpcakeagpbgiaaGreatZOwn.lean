/-
  Slices of integers of the call's own: that they stay where their block stays, cutting them short, storing into them, reading them; of the blocks that were there only one has turned. No condition.
-/
import Derived.Test.YtnpcakeagpbgiaaGreatAza
import Derived.Test.YtnpcakeagpbgiaaGreatBase
set_option linter.unusedVariables false
set_option linter.unusedSimpArgs false
namespace Go.Proofs.YtnpcakeagpbgiaaGreat
open Go.ChangeShapes Go.WideShapes Go.ChangeAt Go.RowKit

section
variable {k : IntKind} {e : TypeId} {w w' : World} {B : Nat} {v : Value} {xs : List Int} {g n c : Nat}
theorem Mine.stays (h : Mine k e w B v xs) (hk : ∀ b, v.ownBlock = some b → b < w.heap.size → w'.heap[b]? = w.heap[b]?) : Mine k e w' B v xs := by
  refine ⟨h.1, ?_⟩
  rcases h.2 with ⟨a, b⟩ | ⟨g, cap, cur, a, b, hg, r⟩
  · exact .inl ⟨a, b⟩
  · exact .inr ⟨g, cap, cur, a, b, by rw [hk g (by rw [a]; rfl) (Array.getElem?_eq_some_iff.1 hg).1]; exact hg, r⟩
theorem Mine.up (h : Mine k e w B v xs) (hu : Up w w') : Mine k e w' B v xs := h.stays (fun b _ hb => hu.1.block b hb)
theorem Mine.own_lt (h : Mine k e w B v xs) (b : Nat) (hb : v.ownBlock = some b) : B ≤ b ∧ b < w.heap.size := World.ownsRow.lt h b hb
/-- cut to its first elements -/
theorem Mine.cut {q : Nat} (h : Mine k e w B (.slice (some ⟨g, 0, none⟩) n c) xs) (hq : q ≤ xs.length) : Mine k e w B (.slice (some ⟨g, 0, none⟩) q c) (xs.take q) := by
  have hl : (xs.take q).length = q := by rw [List.length_take]; omega
  refine ⟨by simp, ?_⟩
  rcases h.2 with ⟨a, b⟩ | ⟨g', cap, cur, a, b, hg, hc, hm, hs, ht⟩
  · cases a
  · injection a with a1 a2 a3
    injection a1 with a1
    injection a1 with a1
    subst a1; subst a3
    refine .inr ⟨g, c, cur, by rw [hl], b, hg, by omega, hm, hs, ?_⟩
    rw [hl, List.map_take, ← ht, List.take_take]
    congr 1
    omega
theorem Mine.set (h : Mine k e w B (.slice (some ⟨g, 0, none⟩) n c) xs) (i : Nat) (hi : i < xs.length) (y : Int) :
    Mine k e (w.setCell ⟨g, i, none⟩ (.int k y)) B (.slice (some ⟨g, 0, none⟩) n c) (xs.set i y) := by
  refine ⟨by simp, ?_⟩
  rcases h.2 with ⟨a, b⟩ | ⟨g', cap, cur, a, b, hg, hc, hm, hs, ht⟩
  · cases a
  · injection a with a1 a2 a3
    injection a1 with a1
    injection a1 with a1
    subst a1; subst a2; subst a3
    rw [List.length_set]
    refine .inr ⟨g, c, cur.setIfInBounds i (.int k y), rfl, b, ?_, hc, hm, by simp [hs], ?_⟩
    · have hlt := (Array.getElem?_eq_some_iff.1 hg).1
      have h' : w.heap[g] = .cells cur e (0, 0) := by simpa [Array.getElem?_eq_getElem hlt] using hg
      show (w.heap.modify g _)[g]? = _
      rw [Array.getElem?_eq_getElem (by simpa using hlt), Array.getElem_modify_self, h']
      rfl
    · rw [Array.toList_setIfInBounds, List.take_set, ht, List.map_set]
theorem Mine.free (h : Mine k e w B (.slice (some ⟨g, 0, none⟩) n c) xs) (j : Nat) : w.frozen? ⟨g, j, none⟩ = false := by
  rcases h.2 with ⟨hx, _⟩ | ⟨g', cap, cur, hx, _, hg, _⟩
  · cases hx
  · injection hx with hx1 hx2 hx3
    injection hx1 with hx1
    injection hx1 with hx1
    subst hx1
    simp [World.frozen?, hg]
theorem Mine.cellAt (h : Mine k e w B (.slice (some ⟨g, 0, none⟩) n c) xs) (j : Nat) (hj : j < xs.length) : w.cell? ⟨g, j, none⟩ = some (.int k xs[j]) := by
  obtain ⟨g', c', hv, _, _, hcell⟩ := h.form (by intro h0; rw [h0] at hj; simp at hj)
  injection hv with hv1 hv2 hv3
  injection hv1 with hv1
  injection hv1 with hv1
  subst hv1
  exact hcell j _ (List.getElem?_eq_getElem hj)
/-- its length and room -/
theorem Mine.size (h : Mine k e w B v xs) : ∃ A c, v = .slice A xs.length c ∧ xs.length ≤ c ∧ Fresh B A ∧ Has w w.heap.size A (xs.map (Value.int k)) := by
  obtain ⟨A, c, hv, hh⟩ := h.reads
  refine ⟨A, c, hv, ?_, ?_, hh⟩ <;> rcases h.2 with ⟨a, b⟩ | ⟨g, cap, cur, a, b, hg, hc, r⟩
  · rw [a] at hv; injection hv with h1 h2 h3; omega
  · rw [a] at hv; injection hv with h1 h2 h3; omega
  · rw [a] at hv; injection hv with h1 h2 h3; subst h1; exact fun x hx => by cases hx
  · rw [a] at hv; injection hv with h1 h2 h3; subst h1; exact fun x hx => by injection hx with hx; subst hx; exact b
theorem Mine.formB (h : Mine k e w B v xs) (hne : 0 < xs.length) : ∃ g c, v = .slice (some ⟨g, 0, none⟩) xs.length c ∧ xs.length ≤ c ∧ B ≤ g ∧ g < w.heap.size := by
  obtain ⟨g, c, hv, h1, h2, _⟩ := h.form (by intro e; rw [e] at hne; simp at hne)
  obtain ⟨A, c', hv', hc, _, _⟩ := h.size
  rw [hv] at hv'
  injection hv' with a1 a2 a3
  exact ⟨g, c, hv, by omega, h1, h2⟩
end
/-- of the blocks that were there only g has turned -/
def Keeps (g : Nat) (w w' : World) : Prop := w.heap.size ≤ w'.heap.size ∧ ∀ b, b < w.heap.size → b ≠ g → w'.heap[b]? = w.heap[b]?
theorem Keeps.refl (g : Nat) (w : World) : Keeps g w w := ⟨Nat.le_refl _, fun _ _ _ => rfl⟩
theorem Keeps.trans {g : Nat} {a b c : World} (h : Keeps g a b) (k : Keeps g b c) : Keeps g a c := ⟨Nat.le_trans h.1 k.1, fun x hx hne => (k.2 x (Nat.lt_of_lt_of_le hx h.1) hne).trans (h.2 x hx hne)⟩
theorem Keeps.of_up {g : Nat} {a b : World} (h : Up a b) : Keeps g a b := ⟨h.1.size, fun x hx _ => h.1.block x hx⟩
theorem Keeps.setCell (w : World) (g j : Nat) (v : Value) : Keeps g w (w.setCell ⟨g, j, none⟩ v) := ⟨by simp, fun x hx hne => Below.heap_setCell _ _ _ _ hne⟩
/-- two slices lie apart -/
def Apart (v u : Value) : Prop := ∀ b, v.ownBlock = some b → u.ownBlock ≠ some b
theorem Apart.symm {v u : Value} (h : Apart v u) : Apart u v := fun b hb e => h b e hb
theorem apart_nil (u : Value) : Apart (.slice none 0 0) u := fun b hb => by cases hb
theorem fullI : (Tryz.prog.info? 3).map (fun i => (i.zero, i.size, i.bytes)) = some (some (.int .i64 0), 1, 8) := by kernel_rfl
/-- a slice from a place on reads as what is left -/
theorem Has.drop {w : World} {B b off : Nat} {xs : List Value} (h : Has w B (some ⟨b, off, none⟩) xs) (k : Nat) : Has w B (some ⟨b, off + k, none⟩) (xs.drop k) := fun hne => by
  obtain ⟨b', off', e, hl, hc⟩ := h (fun e => hne (by rw [e]; simp))
  injection e with e; injection e with e1 e2; subst e1; subst e2
  refine ⟨b, off + k, rfl, hl, fun j u hu => ?_⟩
  rw [List.getElem?_drop] at hu
  have := hc (k + j) u hu
  rwa [show off + (k + j) = off + k + j by omega] at this
theorem Has.front {w : World} {B : Nat} {A : Option Addr} {xs : List Value} (h : Has w B A xs) (k : Nat) : Has w B A (xs.take k) := fun hne => by
  obtain ⟨b, off, e, hl, hc⟩ := h (fun e => hne (by rw [e]; simp))
  refine ⟨b, off, e, hl, fun j u hu => hc j u ?_⟩
  rw [List.getElem?_take] at hu
  split at hu
  · exact hu
  · cases hu
/-- a slice without an address has no room -/
theorem none_cap {H : Type} {enc : TypeId × Value → H} {W : World} {t e : TypeId} {k : IntKind} {A : Option Addr} {n c : Nat} {d : DataW H} {p : List MemPlace}
    (ht : Tryz.prog.underlying t = some (.slice e)) (he : Tryz.prog.underlying e = some (.int k)) (hc : Tryz.prog.cellsOf e = 1)
    (h : DataW.Trod enc Tryz.prog W 0 (fun _ => true) true t (.slice A n c) d p) : A = none → c = 0 := by
  intro hA
  obtain ⟨fuel, hf⟩ := h
  rcases open_ints ht he hc hf with ⟨hcs, hx⟩ | ⟨a, len', cap', zs, hcs, _, hl, hm, hz, hx, hcell, hwz⟩
  · simp [Value.cells] at hcs
    exact hcs.2.2
  · simp [Value.cells] at hcs
    rw [hA] at hcs
    cases hcs.1
end Go.Proofs.YtnpcakeagpbgiaaGreat
