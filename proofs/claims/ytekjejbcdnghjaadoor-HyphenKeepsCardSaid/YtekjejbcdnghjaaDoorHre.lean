/-
  What is contributed so far, pattern by pattern, place by place; a slice of weights that is written into; storing one number as the last operation of a region. No condition.
-/
import Derived.Test.YtekjejbcdnghjaaDoorHrd
import Derived.Test.YtekjejbcdnghjaaDoorLast
set_option linter.unusedVariables false
set_option linter.unusedSimpArgs false
namespace Go.Proofs.YtekjejbcdnghjaaDoor
open Go.ChangeShapes Go.WideShapes Go.ChangeAt Go.RowKit Go.Sort

/-- the patterns ahead of k, and pattern k at the places ahead of a -/
def ContrG (x : List Pat) (t : List Int) (k a : Nat) (j : Nat) (c : Int) : Prop :=
  Contr (x.take k) t j c ∨ ∃ p, x[k]? = some p ∧ ∃ a' i, a' < a ∧ a' < t.length ∧ p.1 <+: t.drop a' ∧ p.2[i]? = some c ∧ j = a' + i
theorem contrG_zero (x : List Pat) (t : List Int) (k j : Nat) (c : Int) : Contr (x.take k) t j c ↔ ContrG x t k 0 j c := by
  constructor
  · exact Or.inl
  · rintro (h | ⟨p, _, a', i, h, _⟩)
    · exact h
    · omega
theorem contrG_skip {x : List Pat} {t : List Int} {k a : Nat} {p : Pat} (hk : x[k]? = some p) (hn : p.1.isPrefixOf (t.drop a) = false) (j : Nat) (c : Int) : ContrG x t k a j c ↔ ContrG x t k (a + 1) j c := by
  constructor
  · rintro (h | ⟨q, hq, a', i, h1, h2⟩)
    · exact Or.inl h
    · exact Or.inr ⟨q, hq, a', i, by omega, h2⟩
  · rintro (h | ⟨q, hq, a', i, h1, h2, h3, h4⟩)
    · exact Or.inl h
    · rcases Nat.lt_or_ge a' a with e | e
      · exact Or.inr ⟨q, hq, a', i, e, h2, h3, h4⟩
      · have : a' = a := by omega
        subst this
        rw [hk] at hq
        injection hq with hq
        subst hq
        rw [← List.isPrefixOf_iff_prefix, hn] at h3
        cases h3
theorem contrG_step {x : List Pat} {t : List Int} {k a : Nat} {p : Pat} (hk : x[k]? = some p) (ha : a < t.length) (hn : p.1.isPrefixOf (t.drop a) = true) (j : Nat) (c : Int) :
    (ContrG x t k a j c ∨ ∃ i, i < p.2.length ∧ j = a + i ∧ p.2[i]? = some c) ↔ ContrG x t k (a + 1) j c := by
  constructor
  · rintro ((h | ⟨q, hq, a', i, h1, h2⟩) | ⟨i, h1, h2, h3⟩)
    · exact Or.inl h
    · exact Or.inr ⟨q, hq, a', i, by omega, h2⟩
    · exact Or.inr ⟨p, hk, a, i, by omega, ha, List.isPrefixOf_iff_prefix.1 hn, h3, h2⟩
  · rintro (h | ⟨q, hq, a', i, h1, h2, h3, h4, h5⟩)
    · exact Or.inl (Or.inl h)
    · rcases Nat.lt_or_ge a' a with e | e
      · exact Or.inl (Or.inr ⟨q, hq, a', i, e, h2, h3, h4, h5⟩)
      · have : a' = a := by omega
        subst this
        rw [hk] at hq
        injection hq with hq
        subst hq
        exact Or.inr ⟨i, (List.getElem?_eq_some_iff.1 h4).1, h5, h4⟩
theorem contrG_end {x : List Pat} {t : List Int} {k : Nat} {p : Pat} (hk : x[k]? = some p) (j : Nat) (c : Int) : ContrG x t k t.length j c ↔ Contr (x.take (k + 1)) t j c := by
  have e : x.take (k + 1) = x.take k ++ [p] := by rw [List.take_add_one, hk]; rfl
  rw [e]
  constructor
  · rintro (⟨q, hq, r⟩ | ⟨q, hq, a', i, h1, h2, h3, h4, h5⟩)
    · exact ⟨q, List.mem_append_left _ hq, r⟩
    · rw [hk] at hq
      injection hq with hq
      subst hq
      exact ⟨p, by simp, a', i, h2, h3, h4, h5⟩
  · rintro ⟨q, hq, a', i, h2, h3, h4, h5⟩
    rcases List.mem_append.1 hq with hq | hq
    · exact Or.inl ⟨q, hq, a', i, h2, h3, h4, h5⟩
    · rw [List.mem_singleton.1 hq] at h3 h4
      exact Or.inr ⟨p, hk, a', i, h2, h2, h3, h4, h5⟩
theorem contr_none (t : List Int) (j : Nat) (c : Int) : ¬ Contr [] t j c := fun ⟨p, hp, _⟩ => by cases hp

theorem mine_zeros {w : World} {n : Nat} (hn : n ≤ 1000) : Mine .i64 3 (w.alloc (.cells (madeCells #[Value.int .i64 0] n) 3)) w.heap.size (.slice (some ⟨w.heap.size, 0, none⟩) n n) (List.replicate n 0) := by
  have e : madeCells #[Value.int .i64 0] n = ((List.replicate n (0 : Int)).map (Value.int .i64)).toArray := by
    have e1 : (madeCells #[Value.int .i64 0] n).toList = (List.replicate n (0 : Int)).map (Value.int .i64) := by
      unfold madeCells
      apply List.ext_getElem?
      intro i
      simp
      rcases Nat.lt_or_ge i n with h | h
      · simp [h, Nat.mod_one]
      · simp [Nat.not_lt.2 h]
    exact congrArg List.toArray e1
  rw [e]
  refine ⟨by simp, .inr ⟨w.heap.size, n, _, by simp, Nat.le_refl _, heap_alloc_new w _, by simp, by unfold maxLen; omega, by simp, ?_⟩⟩
  rw [List.length_replicate]
  exact List.take_of_length_le (by simp)
theorem Mine.spotG {k : IntKind} {e : TypeId} {w : World} {B n c g : Nat} {xs : List Int} {i : Nat} (h : Mine k e w B (.slice (some ⟨g, 0, none⟩) n c) xs) (hi : i < xs.length) :
    B ≤ g ∧ g < w.heap.size ∧ w.cell? ⟨g, i, none⟩ = some (.int k (xs.getD i 0)) ∧ w.frozen? ⟨g, i, none⟩ = false ∧ ∀ z, Mine k e (w.setCell ⟨g, i, none⟩ (.int k z)) B (.slice (some ⟨g, 0, none⟩) n c) (xs.set i z) := by
  obtain ⟨h1, h2⟩ := h.own_lt g rfl
  refine ⟨h1, h2, ?_, h.free i, fun z => h.set i hi z⟩
  rw [h.cellAt i hi]
  simp [List.getD, List.getElem?_eq_getElem hi]

/-- weights in block G, being raised; all else that lay there when they were made stays -/
structure BeS (G m : Nat) (w W6 wr : World) (b : List Int) : Prop where
  own : Mine .i64 3 wr G (.slice (some ⟨G, 0, none⟩) m m) b
  len : b.length = m
  keep : Keeps G W6 wr
  bel : Below w.heap.size w wr
  le : w.heap.size ≤ G
section
variable {G m : Nat} {w W6 wr : World} {b : List Int}
theorem BeS.drewN (h : BeS G m w W6 wr b) (q : Nat) : BeS G m w W6 (wr.drewN q) b := ⟨h.own.drewN q, h.len, h.keep, below_drewN h.bel q, h.le⟩
theorem BeS.grown (h : BeS G m w W6 wr b) (n : Nat) (os : Array Obj) : BeS G m w W6 (grow (wr.drewN n) os) b :=
  ⟨h.own.up (Up.of_grow wr n os), h.len, h.keep.trans (Keeps.of_up (Up.of_grow wr n os)), h.bel.trans ((Up.of_grow wr n os).1.mono h.bel.size), h.le⟩
theorem BeS.store (h : BeS G m w W6 wr b) {i : Nat} (hi : i < m) (z : Int) : BeS G m w W6 (wr.setCell ⟨G, i, none⟩ (.int .i64 z)) (b.set i z) :=
  ⟨(h.own.spotG (by rw [h.len]; exact hi)).2.2.2.2 z, by rw [List.length_set]; exact h.len, h.keep.trans (Keeps.setCell wr G i _), h.bel.setCell (p := ⟨G, i, none⟩) h.le _, h.le⟩
theorem Has.keeps {B : Nat} {A : Option Addr} {xs : List Value} (h : Has W6 B A xs) (hB : B ≤ G) (hs : B ≤ W6.heap.size) (hk : Keeps G W6 wr) : Has wr wr.heap.size A xs := fun hne => by
  obtain ⟨b, off, e, hl, hc⟩ := h hne
  refine ⟨b, off, e, by have := hk.1; omega, fun j u hu => ?_⟩
  rw [← hc j u hu]
  unfold World.cell?
  rw [hk.2 b (by omega) (by omega)]
end
/-- a store of one number -/
theorem wp_store_int {P : Program} {o : Oper} {a : Act} {w : World} {K : Act → World → Prop} {Q : Exit → Act → World → Prop} (ty : TypeId) (x y : Operand) (ho : o.op = .store ty x y)
    (g j : Nat) (k : IntKind) (z : Int) (hx : a.eval x = .pointer (some ⟨g, j, none⟩)) (hy : a.eval y = .int k z) (hi : (P.info? ty).map (·.size) = some 1) (u : Value) (hc : w.cell? ⟨g, j, none⟩ = some u) (hf : w.frozen? ⟨g, j, none⟩ = false)
    (h : K (a.put o.dst undef) (w.setCell ⟨g, j, none⟩ (.int k z))) : o.wp P a w K Q := by
  have hrun : (storeVar ty ⟨g, j, none⟩ (.int k z)).run P w = .ok () (w.setCell ⟨g, j, none⟩ (.int k z)) := by
    cases hq : P.info? ty with
    | none => simp [hq] at hi
    | some i =>
      have hs : i.size = 1 := by simpa [hq] using hi
      have e0 : (⟨g, j, none⟩ : Addr).add 0 = ⟨g, j, none⟩ := by rw [add_plain]; rfl
      simp [storeVar, sizeOf, typeInfo, hq, Value.cells, hs, storeCells, run_store_int, stored, e0, hc, hf, Result.andThen]
  unfold Oper.wp execOp
  simp only [ho, hx, hy, Instr.storeAt, Instr.sureAddr, Sem.run_bind, Sem.run_pure, Result.andThen_ok, hrun]
  exact h
theorem wp_region_last_lit {P : Program} {id : Nat} {Q : Exit → Act → World → Prop} {a : Act} {w : World} (L : List Oper) (o0 : Oper) (hL : L = L.dropLast ++ [L.getLastD o0]) (hm : P.follows .mixedOrders = true) (hg : (L.getLastD o0).guard = none) (hd : (L.getLastD o0).dst = none)
    (hB : (Region.lexB .any (L.dropLast ++ [idle (L.getLastD o0)]).toArray && backB (L.dropLast ++ [L.getLastD o0]) && backB (L.dropLast ++ [idle (L.getLastD o0)]) && waitsB L.dropLast.length (L.getLastD o0)) = true)
    (h : wpQuiet P L.toArray (fun w' => ∃ p : GrownBy, w' = grow (w.drewN p.n) p.os) (fun a' => ∀ w', (∃ p : GrownBy, w' = grow (w.drewN p.n) p.os) → (L.getLastD o0).wp P a' w' (fun a'' w'' => Q .normal a'' w'') Q) L.dropLast a) : (Code.region id L.toArray true).wp P Q a w :=
  wp_region_last_grown L.dropLast (L.getLastD o0) L.toArray (by rw [← hL]) hm hg hd hB h
end Go.Proofs.YtekjejbcdnghjaaDoor
