/-
  Mathematics of sorting pairs by swapping neighbours: the two loops' invariants. No program, no condition.
-/
import Derived.Test.YtlopddiplmjpfaaBrk
set_option linter.unusedVariables false
set_option linter.unusedSimpArgs false
namespace Go.Proofs.Ytlopddiplmjpfaa

def pg (L : List (Nat × Nat)) (i : Nat) : Nat × Nat := L.getD i (0, 0)
theorem pg_eq (L : List (Nat × Nat)) (i : Nat) (h : i < L.length) : pg L i = L[i] := by unfold pg; rw [List.getD_eq_getElem?_getD, List.getElem?_eq_getElem h]; rfl
/-- k and the one before it change places -/
def swp (L : List (Nat × Nat)) (k : Nat) : List (Nat × Nat) := (L.set k (pg L (k - 1))).set (k - 1) (pg L k)
theorem swp_len (L : List (Nat × Nat)) (k : Nat) : (swp L k).length = L.length := by unfold swp; rw [List.length_set, List.length_set]
theorem swp_get (L : List (Nat × Nat)) (k j : Nat) (h0 : 1 ≤ k) (hk : k < L.length) (hj : j < L.length) : pg (swp L k) j = if j = k - 1 then pg L k else if j = k then pg L (k - 1) else pg L j := by
  have key : ∀ (M : List (Nat × Nat)) (i : Nat) (v : Nat × Nat), i < M.length → pg (M.set i v) j = if j = i then v else pg M j := fun M i v hi => by
    unfold pg
    rw [List.getD_eq_getElem?_getD, List.getD_eq_getElem?_getD]
    by_cases e : i = j
    · subst e
      rw [List.getElem?_set_self hi, if_pos rfl]; rfl
    · rw [List.getElem?_set_ne e, if_neg (fun h => e h.symm)]
  unfold swp
  rw [key _ _ _ (by rw [List.length_set]; omega), key _ _ _ hk]
theorem pg_mem (L : List (Nat × Nat)) (x : Nat × Nat) : x ∈ L ↔ ∃ j, j < L.length ∧ pg L j = x := by
  constructor
  · intro h
    obtain ⟨j, hj, he⟩ := List.getElem_of_mem h
    exact ⟨j, hj, by rw [pg_eq _ _ hj, he]⟩
  · rintro ⟨j, hj, he⟩
    rw [pg_eq _ _ hj] at he
    rw [← he]
    exact List.getElem_mem hj
theorem swp_mem (L : List (Nat × Nat)) (k : Nat) (h0 : 1 ≤ k) (hk : k < L.length) (x : Nat × Nat) : x ∈ swp L k ↔ x ∈ L := by
  rw [pg_mem, pg_mem, swp_len]
  constructor
  · rintro ⟨j, hj, he⟩
    rw [swp_get L k j h0 hk hj] at he
    split at he
    · exact ⟨k, hk, he⟩
    · split at he
      · exact ⟨k - 1, by omega, he⟩
      · exact ⟨j, hj, he⟩
  · rintro ⟨j, hj, he⟩
    by_cases e1 : j = k
    · refine ⟨k - 1, by omega, ?_⟩
      rw [swp_get L k (k - 1) h0 hk (by omega), if_pos rfl, ← e1, he]
    · by_cases e2 : j = k - 1
      · refine ⟨k, hk, ?_⟩
        rw [swp_get L k k h0 hk hk, if_neg (by omega), if_pos rfl, ← e2, he]
      · refine ⟨j, hj, ?_⟩
        rw [swp_get L k j h0 hk hj, if_neg e2, if_neg e1, he]
/-- no two begin at one place -/
def Dist (L : List (Nat × Nat)) : Prop := ∀ a b, a < L.length → b < L.length → a ≠ b → (pg L a).1 ≠ (pg L b).1
theorem swp_dist (L : List (Nat × Nat)) (k : Nat) (h0 : 1 ≤ k) (hk : k < L.length) (h : Dist L) : Dist (swp L k) := by
  intro a b ha hb hab
  rw [swp_len] at ha hb
  rw [swp_get L k a h0 hk ha, swp_get L k b h0 hk hb]
  by_cases a1 : a = k - 1
  · rw [if_pos a1]
    by_cases b1 : b = k - 1
    · omega
    · rw [if_neg b1]
      by_cases b2 : b = k
      · rw [if_pos b2]; exact h _ _ hk (by omega) (by omega)
      · rw [if_neg b2]; exact h _ _ hk hb (by omega)
  · rw [if_neg a1]
    by_cases a2 : a = k
    · rw [if_pos a2]
      by_cases b1 : b = k - 1
      · rw [if_pos b1]; exact h _ _ (by omega) hk (by omega)
      · rw [if_neg b1, if_neg (by omega)]; exact h _ _ (by omega) hb (by omega)
    · rw [if_neg a2]
      by_cases b1 : b = k - 1
      · rw [if_pos b1]; exact h _ _ ha hk (by omega)
      · rw [if_neg b1]
        by_cases b2 : b = k
        · rw [if_pos b2]; exact h _ _ ha (by omega) (by omega)
        · rw [if_neg b2]; exact h _ _ ha hb hab
/-- the first i are sorted -/
def SortTo (L : List (Nat × Nat)) (i : Nat) : Prop := ∀ a b, a < b → b < i → (pg L a).1 < (pg L b).1
/-- the one at k goes down among the first i + 1 -/
def Down (L : List (Nat × Nat)) (i k : Nat) : Prop := (∀ a b, a < b → b ≤ i → a ≠ k → b ≠ k → (pg L a).1 < (pg L b).1) ∧ ∀ b, k < b → b ≤ i → (pg L k).1 < (pg L b).1
theorem down_start (L : List (Nat × Nat)) (i : Nat) (h : SortTo L i) : Down L i i :=
  ⟨fun a b h1 h2 h3 h4 => h a b h1 (by omega), fun b h1 h2 => by omega⟩
theorem down_step (L : List (Nat × Nat)) (i k : Nat) (h0 : 1 ≤ k) (hk : k ≤ i) (hi : i < L.length) (h : Down L i k) (hl : (pg L k).1 < (pg L (k - 1)).1) : Down (swp L k) i (k - 1) := by
  obtain ⟨h1, h2⟩ := h
  refine ⟨fun a b hab hb ha hbk => ?_, fun b hb1 hb2 => ?_⟩
  · rw [swp_get L k a h0 (by omega) (by omega), swp_get L k b h0 (by omega) (by omega), if_neg ha, if_neg hbk]
    by_cases e1 : a = k
    · subst e1
      rw [if_pos rfl, if_neg (by omega)]
      exact h1 (a - 1) b (by omega) hb (by omega) (by omega)
    · rw [if_neg e1]
      by_cases e2 : b = k
      · subst e2
        rw [if_pos rfl]
        exact h1 a (b - 1) (by omega) (by omega) e1 (by omega)
      · rw [if_neg e2]
        exact h1 a b hab hb e1 e2
  · rw [swp_get L k (k - 1) h0 (by omega) (by omega), if_pos rfl, swp_get L k b h0 (by omega) (by omega), if_neg (by omega)]
    by_cases e : b = k
    · subst e
      rw [if_pos rfl]
      exact hl
    · rw [if_neg e]
      exact h2 b (by omega) hb2
theorem down_end (L : List (Nat × Nat)) (i k : Nat) (hk : k ≤ i) (hi : i < L.length) (hd : Dist L) (h : Down L i k) (hl : k = 0 ∨ ¬ (pg L k).1 < (pg L (k - 1)).1) : SortTo L (i + 1) := by
  obtain ⟨h1, h2⟩ := h
  intro a b hab hb
  by_cases e1 : a = k
  · subst e1; exact h2 b hab (by omega)
  by_cases e2 : b = k
  · subst e2
    rcases hl with hl | hl
    · omega
    · have hlt : (pg L (b - 1)).1 < (pg L b).1 := by
        have := hd (b - 1) b (by omega) (by omega) (by omega)
        omega
      by_cases e3 : a = b - 1
      · rw [e3]; exact hlt
      · have := h1 a (b - 1) (by omega) (by omega) e1 (by omega)
        omega
  · exact h1 a b hab (by omega) e1 e2
theorem sorted_pairs (L : List (Nat × Nat)) (h : SortTo L L.length) : L.Pairwise (fun p q => p.1 < q.1) := by
  rw [List.pairwise_iff_getElem]
  intro i j hi hj hij
  have := h i j hij hj
  rwa [pg_eq _ _ hi, pg_eq _ _ hj] at this
/-- the scan's pairs begin at different places -/
theorem out_dist (t cs : List Int) (n : Nat) : Dist (scanS t cs n).out := by
  intro a b ha hb hab
  rw [pg_eq _ _ ha, pg_eq _ _ hb]
  have hI := inv_scan t cs n
  have hp := List.pairwise_iff_getElem.1 hI.out_up
  have o1 := hI.out_ok _ (List.getElem_mem ha)
  have o2 := hI.out_ok _ (List.getElem_mem hb)
  rcases Nat.lt_or_ge a b with h | h
  · have := hp a b ha hb h
    omega
  · have := hp b a hb ha (by omega)
    omega
end Go.Proofs.Ytlopddiplmjpfaa
