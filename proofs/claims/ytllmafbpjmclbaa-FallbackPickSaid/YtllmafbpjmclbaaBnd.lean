/-
  Boundaries as lists, clusters as neighbouring pairs, the next and the one before, windows. No condition.
-/
import Derived.Test.YtllmafbpjmclbaaCut
set_option linter.unusedVariables false
namespace Go.Proofs.Ytllmafbpjmclbaa

/-- a boundary -/
def bP (L : List Int) (j : Nat) : Bool := L.length != 0 && (j == 0 || j == L.length || !hang L j)
def isV (L : List Int) (i : Int) : Bool := decide (0 ≤ i ∧ i ≤ L.length) && bP L i.toNat
/-- how far from a boundary the first cluster goes -/
def Firsts (L : List Int) (r : Nat) : Prop := 1 ≤ r ∧ r ≤ L.length ∧ (∀ j, 0 < j → j < r → hang L j = true) ∧ (r = L.length ∨ hang L r = false)
/-- the longest run from a place whose classes are all of a kind -/
def Runs (p : Int → Bool) (L : List Int) (r : Nat) : Prop := r ≤ L.length ∧ (∀ j, j < r → p (g L j) = true) ∧ (r = L.length ∨ p (g L r) = false)
theorem Runs.unique {p : Int → Bool} {L : List Int} {r s : Nat} (h : Runs p L r) (k : Runs p L s) : r = s := by
  obtain ⟨h1, h2, h3⟩ := h
  obtain ⟨k1, k2, k3⟩ := k
  rcases Nat.lt_trichotomy r s with hl | hl | hl
  · have := k2 r hl
    rcases h3 with h3 | h3
    · omega
    · rw [h3] at this; cases this
  · exact hl
  · have := h2 s hl
    rcases k3 with k3 | k3
    · omega
    · rw [k3] at this; cases this

theorem bP_nil (L : List Int) (h : L.length = 0) (j : Nat) : bP L j = false := by unfold bP; rw [h]; rfl
theorem bP_zero (L : List Int) (h : 0 < L.length) : bP L 0 = true := by
  unfold bP
  rw [bne_iff_ne.2 (by omega : L.length ≠ 0)]; rfl
theorem bP_end (L : List Int) (h : 0 < L.length) : bP L L.length = true := by
  unfold bP
  rw [bne_iff_ne.2 (by omega : L.length ≠ 0)]; simp
theorem bP_mid (L : List Int) (j : Nat) (h0 : 0 < j) (h : j < L.length) : bP L j = !hang L j := by
  unfold bP
  rw [bne_iff_ne.2 (by omega : L.length ≠ 0), beq_eq_false_iff_ne.2 (by omega : j ≠ 0), beq_eq_false_iff_ne.2 (by omega : j ≠ L.length)]; rfl
theorem isV_nat (L : List Int) (j : Nat) (h : j ≤ L.length) : isV L j = bP L j := by
  unfold isV
  rw [decide_eq_true (by omega)]; simp

/-- the boundaries below m -/
def Bs (L : List Int) (m : Nat) : List Nat := (List.range m).filter (bP L)
def bnds (L : List Int) : List Nat := Bs L (L.length + 1)
theorem Bs_zero (L : List Int) : Bs L 0 = [] := rfl
theorem Bs_succ (L : List Int) (m : Nat) : Bs L (m + 1) = Bs L m ++ (if bP L m = true then [m] else []) := by
  unfold Bs
  rw [List.range_succ, List.filter_append]
  by_cases h : bP L m = true <;> simp [h]
theorem Bs_yes (L : List Int) (m : Nat) (h : bP L m = true) : Bs L (m + 1) = Bs L m ++ [m] := by rw [Bs_succ, if_pos h]
theorem Bs_no (L : List Int) (m : Nat) (h : bP L m = false) : Bs L (m + 1) = Bs L m := by rw [Bs_succ, if_neg (by rw [h]; simp), List.append_nil]
theorem mem_Bs {L : List Int} {m j : Nat} : j ∈ Bs L m ↔ j < m ∧ bP L j = true := by
  unfold Bs
  rw [List.mem_filter, List.mem_range]
theorem mem_bnds {L : List Int} {j : Nat} : j ∈ bnds L ↔ j ≤ L.length ∧ bP L j = true := by
  unfold bnds
  rw [mem_Bs]
  constructor <;> rintro ⟨a, b⟩ <;> exact ⟨by omega, b⟩
theorem Bs_len (L : List Int) : ∀ m, (Bs L m).length ≤ m
  | 0 => Nat.le_refl _
  | m + 1 => by
    rw [Bs_succ, List.length_append]
    have := Bs_len L m
    split <;> simp <;> omega
theorem Bs_lt (L : List Int) (m a b : Nat) (hab : a < b) (hb : b < (Bs L m).length) : (Bs L m)[a]'(by omega) < (Bs L m)[b] := by
  have hs : (Bs L m).Pairwise (· < ·) := (List.pairwise_lt_range).filter _
  exact List.pairwise_iff_getElem.1 hs a b (by omega) hb hab
theorem bnds_nil (L : List Int) (h : L.length = 0) : bnds L = [] := by
  unfold bnds
  rw [h, Bs_no _ _ (bP_nil L h 0)]; rfl
theorem Bs_gap (L : List Int) (a : Nat) : ∀ k, (∀ j, a ≤ j → j < a + k → bP L j = false) → Bs L (a + k) = Bs L a
  | 0, _ => rfl
  | k + 1, h => by
    rw [← Nat.add_assoc, Bs_no L (a + k) (h (a + k) (by omega) (by omega))]
    exact Bs_gap L a k (fun j h1 h2 => h j h1 (by omega))
theorem Bs_jump (L : List Int) (f r : Nat) (hr : 1 ≤ r) (ht : bP L (f + r) = true) (hm : ∀ j, f < j → j < f + r → bP L j = false) : Bs L (f + r + 1) = Bs L (f + 1) ++ [f + r] := by
  rw [Bs_yes L _ ht]
  congr 1
  have := Bs_gap L (f + 1) (r - 1) (fun j h1 h2 => hm j (by omega) (by omega))
  rwa [show f + 1 + (r - 1) = f + r by omega] at this

/-- neighbours -/
def pairs (l : List Nat) : List (Nat × Nat) := l.zip l.tail
theorem pairs_snoc : ∀ (l : List Nat) (a b : Nat), pairs (l ++ [a] ++ [b]) = pairs (l ++ [a]) ++ [(a, b)]
  | [], a, b => rfl
  | [x], a, b => rfl
  | x :: y :: l, a, b => by
    have := pairs_snoc (y :: l) a b
    unfold pairs at *
    simp only [List.cons_append, List.tail_cons, List.zip_cons_cons] at *
    rw [this]
theorem pairs_len (l : List Nat) : (pairs l).length = l.length - 1 := by unfold pairs; rw [List.length_zip, List.length_tail]; omega
theorem pairs_get (l : List Nat) (i : Nat) (h : i + 1 < l.length) : (pairs l)[i]'(by rw [pairs_len]; omega) = (l[i], l[i + 1]) := by
  unfold pairs
  rw [List.getElem_zip, List.getElem_tail]
def cutsL (L : List Int) : List (Nat × Nat) := pairs (bnds L)

theorem first_step (L : List Int) (f r : Nat) (hf : bP L f = true) (hl : f < L.length) (h : Firsts (L.drop f) r) :
    1 ≤ r ∧ f + r ≤ L.length ∧ bP L (f + r) = true ∧ ∀ j, f < j → j < f + r → bP L j = false := by
  obtain ⟨h1, h2, h3, h4⟩ := h
  rw [List.length_drop] at h2 h4
  have hb : f = 0 ∨ hang L f = false := by
    by_cases h0 : f = 0
    · exact .inl h0
    · right
      rw [bP_mid L f (by omega) hl] at hf
      simpa using hf
  refine ⟨h1, by omega, ?_, fun j hj1 hj2 => ?_⟩
  · rcases h4 with h4 | h4
    · rw [show f + r = L.length by omega]; exact bP_end L (by omega)
    · by_cases he : f + r = L.length
      · rw [he]; exact bP_end L (by omega)
      · rw [bP_mid L _ (by omega) (by omega), hang_drop L f r hb (by omega), h4]; rfl
  · obtain ⟨k, rfl⟩ : ∃ k, j = f + k := ⟨j - f, by omega⟩
    rw [bP_mid L _ (by omega) (by omega), hang_drop L f k hb (by omega), h3 k (by omega) (by omega)]; rfl

/-- the next boundary, the one before -/
def IsNext (L : List Int) (m r : Nat) : Prop := m < r ∧ r ≤ L.length ∧ bP L r = true ∧ ∀ j, m < j → j < r → bP L j = false
def IsPrev (L : List Int) (m r : Nat) : Prop := r < m ∧ bP L r = true ∧ ∀ j, r < j → j < m → bP L j = false
def NextV (L : List Int) (i : Int) (r : Nat) : Prop := (i < 0 → r = 0) ∧ ((L.length : Int) ≤ i → r = L.length) ∧ (∀ m : Nat, i = m → m < L.length → IsNext L m r)
def PrevV (L : List Int) (i : Int) (r : Nat) : Prop := ((L.length : Int) < i → r = L.length) ∧ (i ≤ 0 → r = 0) ∧ (∀ m : Nat, i = m → 0 < m → m ≤ L.length → IsPrev L m r)
theorem IsNext.unique {L : List Int} {m r s : Nat} (h : IsNext L m r) (k : IsNext L m s) : r = s := by
  obtain ⟨h1, h2, h3, h4⟩ := h
  obtain ⟨k1, k2, k3, k4⟩ := k
  rcases Nat.lt_trichotomy r s with hl | hl | hl
  · rw [k4 r h1 hl] at h3; cases h3
  · exact hl
  · rw [h4 s k1 hl] at k3; cases k3
theorem IsPrev.unique {L : List Int} {m r s : Nat} (h : IsPrev L m r) (k : IsPrev L m s) : r = s := by
  obtain ⟨h1, h3, h4⟩ := h
  obtain ⟨k1, k3, k4⟩ := k
  rcases Nat.lt_trichotomy r s with hl | hl | hl
  · rw [h4 s hl k1] at k3; cases k3
  · exact hl
  · rw [k4 r hl h1] at h3; cases h3
theorem NextV.unique {L : List Int} {i : Int} {r s : Nat} (h : NextV L i r) (k : NextV L i s) : r = s := by
  by_cases h1 : i < 0
  · rw [h.1 h1, k.1 h1]
  by_cases h2 : (L.length : Int) ≤ i
  · rw [h.2.1 h2, k.2.1 h2]
  exact (h.2.2 i.toNat (by omega) (by omega)).unique (k.2.2 i.toNat (by omega) (by omega))
theorem PrevV.unique {L : List Int} {i : Int} {r s : Nat} (h : PrevV L i r) (k : PrevV L i s) : r = s := by
  by_cases h1 : (L.length : Int) < i
  · rw [h.1 h1, k.1 h1]
  by_cases h2 : i ≤ 0
  · rw [h.2.1 h2, k.2.1 h2]
  exact (h.2.2 i.toNat (by omega) (by omega) (by omega)).unique (k.2.2 i.toNat (by omega) (by omega) (by omega))
theorem NextV.le {L : List Int} {i : Int} {r : Nat} (h : NextV L i r) : r ≤ L.length := by
  by_cases h1 : i < 0
  · rw [h.1 h1]; omega
  by_cases h2 : (L.length : Int) ≤ i
  · rw [h.2.1 h2]; exact Nat.le_refl _
  exact (h.2.2 i.toNat (by omega) (by omega)).2.1

/-- a list's element that is the first above i, none before it -/
theorem next_of (L : List Int) (i : Int) (k : Nat) (hk : k < (bnds L).length) (hi : i < (bnds L)[k]) (hb : ∀ j (hj : j < k), ((bnds L)[j]'(by omega) : Int) ≤ i) : NextV L i (bnds L)[k] := by
  have hm := mem_bnds.1 (List.getElem_mem hk)
  refine ⟨fun h => ?_, fun h => ?_, fun m hm2 hml => ⟨by omega, hm.1, hm.2, fun j hj1 hj2 => ?_⟩⟩
  · -- all before k are at most i, so that k is the first, and the first is 0
    rcases Nat.eq_zero_or_pos k with rfl | hk0
    · by_cases he : (bnds L)[0] = 0
      · exact he
      · exfalso
        have h0 : 0 ∈ bnds L := mem_bnds.2 ⟨by omega, bP_zero L (by
          rcases Nat.eq_zero_or_pos L.length with h0 | h0
          · have := hm.2; rw [bP_nil L h0] at this; cases this
          · exact h0)⟩
        obtain ⟨q, hq, he2⟩ := List.getElem_of_mem h0
        rcases Nat.eq_zero_or_pos q with rfl | hq0
        · exact he he2
        · have := Bs_lt L _ 0 q hq0 hq
          unfold bnds at he2
          omega
    · have := hb 0 hk0
      omega
  · have := hm.1; omega
  · cases hj : bP L j with
    | false => rfl
    | true =>
      exfalso
      obtain ⟨q, hq, he⟩ := List.getElem_of_mem (mem_bnds.2 ⟨by omega, hj⟩ : j ∈ bnds L)
      by_cases hqk : q < k
      · have := hb q hqk
        omega
      · by_cases hqe : q = k
        · subst hqe; omega
        · have h2 : (bnds L)[k] < (bnds L)[q] := Bs_lt L _ k q (by omega) hq
          omega
theorem next_none (L : List Int) (i : Int) (hb : ∀ j (hj : j < (bnds L).length), ((bnds L)[j] : Int) ≤ i) : NextV L i L.length := by
  have hall : ∀ j ∈ bnds L, (j : Int) ≤ i := fun j hj => by
    obtain ⟨q, hq, he⟩ := List.getElem_of_mem hj
    have := hb q hq
    omega
  refine ⟨fun h => ?_, fun h => rfl, fun m hm hml => ?_⟩
  · rcases Nat.eq_zero_or_pos L.length with h0 | h0
    · exact h0
    · have := hall 0 (mem_bnds.2 ⟨by omega, bP_zero L h0⟩)
      omega
  · have := hall L.length (mem_bnds.2 ⟨Nat.le_refl _, bP_end L (by omega)⟩)
    omega
theorem prev_of (L : List Int) (i : Int) (k : Nat) (hk : k < (bnds L).length) (hi : ((bnds L)[k] : Int) < i) (hb : ∀ j (hj : j < (bnds L).length), k < j → i ≤ ((bnds L)[j] : Int)) : PrevV L i (bnds L)[k] := by
  have hm := mem_bnds.1 (List.getElem_mem hk)
  refine ⟨fun h => ?_, fun h => by omega, fun m hm2 h0 hml => ⟨by omega, hm.2, fun j hj1 hj2 => ?_⟩⟩
  · have hn : 0 < L.length := by
      rcases Nat.eq_zero_or_pos L.length with h0 | h0
      · have := hm.2; rw [bP_nil L h0] at this; cases this
      · exact h0
    obtain ⟨q, hq, he⟩ := List.getElem_of_mem (mem_bnds.2 ⟨Nat.le_refl _, bP_end L hn⟩)
    by_cases hqk : k < q
    · have := hb q hq hqk
      omega
    · by_cases hqe : q = k
      · subst hqe; exact he
      · have h2 : (bnds L)[q] < (bnds L)[k] := Bs_lt L _ q k (by omega) hk
        have := hm.1
        omega
  · cases hj : bP L j with
    | false => rfl
    | true =>
      exfalso
      obtain ⟨q, hq, he⟩ := List.getElem_of_mem (mem_bnds.2 ⟨by omega, hj⟩ : j ∈ bnds L)
      by_cases hqk : k < q
      · have := hb q hq hqk
        omega
      · by_cases hqe : q = k
        · subst hqe; omega
        · have h2 : (bnds L)[q] < (bnds L)[k] := Bs_lt L _ q k (by omega) hk
          omega
theorem prev_none (L : List Int) (i : Int) (hb : ∀ j (hj : j < (bnds L).length), i ≤ ((bnds L)[j] : Int)) : PrevV L i 0 := by
  have hall : ∀ j ∈ bnds L, i ≤ (j : Int) := fun j hj => by
    obtain ⟨q, hq, he⟩ := List.getElem_of_mem hj
    have := hb q hq
    omega
  refine ⟨fun h => ?_, fun h => rfl, fun m hm h0 hml => ?_⟩
  · rcases Nat.eq_zero_or_pos L.length with h0 | h0
    · exact h0.symm
    · have := hall L.length (mem_bnds.2 ⟨Nat.le_refl _, bP_end L h0⟩)
      omega
  · have := hall 0 (mem_bnds.2 ⟨by omega, bP_zero L (by omega)⟩)
    omega

/-- the window -/
def WinV (L : List Int) (i a b : Int) : Prop := (¬ (0 ≤ i ∧ i ≤ L.length) → a = 0 ∧ b = 0) ∧
  ∀ m : Nat, i = m → m ≤ L.length → a = m ∧ ∃ r : Nat, Runs (fun a => a == 6) (L.drop m) r ∧ (0 < r → b = m + r) ∧ (r = 0 → ∃ s : Nat, Runs attB (L.drop m) s ∧ b = m + s)
theorem WinV.unique {L : List Int} {i a b c d : Int} (h : WinV L i a b) (k : WinV L i c d) : a = c ∧ b = d := by
  by_cases hi : 0 ≤ i ∧ i ≤ L.length
  · obtain ⟨m, rfl⟩ : ∃ m : Nat, i = m := ⟨i.toNat, by omega⟩
    obtain ⟨h1, r, h2, h3, h4⟩ := h.2 m rfl (by omega)
    obtain ⟨k1, s, k2, k3, k4⟩ := k.2 m rfl (by omega)
    have hrs := h2.unique k2
    subst hrs
    refine ⟨h1.trans k1.symm, ?_⟩
    rcases Nat.eq_zero_or_pos r with h0 | h0
    · obtain ⟨p, h5, h6⟩ := h4 h0
      obtain ⟨q, k5, k6⟩ := k4 h0
      have hpq := h5.unique k5
      subst hpq
      exact h6.trans k6.symm
    · exact (h3 h0).trans (k3 h0).symm
  · obtain ⟨h1, h2⟩ := h.1 hi
    obtain ⟨k1, k2⟩ := k.1 hi
    exact ⟨h1.trans k1.symm, h2.trans k2.symm⟩
end Go.Proofs.Ytllmafbpjmclbaa
