/-
  Clusters over lists of classes: where two code points hang together, boundaries, what the rules look at. No program in this text. No condition.
-/
import Derived.Test.YtnpcakeagpbgiaaGreatTab
set_option linter.unusedVariables false
namespace Go.Proofs.YtnpcakeagpbgiaaGreat

/-- the Cluster class of a code point; of a text -/
def cl (r : Int) : Int := (ofP r).cl
def cls (t : List Int) : List Int := t.map cl
theorem cls_len (t : List Int) : (cls t).length = t.length := List.length_map ..
/-- the class at a place -/
def g (L : List Int) (i : Nat) : Int := L.getD i 0
theorem g_cls (t : List Int) (i : Nat) (h : i < t.length) : g (cls t) i = cl t[i] := by
  unfold g cls
  rw [List.getD_eq_getElem?_getD, List.getElem?_map, List.getElem?_eq_getElem h]; rfl
theorem g_drop (L : List Int) (f k : Nat) : g (L.drop f) k = g L (f + k) := by
  unfold g
  rw [List.getD_eq_getElem?_getD, List.getD_eq_getElem?_getD, List.getElem?_drop]
theorem g_left (p q : List Int) (i : Nat) (h : i < p.length) : g (p ++ q) i = g p i := by
  unfold g
  rw [List.getD_eq_getElem?_getD, List.getD_eq_getElem?_getD, List.getElem?_append_left h]

def stopB (a : Int) : Bool := a == 1 || a == 2 || a == 3
def attB (a : Int) : Bool := a == 4 || a == 5
def syll (a b : Int) : Bool :=
  if a = 9 then b == 9 || b == 10 || b == 12 || b == 13
  else if a = 12 ∨ a = 10 then b == 10 || b == 11
  else if a = 13 ∨ a = 11 then b == 11
  else false
/-- ends in a Picture and any number of Extends, looking at the first k classes -/
def pic (L : List Int) : Nat → Bool
  | 0 => false
  | k + 1 => if g L k = 4 then pic L k else g L k == 14
/-- how many Regionals stand right before place k -/
def regs (L : List Int) : Nat → Nat
  | 0 => 0
  | k + 1 => if g L k = 6 then regs L k + 1 else 0
/-- the document's rules -/
def hangF (a b : Int) (p q : Bool) : Bool :=
  (a == 1 && b == 2 || syll a b) || (!stopB a && (b == 4 || b == 5 || b == 8)) || (a == 7 && !stopB b) || (a == 5 && b == 14 && p) || (a == 6 && b == 6 && q)
def hang (L : List Int) (i : Nat) : Bool := hangF (g L (i - 1)) (g L i) (pic L (i - 1)) (regs L i % 2 == 1)
/-- the program's order of them -/
def joinF (a b : Int) (p q : Bool) : Bool :=
  if stopB a then a == 1 && b == 2
  else if attB b || b == 8 then true
  else if a = 7 then !stopB b
  else if a = 5 then b == 14 && p
  else if a = 6 then b == 6 && q
  else syll a b
theorem join_hang (a b : Int) (p q : Bool) : joinF a b p q = hangF a b p q := by
  have hb : (b == 4 || b == 5 || b == 8) = (attB b || b == 8) := rfl
  unfold joinF hangF
  rw [hb]
  generalize hx : (attB b || b == 8) = x
  by_cases h1 : a = 1
  · subst h1; simp [stopB, syll]
  by_cases h2 : a = 2
  · subst h2; simp [stopB, syll]
  by_cases h3 : a = 3
  · subst h3; simp [stopB, syll]
  have hs : stopB a = false := by simp [stopB, h1, h2, h3]
  rw [hs]
  by_cases h7 : a = 7
  · subst h7; cases x <;> simp [syll]
  by_cases h5 : a = 5
  · subst h5; cases x <;> simp [syll]
  by_cases h6 : a = 6
  · subst h6; cases x <;> simp [syll]
  have e1 : (a == 1) = false := beq_eq_false_iff_ne.2 h1
  have e5 : (a == 5) = false := beq_eq_false_iff_ne.2 h5
  have e6 : (a == 6) = false := beq_eq_false_iff_ne.2 h6
  have e7 : (a == 7) = false := beq_eq_false_iff_ne.2 h7
  cases x <;> simp [h7, h5, h6, e1, e5, e6, e7]

/-- all of the first k are Extends -/
def allx (L : List Int) : Nat → Bool
  | 0 => true
  | k + 1 => g L k == 4 && allx L k
theorem pic_drop (L : List Int) (f : Nat) : ∀ k, pic L (f + k) = (pic (L.drop f) k || (allx (L.drop f) k && pic L f))
  | 0 => by simp [pic, allx]
  | k + 1 => by
    rw [← Nat.add_assoc, pic, pic, allx, g_drop, pic_drop L f k]
    by_cases h : g L (f + k) = 4 <;> simp [h]
theorem regs_drop (L : List Int) (f : Nat) : ∀ k, regs L (f + k) = regs (L.drop f) k + (if regs (L.drop f) k = k then regs L f else 0)
  | 0 => by simp [regs]
  | k + 1 => by
    rw [← Nat.add_assoc, regs, regs, g_drop, regs_drop L f k]
    by_cases h : g L (f + k) = 6 <;> simp [h]
    omega
theorem regs_le (L : List Int) : ∀ k, regs L k ≤ k
  | 0 => Nat.le_refl _
  | k + 1 => by
    rw [regs]
    have := regs_le L k
    split <;> omega
theorem allx_at (L : List Int) : ∀ k, allx L k = true → ∀ j, j < k → g L j = 4
  | 0, _, j, h => absurd h (by omega)
  | k + 1, h, j, hj => by
    rw [allx, Bool.and_eq_true, beq_iff_eq] at h
    rcases Nat.lt_or_ge j k with h2 | h2
    · exact allx_at L k h.2 j h2
    · obtain rfl : j = k := by omega
      exact h.1
theorem regs_at (L : List Int) : ∀ k, regs L k = k → ∀ j, j < k → g L j = 6
  | 0, _, j, h => absurd h (by omega)
  | k + 1, h, j, hj => by
    rw [regs] at h
    have hl := regs_le L k
    by_cases h6 : g L k = 6
    · rw [if_pos h6] at h
      rcases Nat.lt_or_ge j k with h2 | h2
      · exact regs_at L k (by omega) j h2
      · obtain rfl : j = k := by omega
        exact h6
    · rw [if_neg h6] at h; omega
theorem pic_left (p q : List Int) : ∀ k, k ≤ p.length → pic (p ++ q) k = pic p k
  | 0, _ => rfl
  | k + 1, h => by rw [pic, pic, g_left _ _ _ (by omega), pic_left p q k (by omega)]
theorem regs_left (p q : List Int) : ∀ k, k ≤ p.length → regs (p ++ q) k = regs p k
  | 0, _ => rfl
  | k + 1, h => by rw [regs, regs, g_left _ _ _ (by omega), regs_left p q k (by omega)]
theorem hang_left (p q : List Int) (i : Nat) (h : i < p.length) : hang (p ++ q) i = hang p i := by
  unfold hang
  rw [g_left _ _ _ (by omega), g_left _ _ _ h, pic_left _ _ _ (by omega), regs_left _ _ _ (by omega)]

/-- what stands before a place does not matter behind it, if an attached run from there and a run of Regionals from there are passed -/
theorem hang_behind (L : List Int) (f k : Nat) (hk : 0 < k) (hp : g L (f + k - 1) = 5 → allx (L.drop f) (k - 1) = true → pic L f = false) (hr : regs (L.drop f) k = k → g L (f + k) = 6 → regs L f % 2 = 0) :
    hang L (f + k) = hang (L.drop f) k := by
  unfold hang
  rw [g_drop, g_drop, show f + k - 1 = f + (k - 1) by omega, pic_drop L f (k - 1)]
  rw [show f + k - 1 = f + (k - 1) by omega] at hp
  generalize ha : g L (f + (k - 1)) = a at hp ⊢
  generalize hb : g L (f + k) = b at hr ⊢
  by_cases h5 : a = 5
  · have h6 : ¬ a = 6 := by omega
    have e : (pic (L.drop f) (k - 1) || (allx (L.drop f) (k - 1) && pic L f)) = pic (L.drop f) (k - 1) := by
      cases hx : allx (L.drop f) (k - 1) with
      | false => simp
      | true => rw [hp h5 hx]; simp
    rw [e]
    have e6 : (a == 6) = false := beq_eq_false_iff_ne.2 h6
    unfold hangF
    rw [e6]
    simp only [Bool.false_and]
  · by_cases h6 : a = 6 ∧ b = 6
    · have e : (regs L (f + k) % 2 == 1) = (regs (L.drop f) k % 2 == 1) := by
        rw [regs_drop L f k]
        by_cases hx : regs (L.drop f) k = k
        · have := hr hx h6.2
          rw [if_pos hx, Nat.add_mod, this, Nat.add_zero, Nat.mod_mod]
        · rw [if_neg hx, Nat.add_zero]
      rw [e]
      have e5 : (a == 5) = false := beq_eq_false_iff_ne.2 h5
      unfold hangF
      rw [e5]
      simp only [Bool.false_and]
    · have h6' : (a == 6 && b == 6) = false := by
        rw [Bool.and_eq_false_iff, beq_eq_false_iff_ne, beq_eq_false_iff_ne]
        by_cases h : a = 6
        · exact .inr (fun hh => h6 ⟨h, hh⟩)
        · exact .inl h
      have h5' : (a == 5) = false := by simp [h5]
      unfold hangF
      rw [h6', h5']
      simp
/-- behind a boundary nothing before it matters -/
theorem hang_drop (L : List Int) (f k : Nat) (hf : f = 0 ∨ hang L f = false) (hk : 0 < k) : hang L (f + k) = hang (L.drop f) k := by
  rcases hf with rfl | hf
  · rw [Nat.zero_add, List.drop_zero]
  by_cases hf0 : f = 0
  · subst hf0; rw [Nat.zero_add, List.drop_zero]
  obtain ⟨m, rfl⟩ : ∃ m, f = m + 1 := ⟨f - 1, by omega⟩
  unfold hang hangF at hf
  simp only [Nat.add_sub_cancel, Bool.or_eq_false_iff] at hf
  obtain ⟨⟨⟨⟨h1, h2⟩, h3⟩, h4⟩, h5⟩ := hf
  apply hang_behind L (m + 1) k hk
  · intro ha hx
    -- the place itself is attached, so that a stop stands before it
    have hatt : g L (m + 1) = 4 ∨ g L (m + 1) = 5 := by
      by_cases hk1 : k = 1
      · subst hk1; right; exact ha
      · left
        have := allx_at _ _ hx 0 (by omega)
        rwa [g_drop] at this
    have hst : stopB (g L m) = true := by
      rcases hatt with h | h
      all_goals
        rw [h] at h2
        cases hs : stopB (g L m)
        · rw [hs] at h2; simp at h2
        · rfl
    unfold stopB at hst
    simp only [Bool.or_eq_true, beq_iff_eq] at hst
    rw [pic, if_neg (by omega)]
    rw [beq_eq_false_iff_ne]
    omega
  · intro hx _
    have h6 : g L (m + 1) = 6 := by
      have := regs_at _ _ hx 0 hk
      rwa [g_drop] at this
    rw [h6] at h5
    simp only [beq_self_eq_true, Bool.and_true] at h5
    by_cases hm : g L m = 6
    · rw [hm] at h5
      simp only [beq_self_eq_true, Bool.true_and] at h5
      rw [beq_eq_false_iff_ne] at h5
      omega
    · rw [regs, if_neg hm]
end Go.Proofs.YtnpcakeagpbgiaaGreat

/-
  Boundaries as lists, clusters as neighbouring pairs, the next and the one before, windows. No condition.
-/
set_option linter.unusedVariables false
namespace Go.Proofs.YtnpcakeagpbgiaaGreat

/-- a boundary -/
def bP (L : List Int) (j : Nat) : Bool := L.length != 0 && (j == 0 || j == L.length || !hang L j)
def isV (L : List Int) (i : Int) : Bool := decide (0 ≤ i ∧ i ≤ L.length) && bP L i.toNat
/-- how far from a boundary the first cluster goes -/
def Firsts (L : List Int) (r : Nat) : Prop := 1 ≤ r ∧ r ≤ L.length ∧ (∀ j, 0 < j → j < r → hang L j = true) ∧ (r = L.length ∨ hang L r = false)
/-- the longest run from a place whose classes are all of a kind -/
def Runs (p : Int → Bool) (L : List Int) (r : Nat) : Prop := r ≤ L.length ∧ (∀ j, j < r → p (g L j) = true) ∧ (r = L.length ∨ p (g L r) = false)
theorem Runs.unique {p : Int → Bool} {L : List Int} {r s : Nat} (h : Runs p L r) (k : Runs p L s) : r = s := by
  obtain ⟨h1, h2, h3⟩ := h
  obtain ⟨k1, k2, k3⟩ := k
  rcases Nat.lt_trichotomy r s with hl | hl | hl
  · have := k2 r hl
    rcases h3 with h3 | h3
    · omega
    · rw [h3] at this; cases this
  · exact hl
  · have := h2 s hl
    rcases k3 with k3 | k3
    · omega
    · rw [k3] at this; cases this

theorem bP_nil (L : List Int) (h : L.length = 0) (j : Nat) : bP L j = false := by unfold bP; rw [h]; rfl
theorem bP_zero (L : List Int) (h : 0 < L.length) : bP L 0 = true := by
  unfold bP
  rw [bne_iff_ne.2 (by omega : L.length ≠ 0)]; rfl
theorem bP_end (L : List Int) (h : 0 < L.length) : bP L L.length = true := by
  unfold bP
  rw [bne_iff_ne.2 (by omega : L.length ≠ 0)]; simp
theorem bP_mid (L : List Int) (j : Nat) (h0 : 0 < j) (h : j < L.length) : bP L j = !hang L j := by
  unfold bP
  rw [bne_iff_ne.2 (by omega : L.length ≠ 0), beq_eq_false_iff_ne.2 (by omega : j ≠ 0), beq_eq_false_iff_ne.2 (by omega : j ≠ L.length)]; rfl
theorem isV_nat (L : List Int) (j : Nat) (h : j ≤ L.length) : isV L j = bP L j := by
  unfold isV
  rw [decide_eq_true (by omega)]; simp

/-- the boundaries below m -/
def Bs (L : List Int) (m : Nat) : List Nat := (List.range m).filter (bP L)
def bnds (L : List Int) : List Nat := Bs L (L.length + 1)
theorem Bs_zero (L : List Int) : Bs L 0 = [] := rfl
theorem Bs_succ (L : List Int) (m : Nat) : Bs L (m + 1) = Bs L m ++ (if bP L m = true then [m] else []) := by
  unfold Bs
  rw [List.range_succ, List.filter_append]
  by_cases h : bP L m = true <;> simp [h]
theorem Bs_yes (L : List Int) (m : Nat) (h : bP L m = true) : Bs L (m + 1) = Bs L m ++ [m] := by rw [Bs_succ, if_pos h]
theorem Bs_no (L : List Int) (m : Nat) (h : bP L m = false) : Bs L (m + 1) = Bs L m := by rw [Bs_succ, if_neg (by rw [h]; simp), List.append_nil]
theorem mem_Bs {L : List Int} {m j : Nat} : j ∈ Bs L m ↔ j < m ∧ bP L j = true := by
  unfold Bs
  rw [List.mem_filter, List.mem_range]
theorem mem_bnds {L : List Int} {j : Nat} : j ∈ bnds L ↔ j ≤ L.length ∧ bP L j = true := by
  unfold bnds
  rw [mem_Bs]
  constructor <;> rintro ⟨a, b⟩ <;> exact ⟨by omega, b⟩
theorem Bs_len (L : List Int) : ∀ m, (Bs L m).length ≤ m
  | 0 => Nat.le_refl _
  | m + 1 => by
    rw [Bs_succ, List.length_append]
    have := Bs_len L m
    split <;> simp <;> omega
theorem Bs_lt (L : List Int) (m a b : Nat) (hab : a < b) (hb : b < (Bs L m).length) : (Bs L m)[a]'(by omega) < (Bs L m)[b] := by
  have hs : (Bs L m).Pairwise (· < ·) := (List.pairwise_lt_range).filter _
  exact List.pairwise_iff_getElem.1 hs a b (by omega) hb hab
theorem bnds_nil (L : List Int) (h : L.length = 0) : bnds L = [] := by
  unfold bnds
  rw [h, Bs_no _ _ (bP_nil L h 0)]; rfl
theorem Bs_gap (L : List Int) (a : Nat) : ∀ k, (∀ j, a ≤ j → j < a + k → bP L j = false) → Bs L (a + k) = Bs L a
  | 0, _ => rfl
  | k + 1, h => by
    rw [← Nat.add_assoc, Bs_no L (a + k) (h (a + k) (by omega) (by omega))]
    exact Bs_gap L a k (fun j h1 h2 => h j h1 (by omega))
theorem Bs_jump (L : List Int) (f r : Nat) (hr : 1 ≤ r) (ht : bP L (f + r) = true) (hm : ∀ j, f < j → j < f + r → bP L j = false) : Bs L (f + r + 1) = Bs L (f + 1) ++ [f + r] := by
  rw [Bs_yes L _ ht]
  congr 1
  have := Bs_gap L (f + 1) (r - 1) (fun j h1 h2 => hm j (by omega) (by omega))
  rwa [show f + 1 + (r - 1) = f + r by omega] at this

/-- neighbours -/
def pairs (l : List Nat) : List (Nat × Nat) := l.zip l.tail
theorem pairs_snoc : ∀ (l : List Nat) (a b : Nat), pairs (l ++ [a] ++ [b]) = pairs (l ++ [a]) ++ [(a, b)]
  | [], a, b => rfl
  | [x], a, b => rfl
  | x :: y :: l, a, b => by
    have := pairs_snoc (y :: l) a b
    unfold pairs at *
    simp only [List.cons_append, List.tail_cons, List.zip_cons_cons] at *
    rw [this]
theorem pairs_len (l : List Nat) : (pairs l).length = l.length - 1 := by unfold pairs; rw [List.length_zip, List.length_tail]; omega
theorem pairs_get (l : List Nat) (i : Nat) (h : i + 1 < l.length) : (pairs l)[i]'(by rw [pairs_len]; omega) = (l[i], l[i + 1]) := by
  unfold pairs
  rw [List.getElem_zip, List.getElem_tail]
def cutsL (L : List Int) : List (Nat × Nat) := pairs (bnds L)

theorem first_step (L : List Int) (f r : Nat) (hf : bP L f = true) (hl : f < L.length) (h : Firsts (L.drop f) r) :
    1 ≤ r ∧ f + r ≤ L.length ∧ bP L (f + r) = true ∧ ∀ j, f < j → j < f + r → bP L j = false := by
  obtain ⟨h1, h2, h3, h4⟩ := h
  rw [List.length_drop] at h2 h4
  have hb : f = 0 ∨ hang L f = false := by
    by_cases h0 : f = 0
    · exact .inl h0
    · right
      rw [bP_mid L f (by omega) hl] at hf
      simpa using hf
  refine ⟨h1, by omega, ?_, fun j hj1 hj2 => ?_⟩
  · rcases h4 with h4 | h4
    · rw [show f + r = L.length by omega]; exact bP_end L (by omega)
    · by_cases he : f + r = L.length
      · rw [he]; exact bP_end L (by omega)
      · rw [bP_mid L _ (by omega) (by omega), hang_drop L f r hb (by omega), h4]; rfl
  · obtain ⟨k, rfl⟩ : ∃ k, j = f + k := ⟨j - f, by omega⟩
    rw [bP_mid L _ (by omega) (by omega), hang_drop L f k hb (by omega), h3 k (by omega) (by omega)]; rfl

/-- the next boundary, the one before -/
def IsNext (L : List Int) (m r : Nat) : Prop := m < r ∧ r ≤ L.length ∧ bP L r = true ∧ ∀ j, m < j → j < r → bP L j = false
def IsPrev (L : List Int) (m r : Nat) : Prop := r < m ∧ bP L r = true ∧ ∀ j, r < j → j < m → bP L j = false
def NextV (L : List Int) (i : Int) (r : Nat) : Prop := (i < 0 → r = 0) ∧ ((L.length : Int) ≤ i → r = L.length) ∧ (∀ m : Nat, i = m → m < L.length → IsNext L m r)
def PrevV (L : List Int) (i : Int) (r : Nat) : Prop := ((L.length : Int) < i → r = L.length) ∧ (i ≤ 0 → r = 0) ∧ (∀ m : Nat, i = m → 0 < m → m ≤ L.length → IsPrev L m r)
theorem IsNext.unique {L : List Int} {m r s : Nat} (h : IsNext L m r) (k : IsNext L m s) : r = s := by
  obtain ⟨h1, h2, h3, h4⟩ := h
  obtain ⟨k1, k2, k3, k4⟩ := k
  rcases Nat.lt_trichotomy r s with hl | hl | hl
  · rw [k4 r h1 hl] at h3; cases h3
  · exact hl
  · rw [h4 s k1 hl] at k3; cases k3
theorem IsPrev.unique {L : List Int} {m r s : Nat} (h : IsPrev L m r) (k : IsPrev L m s) : r = s := by
  obtain ⟨h1, h3, h4⟩ := h
  obtain ⟨k1, k3, k4⟩ := k
  rcases Nat.lt_trichotomy r s with hl | hl | hl
  · rw [h4 s hl k1] at k3; cases k3
  · exact hl
  · rw [k4 r hl h1] at h3; cases h3
theorem NextV.unique {L : List Int} {i : Int} {r s : Nat} (h : NextV L i r) (k : NextV L i s) : r = s := by
  by_cases h1 : i < 0
  · rw [h.1 h1, k.1 h1]
  by_cases h2 : (L.length : Int) ≤ i
  · rw [h.2.1 h2, k.2.1 h2]
  exact (h.2.2 i.toNat (by omega) (by omega)).unique (k.2.2 i.toNat (by omega) (by omega))
theorem PrevV.unique {L : List Int} {i : Int} {r s : Nat} (h : PrevV L i r) (k : PrevV L i s) : r = s := by
  by_cases h1 : (L.length : Int) < i
  · rw [h.1 h1, k.1 h1]
  by_cases h2 : i ≤ 0
  · rw [h.2.1 h2, k.2.1 h2]
  exact (h.2.2 i.toNat (by omega) (by omega) (by omega)).unique (k.2.2 i.toNat (by omega) (by omega) (by omega))
theorem NextV.le {L : List Int} {i : Int} {r : Nat} (h : NextV L i r) : r ≤ L.length := by
  by_cases h1 : i < 0
  · rw [h.1 h1]; omega
  by_cases h2 : (L.length : Int) ≤ i
  · rw [h.2.1 h2]; exact Nat.le_refl _
  exact (h.2.2 i.toNat (by omega) (by omega)).2.1

/-- a list's element that is the first above i, none before it -/
theorem next_of (L : List Int) (i : Int) (k : Nat) (hk : k < (bnds L).length) (hi : i < (bnds L)[k]) (hb : ∀ j (hj : j < k), ((bnds L)[j]'(by omega) : Int) ≤ i) : NextV L i (bnds L)[k] := by
  have hm := mem_bnds.1 (List.getElem_mem hk)
  refine ⟨fun h => ?_, fun h => ?_, fun m hm2 hml => ⟨by omega, hm.1, hm.2, fun j hj1 hj2 => ?_⟩⟩
  · -- all before k are at most i, so that k is the first, and the first is 0
    rcases Nat.eq_zero_or_pos k with rfl | hk0
    · by_cases he : (bnds L)[0] = 0
      · exact he
      · exfalso
        have h0 : 0 ∈ bnds L := mem_bnds.2 ⟨by omega, bP_zero L (by
          rcases Nat.eq_zero_or_pos L.length with h0 | h0
          · have := hm.2; rw [bP_nil L h0] at this; cases this
          · exact h0)⟩
        obtain ⟨q, hq, he2⟩ := List.getElem_of_mem h0
        rcases Nat.eq_zero_or_pos q with rfl | hq0
        · exact he he2
        · have := Bs_lt L _ 0 q hq0 hq
          unfold bnds at he2
          omega
    · have := hb 0 hk0
      omega
  · have := hm.1; omega
  · cases hj : bP L j with
    | false => rfl
    | true =>
      exfalso
      obtain ⟨q, hq, he⟩ := List.getElem_of_mem (mem_bnds.2 ⟨by omega, hj⟩ : j ∈ bnds L)
      by_cases hqk : q < k
      · have := hb q hqk
        omega
      · by_cases hqe : q = k
        · subst hqe; omega
        · have h2 : (bnds L)[k] < (bnds L)[q] := Bs_lt L _ k q (by omega) hq
          omega
theorem next_none (L : List Int) (i : Int) (hb : ∀ j (hj : j < (bnds L).length), ((bnds L)[j] : Int) ≤ i) : NextV L i L.length := by
  have hall : ∀ j ∈ bnds L, (j : Int) ≤ i := fun j hj => by
    obtain ⟨q, hq, he⟩ := List.getElem_of_mem hj
    have := hb q hq
    omega
  refine ⟨fun h => ?_, fun h => rfl, fun m hm hml => ?_⟩
  · rcases Nat.eq_zero_or_pos L.length with h0 | h0
    · exact h0
    · have := hall 0 (mem_bnds.2 ⟨by omega, bP_zero L h0⟩)
      omega
  · have := hall L.length (mem_bnds.2 ⟨Nat.le_refl _, bP_end L (by omega)⟩)
    omega
theorem prev_of (L : List Int) (i : Int) (k : Nat) (hk : k < (bnds L).length) (hi : ((bnds L)[k] : Int) < i) (hb : ∀ j (hj : j < (bnds L).length), k < j → i ≤ ((bnds L)[j] : Int)) : PrevV L i (bnds L)[k] := by
  have hm := mem_bnds.1 (List.getElem_mem hk)
  refine ⟨fun h => ?_, fun h => by omega, fun m hm2 h0 hml => ⟨by omega, hm.2, fun j hj1 hj2 => ?_⟩⟩
  · have hn : 0 < L.length := by
      rcases Nat.eq_zero_or_pos L.length with h0 | h0
      · have := hm.2; rw [bP_nil L h0] at this; cases this
      · exact h0
    obtain ⟨q, hq, he⟩ := List.getElem_of_mem (mem_bnds.2 ⟨Nat.le_refl _, bP_end L hn⟩)
    by_cases hqk : k < q
    · have := hb q hq hqk
      omega
    · by_cases hqe : q = k
      · subst hqe; exact he
      · have h2 : (bnds L)[q] < (bnds L)[k] := Bs_lt L _ q k (by omega) hk
        have := hm.1
        omega
  · cases hj : bP L j with
    | false => rfl
    | true =>
      exfalso
      obtain ⟨q, hq, he⟩ := List.getElem_of_mem (mem_bnds.2 ⟨by omega, hj⟩ : j ∈ bnds L)
      by_cases hqk : k < q
      · have := hb q hq hqk
        omega
      · by_cases hqe : q = k
        · subst hqe; omega
        · have h2 : (bnds L)[q] < (bnds L)[k] := Bs_lt L _ q k (by omega) hk
          omega
theorem prev_none (L : List Int) (i : Int) (hb : ∀ j (hj : j < (bnds L).length), i ≤ ((bnds L)[j] : Int)) : PrevV L i 0 := by
  have hall : ∀ j ∈ bnds L, i ≤ (j : Int) := fun j hj => by
    obtain ⟨q, hq, he⟩ := List.getElem_of_mem hj
    have := hb q hq
    omega
  refine ⟨fun h => ?_, fun h => rfl, fun m hm h0 hml => ?_⟩
  · rcases Nat.eq_zero_or_pos L.length with h0 | h0
    · exact h0.symm
    · have := hall L.length (mem_bnds.2 ⟨Nat.le_refl _, bP_end L h0⟩)
      omega
  · have := hall 0 (mem_bnds.2 ⟨by omega, bP_zero L (by omega)⟩)
    omega

/-- the window -/
def WinV (L : List Int) (i a b : Int) : Prop := (¬ (0 ≤ i ∧ i ≤ L.length) → a = 0 ∧ b = 0) ∧
  ∀ m : Nat, i = m → m ≤ L.length → a = m ∧ ∃ r : Nat, Runs (fun a => a == 6) (L.drop m) r ∧ (0 < r → b = m + r) ∧ (r = 0 → ∃ s : Nat, Runs attB (L.drop m) s ∧ b = m + s)
theorem WinV.unique {L : List Int} {i a b c d : Int} (h : WinV L i a b) (k : WinV L i c d) : a = c ∧ b = d := by
  by_cases hi : 0 ≤ i ∧ i ≤ L.length
  · obtain ⟨m, rfl⟩ : ∃ m : Nat, i = m := ⟨i.toNat, by omega⟩
    obtain ⟨h1, r, h2, h3, h4⟩ := h.2 m rfl (by omega)
    obtain ⟨k1, s, k2, k3, k4⟩ := k.2 m rfl (by omega)
    have hrs := h2.unique k2
    subst hrs
    refine ⟨h1.trans k1.symm, ?_⟩
    rcases Nat.eq_zero_or_pos r with h0 | h0
    · obtain ⟨p, h5, h6⟩ := h4 h0
      obtain ⟨q, k5, k6⟩ := k4 h0
      have hpq := h5.unique k5
      subst hpq
      exact h6.trans k6.symm
    · exact (h3 h0).trans (k3 h0).symm
  · obtain ⟨h1, h2⟩ := h.1 hi
    obtain ⟨k1, k2⟩ := k.1 hi
    exact ⟨h1.trans k1.symm, h2.trans k2.symm⟩
end Go.Proofs.YtnpcakeagpbgiaaGreat

/-
  Where a boundary stands in the list of all, the one behind it and the one before it; neighbours. No condition.
-/
set_option linter.unusedVariables false
namespace Go.Proofs.YtnpcakeagpbgiaaGreat

theorem Bs_prefix (L : List Int) (m : Nat) : ∀ k, ∃ r, Bs L (m + k) = Bs L m ++ r
  | 0 => ⟨[], by simp⟩
  | k + 1 => by
    obtain ⟨r, h⟩ := Bs_prefix L m k
    rw [← Nat.add_assoc, Bs_succ, h]
    exact ⟨_, List.append_assoc _ _ _⟩
theorem at_get (L : List Int) (i : Nat) (hi : i ≤ L.length) (hb : bP L i = true) : (bnds L)[(Bs L i).length]? = some i := by
  obtain ⟨r, h⟩ := Bs_prefix L (i + 1) (L.length - i)
  unfold bnds
  rw [show L.length + 1 = i + 1 + (L.length - i) by omega, h, Bs_yes L i hb]
  simp
theorem at_not (L : List Int) (i : Nat) (hb : bP L i = false) (k y : Nat) (h : (bnds L)[k]? = some y) : y ≠ i := by
  intro e
  subst e
  have := (mem_bnds.1 (List.mem_of_getElem? h)).2
  rw [hb] at this; cases this
theorem Bs_len_yes (L : List Int) (i : Nat) (h : bP L i = true) : (Bs L (i + 1)).length = (Bs L i).length + 1 := by rw [Bs_yes L i h, List.length_append]; rfl
theorem Bs_len_no (L : List Int) (i : Nat) (h : bP L i = false) : (Bs L (i + 1)).length = (Bs L i).length := by rw [Bs_no L i h]
theorem Bs_len_pos (L : List Int) (hn : 0 < L.length) : ∀ i, 0 < i → 0 < (Bs L i).length
  | 0, h => absurd h (by omega)
  | i + 1, _ => List.length_pos_of_mem (mem_Bs.2 ⟨Nat.succ_pos _, bP_zero L hn⟩)
theorem ex_next (L : List Int) : ∀ d i, L.length = i + d + 1 → ∃ r, IsNext L i r
  | 0, i, h => ⟨i + 1, by omega, by omega, by rw [show i + 1 = L.length by omega]; exact bP_end L (by omega), fun j h1 h2 => by omega⟩
  | d + 1, i, h => by
    cases hb : bP L (i + 1) with
    | true => exact ⟨i + 1, by omega, by omega, hb, fun j h1 h2 => by omega⟩
    | false =>
      obtain ⟨r, h1, h2, h3, h4⟩ := ex_next L d (i + 1) (by omega)
      refine ⟨r, by omega, h2, h3, fun j hj1 hj2 => ?_⟩
      by_cases hj : j = i + 1
      · subst hj; exact hb
      · exact h4 j (by omega) hj2
theorem ex_prev (L : List Int) (hn : 0 < L.length) : ∀ i, 0 < i → ∃ r, IsPrev L i r
  | 0, h => absurd h (by omega)
  | k + 1, _ => by
    cases hb : bP L k with
    | true => exact ⟨k, by omega, hb, fun j h1 h2 => by omega⟩
    | false =>
      have hk : 0 < k := by
        rcases Nat.eq_zero_or_pos k with rfl | h
        · rw [bP_zero L hn] at hb; cases hb
        · exact h
      obtain ⟨r, h1, h3, h4⟩ := ex_prev L hn k hk
      refine ⟨r, by omega, h3, fun j hj1 hj2 => ?_⟩
      by_cases hj : j = k
      · subst hj; exact hb
      · exact h4 j hj1 (by omega)
theorem next_at (L : List Int) (i r : Nat) (hb : bP L i = true) (h : IsNext L i r) : (bnds L)[(Bs L i).length + 1]? = some r := by
  obtain ⟨h1, h2, h3, h4⟩ := h
  have hg := Bs_gap L (i + 1) (r - (i + 1)) (fun j hj1 hj2 => h4 j (by omega) (by omega))
  rw [show i + 1 + (r - (i + 1)) = r by omega] at hg
  have := at_get L r h2 h3
  rwa [hg, Bs_len_yes L i hb] at this
theorem prev_at (L : List Int) (i r : Nat) (hi : i ≤ L.length) (h : IsPrev L i r) : 1 ≤ (Bs L i).length ∧ (bnds L)[(Bs L i).length - 1]? = some r := by
  obtain ⟨h1, h3, h4⟩ := h
  have hg := Bs_gap L (r + 1) (i - (r + 1)) (fun j hj1 hj2 => h4 j (by omega) (by omega))
  rw [show r + 1 + (i - (r + 1)) = i by omega] at hg
  rw [hg, Bs_len_yes L r h3]
  exact ⟨by omega, by rw [Nat.add_sub_cancel]; exact at_get L r (by omega) h3⟩
theorem IsNext.val {L : List Int} {i r : Nat} (h : IsNext L i r) (hi : i < L.length) : NextV L i r :=
  ⟨fun _ => by omega, fun _ => by omega, fun m hm _ => by
    obtain rfl : i = m := by omega
    exact h⟩
theorem IsPrev.val {L : List Int} {i r : Nat} (h : IsPrev L i r) (h0 : 0 < i) (hi : i ≤ L.length) : PrevV L i r :=
  ⟨fun _ => by omega, fun _ => by omega, fun m hm _ _ => by
    obtain rfl : i = m := by omega
    exact h⟩
/-- the last of all is the text's length -/
theorem bnds_last (L : List Int) (hn : 0 < L.length) : (bnds L)[(bnds L).length - 1]? = some L.length := by
  have e : bnds L = Bs L L.length ++ [L.length] := by unfold bnds; exact Bs_yes L _ (bP_end L hn)
  rw [e]
  simp
theorem bnds_zero (L : List Int) (hn : 0 < L.length) : (bnds L)[0]? = some 0 := at_get L 0 (by omega) (bP_zero L hn)
theorem cuts_get (L : List Int) (k : Nat) (h : k < (cutsL L).length) : ∃ x y, (cutsL L)[k] = (x, y) ∧ (bnds L)[k]? = some x ∧ (bnds L)[k + 1]? = some y ∧ x < y := by
  have hl : (cutsL L).length = (bnds L).length - 1 := pairs_len _
  have h2 : k + 1 < (bnds L).length := by omega
  refine ⟨(bnds L)[k], (bnds L)[k + 1], pairs_get (bnds L) k h2, List.getElem?_eq_getElem _, List.getElem?_eq_getElem _, ?_⟩
  exact Bs_lt L _ k (k + 1) (by omega) h2
theorem cuts_get' (L : List Int) (k : Nat) (p : Nat × Nat) (h : (cutsL L)[k]? = some p) : (bnds L)[k]? = some p.1 ∧ (bnds L)[k + 1]? = some p.2 ∧ p.1 < p.2 := by
  obtain ⟨h1, h2⟩ := List.getElem?_eq_some_iff.1 h
  obtain ⟨x, y, h3, h4, h5, h6⟩ := cuts_get L k h1
  have e : p = (x, y) := h2.symm.trans h3
  subst e
  exact ⟨h4, h5, h6⟩
end Go.Proofs.YtnpcakeagpbgiaaGreat
