/-
  Clusters over lists of classes: where two code points hang together, boundaries, what the rules look at. No program in this text. No condition.
-/
import Derived.Test.YtllmafbpjmclbaaTab
set_option linter.unusedVariables false
namespace Go.Proofs.Ytllmafbpjmclbaa

/-- the Cluster class of a code point; of a text -/
def cl (r : Int) : Int := (ofP r).cl
def cls (t : List Int) : List Int := t.map cl
theorem cls_len (t : List Int) : (cls t).length = t.length := List.length_map ..
/-- the class at a place -/
def g (L : List Int) (i : Nat) : Int := L.getD i 0
theorem g_cls (t : List Int) (i : Nat) (h : i < t.length) : g (cls t) i = cl t[i] := by
  unfold g cls
  rw [List.getD_eq_getElem?_getD, List.getElem?_map, List.getElem?_eq_getElem h]; rfl
theorem g_drop (L : List Int) (f k : Nat) : g (L.drop f) k = g L (f + k) := by
  unfold g
  rw [List.getD_eq_getElem?_getD, List.getD_eq_getElem?_getD, List.getElem?_drop]
theorem g_left (p q : List Int) (i : Nat) (h : i < p.length) : g (p ++ q) i = g p i := by
  unfold g
  rw [List.getD_eq_getElem?_getD, List.getD_eq_getElem?_getD, List.getElem?_append_left h]

def stopB (a : Int) : Bool := a == 1 || a == 2 || a == 3
def attB (a : Int) : Bool := a == 4 || a == 5
def syll (a b : Int) : Bool :=
  if a = 9 then b == 9 || b == 10 || b == 12 || b == 13
  else if a = 12 ∨ a = 10 then b == 10 || b == 11
  else if a = 13 ∨ a = 11 then b == 11
  else false
/-- ends in a Picture and any number of Extends, looking at the first k classes -/
def pic (L : List Int) : Nat → Bool
  | 0 => false
  | k + 1 => if g L k = 4 then pic L k else g L k == 14
/-- how many Regionals stand right before place k -/
def regs (L : List Int) : Nat → Nat
  | 0 => 0
  | k + 1 => if g L k = 6 then regs L k + 1 else 0
/-- the document's rules -/
def hangF (a b : Int) (p q : Bool) : Bool :=
  (a == 1 && b == 2 || syll a b) || (!stopB a && (b == 4 || b == 5 || b == 8)) || (a == 7 && !stopB b) || (a == 5 && b == 14 && p) || (a == 6 && b == 6 && q)
def hang (L : List Int) (i : Nat) : Bool := hangF (g L (i - 1)) (g L i) (pic L (i - 1)) (regs L i % 2 == 1)
/-- the program's order of them -/
def joinF (a b : Int) (p q : Bool) : Bool :=
  if stopB a then a == 1 && b == 2
  else if attB b || b == 8 then true
  else if a = 7 then !stopB b
  else if a = 5 then b == 14 && p
  else if a = 6 then b == 6 && q
  else syll a b
theorem join_hang (a b : Int) (p q : Bool) : joinF a b p q = hangF a b p q := by
  have hb : (b == 4 || b == 5 || b == 8) = (attB b || b == 8) := rfl
  unfold joinF hangF
  rw [hb]
  generalize hx : (attB b || b == 8) = x
  by_cases h1 : a = 1
  · subst h1; simp [stopB, syll]
  by_cases h2 : a = 2
  · subst h2; simp [stopB, syll]
  by_cases h3 : a = 3
  · subst h3; simp [stopB, syll]
  have hs : stopB a = false := by simp [stopB, h1, h2, h3]
  rw [hs]
  by_cases h7 : a = 7
  · subst h7; cases x <;> simp [syll]
  by_cases h5 : a = 5
  · subst h5; cases x <;> simp [syll]
  by_cases h6 : a = 6
  · subst h6; cases x <;> simp [syll]
  have e1 : (a == 1) = false := beq_eq_false_iff_ne.2 h1
  have e5 : (a == 5) = false := beq_eq_false_iff_ne.2 h5
  have e6 : (a == 6) = false := beq_eq_false_iff_ne.2 h6
  have e7 : (a == 7) = false := beq_eq_false_iff_ne.2 h7
  cases x <;> simp [h7, h5, h6, e1, e5, e6, e7]

/-- all of the first k are Extends -/
def allx (L : List Int) : Nat → Bool
  | 0 => true
  | k + 1 => g L k == 4 && allx L k
theorem pic_drop (L : List Int) (f : Nat) : ∀ k, pic L (f + k) = (pic (L.drop f) k || (allx (L.drop f) k && pic L f))
  | 0 => by simp [pic, allx]
  | k + 1 => by
    rw [← Nat.add_assoc, pic, pic, allx, g_drop, pic_drop L f k]
    by_cases h : g L (f + k) = 4 <;> simp [h]
theorem regs_drop (L : List Int) (f : Nat) : ∀ k, regs L (f + k) = regs (L.drop f) k + (if regs (L.drop f) k = k then regs L f else 0)
  | 0 => by simp [regs]
  | k + 1 => by
    rw [← Nat.add_assoc, regs, regs, g_drop, regs_drop L f k]
    by_cases h : g L (f + k) = 6 <;> simp [h]
    omega
theorem regs_le (L : List Int) : ∀ k, regs L k ≤ k
  | 0 => Nat.le_refl _
  | k + 1 => by
    rw [regs]
    have := regs_le L k
    split <;> omega
theorem allx_at (L : List Int) : ∀ k, allx L k = true → ∀ j, j < k → g L j = 4
  | 0, _, j, h => absurd h (by omega)
  | k + 1, h, j, hj => by
    rw [allx, Bool.and_eq_true, beq_iff_eq] at h
    rcases Nat.lt_or_ge j k with h2 | h2
    · exact allx_at L k h.2 j h2
    · obtain rfl : j = k := by omega
      exact h.1
theorem regs_at (L : List Int) : ∀ k, regs L k = k → ∀ j, j < k → g L j = 6
  | 0, _, j, h => absurd h (by omega)
  | k + 1, h, j, hj => by
    rw [regs] at h
    have hl := regs_le L k
    by_cases h6 : g L k = 6
    · rw [if_pos h6] at h
      rcases Nat.lt_or_ge j k with h2 | h2
      · exact regs_at L k (by omega) j h2
      · obtain rfl : j = k := by omega
        exact h6
    · rw [if_neg h6] at h; omega
theorem pic_left (p q : List Int) : ∀ k, k ≤ p.length → pic (p ++ q) k = pic p k
  | 0, _ => rfl
  | k + 1, h => by rw [pic, pic, g_left _ _ _ (by omega), pic_left p q k (by omega)]
theorem regs_left (p q : List Int) : ∀ k, k ≤ p.length → regs (p ++ q) k = regs p k
  | 0, _ => rfl
  | k + 1, h => by rw [regs, regs, g_left _ _ _ (by omega), regs_left p q k (by omega)]
theorem hang_left (p q : List Int) (i : Nat) (h : i < p.length) : hang (p ++ q) i = hang p i := by
  unfold hang
  rw [g_left _ _ _ (by omega), g_left _ _ _ h, pic_left _ _ _ (by omega), regs_left _ _ _ (by omega)]

/-- what stands before a place does not matter behind it, if an attached run from there and a run of Regionals from there are passed -/
theorem hang_behind (L : List Int) (f k : Nat) (hk : 0 < k) (hp : g L (f + k - 1) = 5 → allx (L.drop f) (k - 1) = true → pic L f = false) (hr : regs (L.drop f) k = k → g L (f + k) = 6 → regs L f % 2 = 0) :
    hang L (f + k) = hang (L.drop f) k := by
  unfold hang
  rw [g_drop, g_drop, show f + k - 1 = f + (k - 1) by omega, pic_drop L f (k - 1)]
  rw [show f + k - 1 = f + (k - 1) by omega] at hp
  generalize ha : g L (f + (k - 1)) = a at hp ⊢
  generalize hb : g L (f + k) = b at hr ⊢
  by_cases h5 : a = 5
  · have h6 : ¬ a = 6 := by omega
    have e : (pic (L.drop f) (k - 1) || (allx (L.drop f) (k - 1) && pic L f)) = pic (L.drop f) (k - 1) := by
      cases hx : allx (L.drop f) (k - 1) with
      | false => simp
      | true => rw [hp h5 hx]; simp
    rw [e]
    have e6 : (a == 6) = false := beq_eq_false_iff_ne.2 h6
    unfold hangF
    rw [e6]
    simp only [Bool.false_and]
  · by_cases h6 : a = 6 ∧ b = 6
    · have e : (regs L (f + k) % 2 == 1) = (regs (L.drop f) k % 2 == 1) := by
        rw [regs_drop L f k]
        by_cases hx : regs (L.drop f) k = k
        · have := hr hx h6.2
          rw [if_pos hx, Nat.add_mod, this, Nat.add_zero, Nat.mod_mod]
        · rw [if_neg hx, Nat.add_zero]
      rw [e]
      have e5 : (a == 5) = false := beq_eq_false_iff_ne.2 h5
      unfold hangF
      rw [e5]
      simp only [Bool.false_and]
    · have h6' : (a == 6 && b == 6) = false := by
        rw [Bool.and_eq_false_iff, beq_eq_false_iff_ne, beq_eq_false_iff_ne]
        by_cases h : a = 6
        · exact .inr (fun hh => h6 ⟨h, hh⟩)
        · exact .inl h
      have h5' : (a == 5) = false := by simp [h5]
      unfold hangF
      rw [h6', h5']
      simp
/-- behind a boundary nothing before it matters -/
theorem hang_drop (L : List Int) (f k : Nat) (hf : f = 0 ∨ hang L f = false) (hk : 0 < k) : hang L (f + k) = hang (L.drop f) k := by
  rcases hf with rfl | hf
  · rw [Nat.zero_add, List.drop_zero]
  by_cases hf0 : f = 0
  · subst hf0; rw [Nat.zero_add, List.drop_zero]
  obtain ⟨m, rfl⟩ : ∃ m, f = m + 1 := ⟨f - 1, by omega⟩
  unfold hang hangF at hf
  simp only [Nat.add_sub_cancel, Bool.or_eq_false_iff] at hf
  obtain ⟨⟨⟨⟨h1, h2⟩, h3⟩, h4⟩, h5⟩ := hf
  apply hang_behind L (m + 1) k hk
  · intro ha hx
    -- the place itself is attached, so that a stop stands before it
    have hatt : g L (m + 1) = 4 ∨ g L (m + 1) = 5 := by
      by_cases hk1 : k = 1
      · subst hk1; right; exact ha
      · left
        have := allx_at _ _ hx 0 (by omega)
        rwa [g_drop] at this
    have hst : stopB (g L m) = true := by
      rcases hatt with h | h
      all_goals
        rw [h] at h2
        cases hs : stopB (g L m)
        · rw [hs] at h2; simp at h2
        · rfl
    unfold stopB at hst
    simp only [Bool.or_eq_true, beq_iff_eq] at hst
    rw [pic, if_neg (by omega)]
    rw [beq_eq_false_iff_ne]
    omega
  · intro hx _
    have h6 : g L (m + 1) = 6 := by
      have := regs_at _ _ hx 0 hk
      rwa [g_drop] at this
    rw [h6] at h5
    simp only [beq_self_eq_true, Bool.and_true] at h5
    by_cases hm : g L m = 6
    · rw [hm] at h5
      simp only [beq_self_eq_true, Bool.true_and] at h5
      rw [beq_eq_false_iff_ne] at h5
      omega
    · rw [regs, if_neg hm]
end Go.Proofs.Ytllmafbpjmclbaa
