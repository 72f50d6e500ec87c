/-
  Plain mathematics of paint: what is painted while one part is laid on. No condition.
-/
import Derived.Test.YtojplkkmpnaibaaPaintMath
set_option linter.unusedVariables false
namespace Go.Proofs.Ytojplkkmpnaibaa

/-- in an increasing list the elements below x come first -/
theorem count_lt : ∀ (es : List Int), es.Pairwise (· < ·) → ∀ (x : Int) (j : Nat) (hj : j < es.length), (es[j] < x ↔ j < es.countP (· < x))
  | [], _, x, j, hj => by simp at hj
  | e :: es, h, x, j, hj => by
    obtain ⟨h1, h2⟩ := List.pairwise_cons.1 h
    rw [List.countP_cons]
    by_cases hx : e < x
    · rw [if_pos (by simpa using hx)]
      cases j with
      | zero => simp [hx]
      | succ j =>
        have := count_lt es h2 x j (by simpa using hj)
        simp only [List.getElem_cons_succ]
        omega
    · rw [if_neg (by simpa using hx)]
      have h0 : es.countP (· < x) = 0 := List.countP_eq_zero.2 fun a ha => by
        have := h1 a ha
        simp
        omega
      rw [h0]
      cases j with
      | zero => simp [hx]
      | succ j =>
        have hj2 : j < es.length := by simpa using hj
        have := h1 es[j] (List.getElem_mem hj2)
        simp only [List.getElem_cons_succ]
        omega
section
variable (es : List Int) (m : Nat)
def eAt (j : Nat) : Int := es.getD j 0
def DN (sfx : List Sp) (j : Nat) : Bool := decide (j < m) && cov sfx (eAt es j)
def VL (sfx : List Sp) : List Int := (List.range m).map fun j => lastVal sfx (eAt es j)
def dnM (sfx : List Sp) (p : Sp) (k0 c : Nat) (j : Nat) : Bool := DN es m sfx j || decide (k0 ≤ j ∧ j < c ∧ j < m ∧ eAt es j < p.t)
def vM (sfx : List Sp) (p : Sp) (k0 c : Nat) (j : Nat) : Int := if DN es m sfx j = true then lastVal sfx (eAt es j) else if k0 ≤ j ∧ j < c ∧ eAt es j < p.t then p.v else 0
def valsM (sfx : List Sp) (p : Sp) (k0 c : Nat) : List Int := (List.range m).map fun j => vM es m sfx p k0 c j
variable {es m} {sfx : List Sp} {p : Sp} {k0 : Nat}
theorem valsM_length (c : Nat) : (valsM es m sfx p k0 c).length = m := by simp [valsM]
theorem start_dn (j : Nat) : dnM es m sfx p k0 k0 j = DN es m sfx j := by
  unfold dnM
  rw [decide_eq_false (by omega), Bool.or_false]
theorem start_vals : valsM es m sfx p k0 k0 = VL es m sfx := by
  unfold valsM VL
  apply List.map_congr_left
  intro j hj
  have hj := List.mem_range.1 hj
  unfold vM
  split
  · rfl
  · rename_i h
    rw [if_neg (by omega)]
    unfold DN at h
    rw [lastVal_nocov]
    simpa [hj] using h
theorem skip_dn {a b : Nat} (hab : a ≤ b) (h : ∀ j, a ≤ j → j < b → dnM es m sfx p k0 a j = true) (j : Nat) : dnM es m sfx p k0 b j = dnM es m sfx p k0 a j := by
  by_cases hj : a ≤ j ∧ j < b
  · rw [h j hj.1 hj.2]
    have := h j hj.1 hj.2
    unfold dnM at this ⊢
    rw [decide_eq_false (show ¬ (k0 ≤ j ∧ j < a ∧ j < m ∧ eAt es j < p.t) by omega), Bool.or_false] at this
    rw [this, Bool.true_or]
  · unfold dnM
    congr 1
    apply decide_eq_decide.2
    omega
theorem skip_vals {a b : Nat} (hab : a ≤ b) (h : ∀ j, a ≤ j → j < b → dnM es m sfx p k0 a j = true) : valsM es m sfx p k0 b = valsM es m sfx p k0 a := by
  unfold valsM
  apply List.map_congr_left
  intro j hj
  unfold vM
  split
  · rfl
  · rename_i hd
    have hnot : ¬ (a ≤ j ∧ j < b) := fun hj2 => by
      have := h j hj2.1 hj2.2
      unfold dnM at this
      rw [decide_eq_false (show ¬ (k0 ≤ j ∧ j < a ∧ j < m ∧ eAt es j < p.t) by omega), Bool.or_false] at this
      exact hd this
    by_cases hc : k0 ≤ j ∧ j < b ∧ eAt es j < p.t
    · rw [if_pos hc, if_pos (by omega)]
    · rw [if_neg hc, if_neg (by omega)]
theorem paint_dn {c : Nat} (hk : k0 ≤ c) (hc : c < m) (ht : eAt es c < p.t) (j : Nat) : (dnM es m sfx p k0 c j || decide (j = c)) = dnM es m sfx p k0 (c + 1) j := by
  unfold dnM
  rw [Bool.or_assoc]
  congr 1
  rw [← Bool.decide_or]
  apply decide_eq_decide.2
  constructor
  · rintro (h | rfl)
    · omega
    · exact ⟨hk, by omega, hc, ht⟩
  · intro h
    by_cases hj : j = c
    · exact .inr hj
    · exact .inl (by omega)
theorem paint_vals {c : Nat} (hk : k0 ≤ c) (hc : c < m) (ht : eAt es c < p.t) (hd : dnM es m sfx p k0 c c = false) : (valsM es m sfx p k0 c).set c p.v = valsM es m sfx p k0 (c + 1) := by
  have hd' : DN es m sfx c = false := by
    unfold dnM at hd
    exact (Bool.or_eq_false_iff.1 hd).1
  apply List.ext_getElem
  · simp [valsM]
  · intro j h1 h2
    have hj : j < m := by simpa [valsM] using h2
    rw [List.getElem_set]
    simp only [valsM, List.getElem_map, List.getElem_range]
    by_cases hjc : c = j
    · subst hjc
      rw [if_pos rfl]
      unfold vM
      rw [if_neg (by rw [hd']; simp), if_pos ⟨hk, by omega, ht⟩]
    · rw [if_neg hjc]
      unfold vM
      split
      · rfl
      · by_cases hq : k0 ≤ j ∧ j < c ∧ eAt es j < p.t
        · rw [if_pos hq, if_pos (by omega)]
        · rw [if_neg hq, if_neg (by omega)]
theorem end_dn {c : Nat} (hs : ∀ j, j ≤ m → (k0 ≤ j ↔ p.f ≤ eAt es j)) (hmono : ∀ i j, i < j → j ≤ m → eAt es i < eAt es j) (hc : c ≤ m) (ht : p.t ≤ eAt es c) (j : Nat) : dnM es m sfx p k0 c j = DN es m (p :: sfx) j := by
  unfold dnM DN
  rw [cov_cons]
  by_cases hj : j < m
  · rw [decide_eq_true hj, Bool.true_and, Bool.true_and]
    congr 1
    unfold covers
    apply decide_eq_decide.2
    have h1 := hs j (by omega)
    constructor
    · intro h
      exact ⟨h1.1 h.1, h.2.2.2⟩
    · intro h
      refine ⟨h1.2 h.1, ?_, hj, h.2⟩
      rcases Nat.lt_or_ge j c with h2 | h2
      · exact h2
      · rcases Nat.eq_or_lt_of_le h2 with h3 | h3
        · subst h3; omega
        · have := hmono c j h3 (by omega)
          omega
  · rw [decide_eq_false hj, Bool.false_and, Bool.false_and, decide_eq_false (by omega)]
    rfl
theorem end_vals {c : Nat} (hs : ∀ j, j ≤ m → (k0 ≤ j ↔ p.f ≤ eAt es j)) (hmono : ∀ i j, i < j → j ≤ m → eAt es i < eAt es j) (hc : c ≤ m) (ht : p.t ≤ eAt es c) : valsM es m sfx p k0 c = VL es m (p :: sfx) := by
  unfold valsM VL
  apply List.map_congr_left
  intro j hj
  have hj := List.mem_range.1 hj
  rw [lastVal_cons]
  unfold vM DN
  rw [decide_eq_true hj, Bool.true_and]
  split
  · rfl
  · have h1 := hs j (by omega)
    unfold covers
    by_cases hq : p.f ≤ eAt es j ∧ eAt es j < p.t
    · have hpos : k0 ≤ j ∧ j < c ∧ eAt es j < p.t := by
        refine ⟨h1.2 hq.1, ?_, hq.2⟩
        rcases Nat.lt_or_ge j c with h2 | h2
        · exact h2
        · rcases Nat.eq_or_lt_of_le h2 with h3 | h3
          · subst h3; omega
          · have := hmono c j h3 (by omega)
            omega
      rw [if_pos hpos, decide_eq_true hq]
      rfl
    · have hneg : ¬ (k0 ≤ j ∧ j < c ∧ eAt es j < p.t) := fun h => hq ⟨h1.1 h.1, h.2.2⟩
      rw [if_neg hneg, decide_eq_false hq]
      rfl
end
theorem VL_nil (es : List Int) (m : Nat) : VL es m [] = List.replicate m 0 := by
  unfold VL
  apply List.ext_getElem
  · simp
  · intro j h1 h2
    simp [lastVal]
theorem DN_nil (es : List Int) (m j : Nat) : DN es m [] j = false := by simp [DN, cov]
end Go.Proofs.Ytojplkkmpnaibaa
