/-
  Plain mathematics of a stable sort by merging in place, further: insertion, a merge's halves, blocks. No condition; no program text.
-/
import Derived.Test.YtnpcakeagpbgiaaGreatStm
set_option linter.unusedVariables false
set_option linter.unusedSimpArgs false
namespace Go.Proofs.YtnpcakeagpbgiaaGreat

section
variable {α : Type} {key : α → Int}
/-- sorted from a to i but for the place j, whose element is no greater than those behind it -/
def InsAt (key : α → Int) (D : List α) (a i j : Nat) : Prop := ∀ (p q : Nat) (x y : α), a ≤ p → p < q → q ≤ i → q ≠ j → D[p]? = some x → D[q]? = some y → key x ≤ key y
theorem InsAt.start {D : List α} {a i : Nat} (h : SortedOn key D a i) : InsAt key D a i i := fun p q x y h1 h2 h3 h4 hx hy => h p q x y h1 h2 (by omega) hx hy
theorem InsAt.front {D : List α} {a i : Nat} (h : InsAt key D a i a) : SortedOn key D a (i + 1) := fun p q x y h1 h2 h3 hx hy => h p q x y h1 h2 (by omega) (by omega) hx hy
theorem InsAt.stop {D : List α} {a i j : Nat} (h : InsAt key D a i j) (hj : a < j) (hji : j ≤ i) {x y : α} (hx : D[j]? = some x) (hy : D[j - 1]? = some y) (hn : ¬ key x < key y) : SortedOn key D a (i + 1) := fun p q u v h1 h2 h3 hu hv => by
  by_cases hq : q = j
  · subst hq
    rw [hx] at hv
    cases hv
    by_cases hp : p = q - 1
    · subst hp
      rw [hy] at hu
      cases hu
      omega
    · have := h p (q - 1) u y h1 (by omega) (by omega) (by omega) hu hy
      omega
  · exact h p q u v h1 h2 (by omega) hq hu hv
theorem get_two {D : List α} {j : Nat} {x y : α} (hj : 0 < j) (hx : D[j]? = some x) (hy : D[j - 1]? = some y) (p : Nat) : ((D.set j y).set (j - 1) x)[p]? = if p = j then some y else if p = j - 1 then some x else D[p]? := by
  have hl := (List.getElem?_eq_some_iff.1 hx).1
  rw [List.getElem?_set, List.length_set]
  by_cases e1 : j - 1 = p
  · rw [if_pos e1, if_pos (by omega), if_neg (by omega), if_pos (by omega)]
  · rw [if_neg e1, List.getElem?_set]
    by_cases e2 : j = p
    · rw [if_pos e2, if_pos (by omega), if_pos (by omega)]
    · rw [if_neg e2, if_neg (by omega), if_neg (by omega)]
theorem InsAt.step {D : List α} {a i j : Nat} (h : InsAt key D a i j) (hj : a < j) (hji : j ≤ i) {x y : α} (hx : D[j]? = some x) (hy : D[j - 1]? = some y) (hlt : key x < key y) : InsAt key ((D.set j y).set (j - 1) x) a i (j - 1) := fun p q u v h1 h2 h3 h4 hu hv => by
  rw [get_two (by omega) hx hy] at hu hv
  rw [if_neg (show ¬ q = j - 1 from h4)] at hv
  by_cases q1 : q = j
  · rw [if_pos q1] at hv
    cases hv
    by_cases p1 : p = j - 1
    · rw [if_neg (by omega), if_pos p1] at hu
      cases hu
      omega
    · rw [if_neg (by omega), if_neg p1] at hu
      exact h p (j - 1) u _ h1 (by omega) (by omega) (by omega) hu hy
  · rw [if_neg q1] at hv
    by_cases p1 : p = j
    · rw [if_pos p1] at hu
      cases hu
      exact h (j - 1) q _ v (by omega) (by omega) h3 (by omega) hy hv
    · rw [if_neg p1] at hu
      by_cases p2 : p = j - 1
      · rw [if_pos p2] at hu
        cases hu
        by_cases q2 : q = j
        · omega
        · exact h j q _ v (by omega) (by omega) h3 q2 hx hv
      · rw [if_neg p2] at hu
        exact h p q u v h1 h2 h3 q1 hu hv
theorem Seg.down {D : List α} {a b j : Nat} {x y : α} (hj : a < j) (hjb : j < b) (hx : D[j]? = some x) (hy : D[j - 1]? = some y) (hlt : key x < key y) : Seg key a b D ((D.set j y).set (j - 1) x) := by
  have := Seg.swap (D := D) (i := j - 1) (x := y) (y := x) hy (by rw [show j - 1 + 1 = j by omega]; exact hx) hlt
  rw [show j - 1 + 1 = j by omega, List.set_comm _ _ (show j - 1 ≠ j by omega)] at this
  exact this.wide (by omega) (by omega)

/-! a merge -/
/-- what a merge of two sorted stretches leaves: sorted as a whole, equals in their order -/
def Mrg (key : α → Int) (a b : Nat) (D E : List α) : Prop := Seg key a b D E ∧ SortedOn key E a b
/-- the first stretch is one element, put behind those that are less -/
theorem mrg_first {D E : List α} {a b i : Nat} (hR : Rot a (a + 1) i D E) (hai : a < i) (hib : i ≤ b) (hb : b ≤ D.length) (hs : SortedOn key D (a + 1) b) {x : α} (hx : D[a]? = some x)
    (h1 : ∀ y, a + 1 < i → D[i - 1]? = some y → key y < key x) (h2 : ∀ y, i < b → D[i]? = some y → key x ≤ key y) : Mrg key a b D E := by
  have hlo : ∀ q y, a + 1 ≤ q → q < i → D[q]? = some y → key y < key x := fun q y c1 c2 hy => by
    obtain ⟨z, hz⟩ : ∃ z, D[i - 1]? = some z := ⟨_, List.getElem?_eq_getElem (by omega)⟩
    have := h1 z (by omega) hz
    by_cases e : q = i - 1
    · subst e; rw [hy] at hz; cases hz; exact this
    · have := hs q (i - 1) y z c1 (by omega) (by omega) hy hz
      omega
  have hhi : ∀ q y, i ≤ q → q < b → D[q]? = some y → key x ≤ key y := fun q y c1 c2 hy => by
    obtain ⟨z, hz⟩ : ∃ z, D[i]? = some z := ⟨_, List.getElem?_eq_getElem (by omega)⟩
    have := h2 z (by omega) hz
    by_cases e : q = i
    · subst e; rw [hy] at hz; cases hz; exact this
    · have := hs i q z y (by omega) (by omega) c2 hz hy
      omega
  refine ⟨(hR.seg (by omega) (by omega) (by omega) fun p q u v c1 c2 c3 c4 hu hv => ?_).wide (Nat.le_refl _) hib, fun p q u v c1 c2 c3 hu hv => ?_⟩
  · obtain rfl : p = a := by omega
    rw [hx] at hu; cases hu
    exact hlo q v c3 c4 hv
  · rw [hR.2] at hu hv
    by_cases p1 : p < i - 1
    · rw [if_pos (by omega)] at hu
      have hu2 := hlo _ u (by omega) (by omega) hu
      by_cases q1 : q < i - 1
      · rw [if_pos (by omega)] at hv
        exact hs _ _ u v (by omega) (by omega) (by omega) hu hv
      · by_cases q2 : q < i
        · rw [if_neg (by omega), if_pos (by omega), show q - (i - (a + 1)) = a by omega, hx] at hv
          cases hv
          omega
        · rw [if_neg (by omega), if_neg (by omega)] at hv
          have := hhi q v (by omega) c3 hv
          omega
    · by_cases p2 : p < i
      · rw [if_neg (by omega), if_pos (by omega), show p - (i - (a + 1)) = a by omega, hx] at hu
        cases hu
        rw [if_neg (by omega), if_neg (by omega)] at hv
        exact hhi q v (by omega) c3 hv
      · rw [if_neg (by omega), if_neg (by omega)] at hu hv
        exact hs p q u v (by omega) c2 c3 hu hv
/-- the second stretch is one element, put ahead of those that are greater -/
theorem mrg_last {D E : List α} {a m i : Nat} (hR : Rot i m (m + 1) D E) (hai : a ≤ i) (him : i ≤ m) (hb : m < D.length) (hs : SortedOn key D a m) {x : α} (hx : D[m]? = some x)
    (h1 : ∀ y, a < i → D[i - 1]? = some y → key y ≤ key x) (h2 : ∀ y, i < m → D[i]? = some y → key x < key y) : Mrg key a (m + 1) D E := by
  have hlo : ∀ q y, a ≤ q → q < i → D[q]? = some y → key y ≤ key x := fun q y c1 c2 hy => by
    obtain ⟨z, hz⟩ : ∃ z, D[i - 1]? = some z := ⟨_, List.getElem?_eq_getElem (by omega)⟩
    have := h1 z (by omega) hz
    by_cases e : q = i - 1
    · subst e; rw [hy] at hz; cases hz; exact this
    · have := hs q (i - 1) y z c1 (by omega) (by omega) hy hz
      omega
  have hhi : ∀ q y, i ≤ q → q < m → D[q]? = some y → key x < key y := fun q y c1 c2 hy => by
    obtain ⟨z, hz⟩ : ∃ z, D[i]? = some z := ⟨_, List.getElem?_eq_getElem (by omega)⟩
    have := h2 z (by omega) hz
    by_cases e : q = i
    · subst e; rw [hy] at hz; cases hz; exact this
    · have := hs i q z y (by omega) (by omega) c2 hz hy
      omega
  refine ⟨(hR.seg (by omega) (by omega) (by omega) fun p q u v c1 c2 c3 c4 hu hv => ?_).wide hai (Nat.le_refl _), fun p q u v c1 c2 c3 hu hv => ?_⟩
  · obtain rfl : q = m := by omega
    rw [hx] at hv; cases hv
    exact hhi p u c1 c2 hu
  · rw [hR.2] at hu hv
    by_cases p1 : p < i
    · rw [if_neg (by omega), if_neg (by omega)] at hu
      have hu2 := hlo _ u (by omega) (by omega) hu
      by_cases q1 : q < i
      · rw [if_neg (by omega), if_neg (by omega)] at hv
        exact hs _ _ u v (by omega) (by omega) (by omega) hu hv
      · by_cases q2 : q = i
        · rw [if_pos (by omega), show q + (m - i) = m by omega, hx] at hv
          cases hv
          exact hu2
        · rw [if_neg (by omega), if_pos (by omega)] at hv
          have := hhi (q - (m + 1 - m)) v (by omega) (by omega) hv
          omega
    · by_cases p2 : p = i
      · rw [if_pos (by omega), show p + (m - i) = m by omega, hx] at hu
        cases hu
        rw [if_neg (by omega), if_pos (by omega)] at hv
        have := hhi (q - (m + 1 - m)) v (by omega) (by omega) hv
        omega
      · rw [if_neg (by omega), if_pos (by omega)] at hu hv
        exact hs _ _ u v (by omega) (by omega) (by omega) hu hv
/-- where the two stretches are cut: what lies ahead of the cuts goes to the left -/
structure Cuts2 (key : α → Int) (D : List α) (a m b mid s e : Nat) : Prop where
  as : a ≤ s
  sm : s ≤ m
  me : m ≤ e
  eb : e ≤ b
  len : b ≤ D.length
  sum : s + e = mid + m
  lo : ∀ x y, a < s → e < b → D[s - 1]? = some x → D[e]? = some y → key x ≤ key y
  hi : ∀ x y, s < m → m < e → D[s]? = some x → D[e - 1]? = some y → key y < key x
theorem Cuts2.low {D : List α} {a m b mid s e : Nat} (h : Cuts2 key D a m b mid s e) (h1 : SortedOn key D a m) (h2 : SortedOn key D m b) {p q : Nat} {x y : α} (ha : a ≤ p) (hp : p < s) (hq : e ≤ q) (hb : q < b) (hx : D[p]? = some x) (hy : D[q]? = some y) : key x ≤ key y := by
  have := h.len; have := h.sm; have := h.me
  obtain ⟨u, hu⟩ : ∃ u, D[s - 1]? = some u := ⟨_, List.getElem?_eq_getElem (by omega)⟩
  obtain ⟨v, hv⟩ : ∃ v, D[e]? = some v := ⟨_, List.getElem?_eq_getElem (by omega)⟩
  have h3 := h.lo u v (by omega) (by omega) hu hv
  have h4 : key x ≤ key u := by
    by_cases c : p = s - 1
    · subst c; rw [hx] at hu; cases hu; omega
    · exact h1 p (s - 1) x u ha (by omega) (by omega) hx hu
  have h5 : key v ≤ key y := by
    by_cases c : q = e
    · subst c; rw [hy] at hv; cases hv; omega
    · exact h2 e q v y (by omega) (by omega) hb hv hy
  omega
theorem Cuts2.high {D : List α} {a m b mid s e : Nat} (h : Cuts2 key D a m b mid s e) (h1 : SortedOn key D a m) (h2 : SortedOn key D m b) {p q : Nat} {x y : α} (ha : s ≤ p) (hp : p < m) (hq : m ≤ q) (hb : q < e) (hx : D[p]? = some x) (hy : D[q]? = some y) : key y < key x := by
  have := h.len; have := h.as; have := h.eb
  obtain ⟨u, hu⟩ : ∃ u, D[s]? = some u := ⟨_, List.getElem?_eq_getElem (by omega)⟩
  obtain ⟨v, hv⟩ : ∃ v, D[e - 1]? = some v := ⟨_, List.getElem?_eq_getElem (by omega)⟩
  have h3 := h.hi u v (by omega) (by omega) hu hv
  have h4 : key u ≤ key x := by
    by_cases c : p = s
    · subst c; rw [hx] at hu; cases hu; omega
    · exact h1 s p u x (by omega) (by omega) hp hu hx
  have h5 : key y ≤ key v := by
    by_cases c : q = e - 1
    · subst c; rw [hy] at hv; cases hv; omega
    · exact h2 q (e - 1) y v hq (by omega) (by omega) hy hv
  omega
/-- behind the turn: the halves are each two sorted stretches, and the left half lies ahead of the right -/
theorem Cuts2.turned {D F : List α} {a m b mid s e : Nat} (h : Cuts2 key D a m b mid s e) (h1 : SortedOn key D a m) (h2 : SortedOn key D m b) (hF : Rot s m e D F) :
    Seg key a b D F ∧ SortedOn key F a s ∧ SortedOn key F s mid ∧ SortedOn key F mid e ∧ SortedOn key F e b ∧ (∀ p q x y, a ≤ p → p < mid → mid ≤ q → q < b → F[p]? = some x → F[q]? = some y → key x ≤ key y) := by
  have a1 := h.as; have a2 := h.sm; have a3 := h.me; have a4 := h.eb; have a5 := h.len; have a6 := h.sum
  have hw := (hF.seg h.sm h.me (by omega) fun p q x y c1 c2 c3 c4 hx hy => h.high h1 h2 c1 c2 c3 c4 hx hy).wide (a' := a) (b' := b) a1 a4
  have g1 : ∀ p x, p < s → F[p]? = some x → D[p]? = some x := fun p x hp hx => by rw [hF.2, if_neg (by omega), if_neg (by omega)] at hx; exact hx
  have g2 : ∀ p x, s ≤ p → p < mid → F[p]? = some x → D[p + (m - s)]? = some x := fun p x hp hq hx => by rw [hF.2, if_pos (by omega)] at hx; exact hx
  have g3 : ∀ p x, mid ≤ p → p < e → F[p]? = some x → D[p - (e - m)]? = some x := fun p x hp hq hx => by rw [hF.2, if_neg (by omega), if_pos (by omega)] at hx; exact hx
  have g4 : ∀ p x, e ≤ p → F[p]? = some x → D[p]? = some x := fun p x hp hx => by rw [hF.2, if_neg (by omega), if_neg (by omega)] at hx; exact hx
  refine ⟨hw, fun p q x y c1 c2 c3 hx hy => h1 p q x y c1 c2 (by omega) (g1 p x (by omega) hx) (g1 q y c3 hy), fun p q x y c1 c2 c3 hx hy => ?_, fun p q x y c1 c2 c3 hx hy => ?_, fun p q x y c1 c2 c3 hx hy => h2 p q x y (by omega) c2 c3 (g4 p x c1 hx) (g4 q y (by omega) hy), fun p q x y c1 c2 c3 c4 hx hy => ?_⟩
  · exact h2 _ _ x y (by omega) (by omega) (by omega) (g2 p x c1 (by omega) hx) (g2 q y (by omega) c3 hy)
  · exact h1 _ _ x y (by omega) (by omega) (by omega) (g3 p x c1 (by omega) hx) (g3 q y (by omega) c3 hy)
  · by_cases p1 : p < s
    · have hx := g1 p x p1 hx
      by_cases q1 : q < e
      · exact h1 p _ x y c1 (by omega) (by omega) hx (g3 q y c3 q1 hy)
      · exact h.low h1 h2 c1 p1 (by omega) c4 hx (g4 q y (by omega) hy)
    · have hx := g2 p x (by omega) c2 hx
      by_cases q1 : q < e
      · have := h.high h1 h2 (p := q - (e - m)) (q := p + (m - s)) (by omega) (by omega) (by omega) (by omega) (g3 q y c3 q1 hy) hx
        omega
      · exact h2 _ q x y (by omega) (by omega) c4 hx (g4 q y (by omega) hy)
/-- both halves merged -/
theorem mrg_both {D F G E : List α} {a mid b : Nat} (hF : Seg key a b D F) (ham : a ≤ mid) (hmb : mid ≤ b) (hx : ∀ p q x y, a ≤ p → p < mid → mid ≤ q → q < b → F[p]? = some x → F[q]? = some y → key x ≤ key y)
    (h1 : Mrg key a mid F G) (h2 : Mrg key mid b G E) : Mrg key a b D E := by
  refine ⟨(hF.trans (h1.1.wide (Nat.le_refl _) hmb)).trans (h2.1.wide ham (Nat.le_refl _)), SortedOn.join (h2.1.sorted_out h1.2 (.inl (Nat.le_refl _))) h2.2 fun p q x y c1 c2 c3 c4 e1 e2 => ?_⟩
  rw [h2.1.out p (.inl c2)] at e1
  obtain ⟨p', d1, d2, d3⟩ := h1.1.mem c1 c2 e1
  obtain ⟨q', d4, d5, d6⟩ := h2.1.mem c3 c4 e2
  rw [h1.1.out q' (.inr d4)] at d6
  exact hx p' q' x y d1 d2 d4 d5 d3 d6
theorem Mrg.none_ {D : List α} {a b : Nat} (h : SortedOn key D a b) : Mrg key a b D D := ⟨Seg.refl _ _ _, h⟩

/-! blocks -/
/-- each block of so many elements within a stretch is sorted -/
def Blk (key : α → Int) (D : List α) (z lo hi : Nat) : Prop := ∀ t, lo ≤ t * z → SortedOn key D (t * z) (min ((t + 1) * z) hi)
/-- up to u blocks of two, beyond them blocks of one -/
structure Half (key : α → Int) (D : List α) (z u n : Nat) : Prop where
  lo : ∀ t, t < u → SortedOn key D (t * (2 * z)) ((t + 1) * (2 * z))
  hi : ∀ t, 2 * u ≤ t → SortedOn key D (t * z) (min ((t + 1) * z) n)
theorem Half.start {D : List α} {z n : Nat} (h : Blk key D z 0 n) : Half key D z 0 n := ⟨fun t ht => absurd ht (by omega), fun t _ => h t (Nat.zero_le _)⟩
theorem mul_two (t z : Nat) : t * (2 * z) = 2 * t * z := by rw [Nat.mul_left_comm, Nat.mul_assoc]
theorem Half.pair {D : List α} {z u n : Nat} (h : Half key D z u n) (hn : u * (2 * z) + 2 * z ≤ n) : SortedOn key D (u * (2 * z)) (u * (2 * z) + z) ∧ SortedOn key D (u * (2 * z) + z) (u * (2 * z) + 2 * z) := by
  have h1 := h.hi (2 * u) (Nat.le_refl _)
  have h2 := h.hi (2 * u + 1) (by omega)
  have e1 : (2 * u + 1) * z = 2 * u * z + z := by rw [Nat.add_mul, Nat.one_mul]
  have e2 : (2 * u + 1 + 1) * z = 2 * u * z + 2 * z := by rw [Nat.add_mul, Nat.add_mul, Nat.one_mul]; omega
  rw [mul_two] at hn ⊢
  rw [e1, Nat.min_eq_left (by omega)] at h1
  rw [e1, e2, Nat.min_eq_left (by omega)] at h2
  exact ⟨h1, h2⟩
theorem Half.step {D E : List α} {z u n : Nat} (h : Half key D z u n) (hn : u * (2 * z) + 2 * z ≤ n) (hM : Mrg key (u * (2 * z)) (u * (2 * z) + 2 * z) D E) : Half key E z (u + 1) n := by
  refine ⟨fun t ht => ?_, fun t ht => ?_⟩
  · by_cases e : t = u
    · subst e
      rw [Nat.add_mul, Nat.one_mul]
      exact hM.2
    · have h1 := h.lo t (by omega)
      refine hM.1.sorted_out h1 (.inl (Nat.mul_le_mul_right _ (by omega)))
  · refine hM.1.sorted_out (h.hi t (by omega)) (.inr ?_)
    have := Nat.mul_le_mul_right z ht
    rw [mul_two]
    rw [show 2 * (u + 1) = 2 * u + 2 by omega, Nat.add_mul] at this
    exact this
/-- the rest of fewer than two blocks: one, or one and a part -/
theorem Half.rest {D : List α} {z u n : Nat} (h : Half key D z u n) (hn : n < u * (2 * z) + 2 * z) (hm : u * (2 * z) + z < n) : SortedOn key D (u * (2 * z)) (u * (2 * z) + z) ∧ SortedOn key D (u * (2 * z) + z) n := by
  have h1 := h.hi (2 * u) (Nat.le_refl _)
  have h2 := h.hi (2 * u + 1) (by omega)
  have e1 : (2 * u + 1) * z = 2 * u * z + z := by rw [Nat.add_mul, Nat.one_mul]
  have e2 : (2 * u + 1 + 1) * z = 2 * u * z + 2 * z := by rw [Nat.add_mul, Nat.add_mul, Nat.one_mul]; omega
  rw [mul_two] at hn hm ⊢
  rw [e1, Nat.min_eq_left (by omega)] at h1
  rw [e1, e2, Nat.min_eq_right (by omega)] at h2
  exact ⟨h1, h2⟩
theorem Half.done {D : List α} {z u n : Nat} (hz : 0 < z) (h : Half key D z u n) (hn : n < u * (2 * z) + 2 * z) (hu : SortedOn key D (u * (2 * z)) n) : Blk key D (2 * z) 0 n := fun t _ => by
  by_cases e : t < u
  · exact (h.lo t e).part (Nat.le_refl _) (Nat.min_le_left _ _)
  · by_cases e2 : t = u
    · subst e2
      exact hu.part (Nat.le_refl _) (Nat.min_le_right _ _)
    · refine fun p q x y c1 c2 c3 => ?_
      have h1 : (u + 1) * (2 * z) ≤ t * (2 * z) := Nat.mul_le_mul_right _ (by omega)
      rw [Nat.add_mul, Nat.one_mul] at h1
      omega
theorem Half.over {D : List α} {z u n : Nat} (hz : 0 < z) (h : Half key D z u n) (hn : n < u * (2 * z) + 2 * z) (hm : ¬ u * (2 * z) + z < n) : Blk key D (2 * z) 0 n := by
  refine h.done hz hn ?_
  have h1 := h.hi (2 * u) (Nat.le_refl _)
  have e1 : (2 * u + 1) * z = 2 * u * z + z := by rw [Nat.add_mul, Nat.one_mul]
  rw [mul_two] at hm ⊢
  rw [e1, Nat.min_eq_right (by omega)] at h1
  exact h1
theorem Half.last {D E : List α} {z u n : Nat} (hz : 0 < z) (h : Half key D z u n) (hn : n < u * (2 * z) + 2 * z) (hM : Mrg key (u * (2 * z)) n D E) : Blk key E (2 * z) 0 n := by
  have h2 : Half key E z u n := ⟨fun t ht => hM.1.sorted_out (h.lo t ht) (.inl (Nat.mul_le_mul_right _ (by omega))), fun t ht => by
    refine fun p q x y c1 c2 c3 hx hy => ?_
    have := Nat.mul_le_mul_right z ht
    have h3 : u * (2 * z) ≤ p := by rw [mul_two]; omega
    exact hM.2 p q x y h3 c2 (by omega) hx hy⟩
  exact h2.done hz hn hM.2
theorem Blk.all {D : List α} {z n : Nat} (h : Blk key D z 0 n) (hn : n ≤ z) : SortedOn key D 0 n := by
  have := h 0 (Nat.zero_le _)
  rw [Nat.zero_mul, Nat.zero_add, Nat.one_mul, Nat.min_eq_right hn] at this
  exact this
/-- the first u blocks are sorted -/
def Fst (key : α → Int) (D : List α) (z u : Nat) : Prop := ∀ t, t < u → SortedOn key D (t * z) ((t + 1) * z)
theorem Fst.step {D E : List α} {z u : Nat} (h : Fst key D z u) (hM : Mrg key (u * z) (u * z + z) D E) : Fst key E z (u + 1) := fun t ht => by
  by_cases e : t = u
  · subst e
    rw [Nat.add_mul, Nat.one_mul]
    exact hM.2
  · exact hM.1.sorted_out (h t (by omega)) (.inl (Nat.mul_le_mul_right _ (by omega)))
theorem Fst.done {D E : List α} {z u n : Nat} (h : Fst key D z u) (hz : 0 < z) (hn : n < u * z + z) (hM : Mrg key (u * z) n D E) : Blk key E z 0 n := fun t _ => by
  by_cases e : t < u
  · exact (hM.1.sorted_out (h t e) (.inl (Nat.mul_le_mul_right _ (by omega)))).part (Nat.le_refl _) (Nat.min_le_left _ _)
  · refine fun p q x y c1 c2 c3 hx hy => ?_
    have := Nat.mul_le_mul_right z (show u ≤ t by omega)
    exact hM.2 p q x y (by omega) c2 (by omega) hx hy
end
end Go.Proofs.YtnpcakeagpbgiaaGreat
