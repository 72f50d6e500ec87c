/-
  Plain mathematics of a stable sort by merging in place: what turns a list within a stretch and keeps, for each key, the elements of that key in their order; turning round two neighbouring stretches; merging two sorted stretches by it. No condition; no program text.
-/
import Derived.Lib.Hide
set_option linter.unusedVariables false
set_option linter.unusedSimpArgs false
namespace Go.Proofs.YtnpcakeagpbgiaaGreat

section
variable {α : Type} {key : α → Int}
/-- for each key the elements of that key are the same, in the same order -/
def StEq (key : α → Int) (L L' : List α) : Prop := ∀ r : Int, L.filter (fun x => key x == r) = L'.filter (fun x => key x == r)
theorem StEq.refl (L : List α) : StEq key L L := fun _ => rfl
theorem StEq.symm {L L' : List α} (h : StEq key L L') : StEq key L' L := fun r => (h r).symm
theorem StEq.trans {A B C : List α} (h : StEq key A B) (k : StEq key B C) : StEq key A C := fun r => (h r).trans (k r)
theorem StEq.append {A A' B B' : List α} (h : StEq key A A') (k : StEq key B B') : StEq key (A ++ B) (A' ++ B') := fun r => by rw [List.filter_append, List.filter_append, h r, k r]
theorem StEq.mem {L L' : List α} (h : StEq key L L') {x : α} (hx : x ∈ L) : x ∈ L' := by
  have h1 : x ∈ L.filter (fun y => key y == key x) := List.mem_filter.2 ⟨hx, by simp⟩
  rw [h] at h1
  exact (List.mem_filter.1 h1).1
/-- two stretches, none of whose elements share a key, turned round -/
theorem StEq.turn {X Y : List α} (h : ∀ x ∈ X, ∀ y ∈ Y, key x ≠ key y) : StEq key (X ++ Y) (Y ++ X) := fun r => by
  rw [List.filter_append, List.filter_append]
  by_cases hx : X.filter (fun x => key x == r) = []
  · rw [hx]; simp
  · have hy : Y.filter (fun x => key x == r) = [] := by
      obtain ⟨x, hx1⟩ := List.exists_mem_of_ne_nil _ hx
      obtain ⟨h1, h2⟩ := List.mem_filter.1 hx1
      rw [List.filter_eq_nil_iff]
      intro y hy hy2
      exact h x h1 y hy ((by simpa using h2 : key x = r).trans (by simpa using hy2 : key y = r).symm)
    rw [hy]; simp
/-- sorted from a to b -/
def SortedOn (key : α → Int) (D : List α) (a b : Nat) : Prop := ∀ (i j : Nat) (x y : α), a ≤ i → i < j → j < b → D[i]? = some x → D[j]? = some y → key x ≤ key y
/-- what turns within a stretch alone, and keeps the order of equals -/
structure Seg (key : α → Int) (a b : Nat) (D D' : List α) : Prop where
  len : D'.length = D.length
  out : ∀ j, j < a ∨ b ≤ j → D'[j]? = D[j]?
  st : StEq key D D'
theorem Seg.refl (a b : Nat) (D : List α) : Seg key a b D D := ⟨rfl, fun _ _ => rfl, StEq.refl _⟩
theorem Seg.trans {a b : Nat} {D E F : List α} (h : Seg key a b D E) (k : Seg key a b E F) : Seg key a b D F := ⟨k.len.trans h.len, fun j hj => (k.out j hj).trans (h.out j hj), h.st.trans k.st⟩
theorem Seg.wide {a b a' b' : Nat} {D E : List α} (h : Seg key a b D E) (ha : a' ≤ a) (hb : b ≤ b') : Seg key a' b' D E := ⟨h.len, fun j hj => h.out j (by omega), h.st⟩
theorem take_eq {D D' : List α} {a : Nat} (h : ∀ j, j < a → D'[j]? = D[j]?) : D'.take a = D.take a := by
  apply List.ext_getElem?
  intro j
  rw [List.getElem?_take, List.getElem?_take]
  split
  · exact h j (by assumption)
  · rfl
theorem drop_eq {D D' : List α} {b : Nat} (h : ∀ j, b ≤ j → D'[j]? = D[j]?) : D'.drop b = D.drop b := by
  apply List.ext_getElem?
  intro j
  rw [List.getElem?_drop, List.getElem?_drop]
  exact h _ (by omega)
theorem three (D : List α) (a b : Nat) (h : a ≤ b) : D = D.take a ++ ((D.take b).drop a ++ D.drop b) := by
  rw [← List.append_assoc]
  have : D.take a = (D.take b).take a := by rw [List.take_take, Nat.min_eq_left h]
  rw [this, List.take_append_drop, List.take_append_drop]
theorem Seg.mid {a b : Nat} {D E : List α} (h : Seg key a b D E) (hab : a ≤ b) : StEq key ((D.take b).drop a) ((E.take b).drop a) := fun r => by
  have h1 := h.st r
  have e1 : E.take a = D.take a := take_eq fun j hj => h.out j (.inl hj)
  have e2 : E.drop b = D.drop b := drop_eq fun j hj => h.out j (.inr hj)
  rw [three D a b hab, three E a b hab, e1, e2] at h1
  simp only [List.filter_append] at h1
  have h2 := List.append_cancel_left h1
  exact List.append_cancel_right h2
/-- what lies in the stretch lay there -/
theorem Seg.mem {a b : Nat} {D E : List α} (h : Seg key a b D E) {j : Nat} {x : α} (ha : a ≤ j) (hb : j < b) (hx : E[j]? = some x) : ∃ i, a ≤ i ∧ i < b ∧ D[i]? = some x := by
  have h1 : x ∈ (E.take b).drop a := by
    refine List.mem_of_getElem? (i := j - a) ?_
    rw [List.getElem?_drop, List.getElem?_take, if_pos (by omega), show a + (j - a) = j by omega]
    exact hx
  have h2 := (h.mid (by omega)).symm.mem h1
  obtain ⟨i, hi⟩ := List.getElem?_of_mem h2
  rw [List.getElem?_drop, List.getElem?_take] at hi
  split at hi
  · exact ⟨a + i, by omega, by omega, hi⟩
  · cases hi
theorem Seg.sorted_out {a b c d : Nat} {D E : List α} (h : Seg key a b D E) (hs : SortedOn key D c d) (hd : d ≤ a ∨ b ≤ c) : SortedOn key E c d := fun i j x y h1 h2 h3 hx hy =>
  hs i j x y h1 h2 h3 (by rw [← h.out i (by omega)]; exact hx) (by rw [← h.out j (by omega)]; exact hy)
theorem SortedOn.part {a b c d : Nat} {D : List α} (h : SortedOn key D a b) (hc : a ≤ c) (hd : d ≤ b) : SortedOn key D c d := fun i j x y h1 h2 h3 hx hy => h i j x y (by omega) h2 (by omega) hx hy
theorem SortedOn.small {a b : Nat} {D : List α} (h : b ≤ a + 1) : SortedOn key D a b := fun i j x y h1 h2 h3 => by omega
/-- two stretches side by side, the elements of one ahead of those of the other -/
theorem SortedOn.join {a m b : Nat} {D : List α} (h : SortedOn key D a m) (k : SortedOn key D m b) (hx : ∀ i j x y, a ≤ i → i < m → m ≤ j → j < b → D[i]? = some x → D[j]? = some y → key x ≤ key y) : SortedOn key D a b := fun i j x y h1 h2 h3 e1 e2 => by
  by_cases hj : j < m
  · exact h i j x y h1 h2 hj e1 e2
  · by_cases hi : m ≤ i
    · exact k i j x y hi h2 h3 e1 e2
    · exact hx i j x y h1 (by omega) (by omega) h3 e1 e2

/-! turning round two neighbouring stretches -/
/-- F is D with the stretches from s to m and from m to e turned round -/
def Rot (s m e : Nat) (D F : List α) : Prop := F.length = D.length ∧ ∀ p, F[p]? = if s ≤ p ∧ p < s + (e - m) then D[p + (m - s)]? else if s + (e - m) ≤ p ∧ p < e then D[p - (e - m)]? else D[p]?
theorem Rot.refl_left {m e : Nat} (D : List α) : Rot m m e D D := ⟨rfl, fun p => by
  by_cases h : m ≤ p ∧ p < m + (e - m)
  · rw [if_pos h, show p + (m - m) = p by omega]
  · rw [if_neg h, if_neg (by omega)]⟩
theorem Rot.refl_right {s m : Nat} (D : List α) : Rot s m m D D := ⟨rfl, fun p => by
  rw [if_neg (by omega)]
  split
  · rw [show p - (m - m) = p by omega]
  · rfl⟩
theorem Rot.split {s m e : Nat} {D F : List α} (h : Rot s m e D F) (hs : s ≤ m) (hm : m ≤ e) (he : e ≤ D.length) : F = D.take s ++ ((D.take e).drop m ++ ((D.take m).drop s ++ D.drop e)) := by
  apply List.ext_getElem?
  intro p
  rw [h.2 p]
  by_cases h1 : p < s
  · rw [if_neg (by omega), if_neg (by omega), List.getElem?_append_left (by simp; omega), List.getElem?_take, if_pos h1]
  · rw [List.getElem?_append_right (by simp; omega), show p - (D.take s).length = p - s by simp; omega]
    by_cases h2 : p < s + (e - m)
    · rw [if_pos (by omega), List.getElem?_append_left (by simp; omega), List.getElem?_drop, List.getElem?_take, if_pos (by omega), show m + (p - s) = p + (m - s) by omega]
    · rw [if_neg (by omega), List.getElem?_append_right (by simp; omega), show p - s - ((D.take e).drop m).length = p - s - (e - m) by simp; omega]
      by_cases h3 : p < e
      · rw [if_pos (by omega), List.getElem?_append_left (by simp; omega), List.getElem?_drop, List.getElem?_take, if_pos (by omega), show s + (p - s - (e - m)) = p - (e - m) by omega]
      · rw [if_neg (by omega), List.getElem?_append_right (by simp; omega), List.getElem?_drop, show e + (p - s - (e - m) - ((D.take m).drop s).length) = p by simp; omega]
/-- it keeps the order of equals where all of the second are less than all of the first -/
theorem Rot.seg {s m e : Nat} {D F : List α} (h : Rot s m e D F) (hs : s ≤ m) (hm : m ≤ e) (he : e ≤ D.length)
    (hlt : ∀ i j x y, s ≤ i → i < m → m ≤ j → j < e → D[i]? = some x → D[j]? = some y → key y < key x) : Seg key s e D F := by
  refine ⟨h.1, fun j hj => by rw [h.2 j, if_neg (by omega), if_neg (by omega)], ?_⟩
  rw [h.split hs hm he]
  have e1 : D = D.take s ++ ((D.take m).drop s ++ ((D.take e).drop m ++ D.drop e)) := by
    have h1 := three D s e (by omega)
    have h2 := three ((D.take e).drop s) (m - s) (e - s) (by omega)
    rw [List.take_drop, List.take_of_length_le (show ((D.take e).drop s).length ≤ e - s by simp; omega), List.drop_of_length_le (show ((D.take e).drop s).length ≤ e - s by simp; omega), List.append_nil, List.drop_drop, List.take_take] at h2
    rw [show s + (m - s) = m by omega, Nat.min_eq_left hm] at h2
    rw [h2, List.append_assoc] at h1
    exact h1
  have e2 : StEq key D (D.take s ++ ((D.take m).drop s ++ ((D.take e).drop m ++ D.drop e))) := fun r => by rw [← e1]
  refine e2.trans (StEq.append (StEq.refl _) ?_)
  rw [← List.append_assoc, ← List.append_assoc]
  refine StEq.append (StEq.turn fun x hx y hy => ?_) (StEq.refl _)
  obtain ⟨i, hi⟩ := List.getElem?_of_mem hx
  obtain ⟨j, hj⟩ := List.getElem?_of_mem hy
  rw [List.getElem?_drop, List.getElem?_take] at hi hj
  split at hi
  · split at hj
    · have := hlt (s + i) (m + j) x y (by omega) (by omega) (by omega) (by omega) hi hj
      omega
    · cases hj
  · cases hi
/-- k exchanges of places from a and from b on -/
def SwpAt (a b k : Nat) (D E : List α) : Prop := E.length = D.length ∧ ∀ p, E[p]? = if a ≤ p ∧ p < a + k then D[p - a + b]? else if b ≤ p ∧ p < b + k then D[p - b + a]? else D[p]?
theorem SwpAt.start (a b : Nat) (D : List α) : SwpAt a b 0 D D := ⟨rfl, fun p => by rw [if_neg (by omega), if_neg (by omega)]⟩
theorem SwpAt.step {a b k n : Nat} {D E : List α} (h : SwpAt a b k D E) (hk : k < n) (hab : a + n ≤ b) (hb : b + n ≤ D.length) {x y : α} (hx : E[a + k]? = some x) (hy : E[b + k]? = some y) : SwpAt a b (k + 1) D ((E.set (a + k) y).set (b + k) x) := by
  have hl := h.1
  rw [h.2, if_neg (by omega), if_neg (by omega)] at hx hy
  refine ⟨by simp [hl], fun p => ?_⟩
  rw [List.getElem?_set, List.length_set]
  by_cases e1 : b + k = p
  · rw [if_pos e1, if_pos (by omega), if_neg (by omega), if_pos (by omega), show p - b + a = a + k by omega, hx]
  · rw [if_neg e1, List.getElem?_set]
    by_cases e2 : a + k = p
    · rw [if_pos e2, if_pos (by omega), if_pos (by omega), show p - a + b = b + k by omega, hy]
    · rw [if_neg e2, h.2]
      by_cases e3 : a ≤ p ∧ p < a + k
      · rw [if_pos e3, if_pos (by omega)]
      · rw [if_neg e3]
        by_cases e4 : b ≤ p ∧ p < b + k
        · rw [if_pos e4, if_neg (by omega), if_pos (by omega)]
        · rw [if_neg e4, if_neg (by omega), if_neg (by omega)]
/-- the shorter stretch, put in its place: the second -/
theorem Rot.right {m i j : Nat} {D E F : List α} (h : Rot (m - i) m (m + j) D F) (hi : i ≤ m) (hij : j ≤ i) (k : SwpAt (m - i) m j D E) : Rot (m - (i - j)) m (m + j) E F := by
  refine ⟨h.1.trans k.1.symm, fun p => ?_⟩
  rw [h.2 p]
  by_cases c1 : m - i ≤ p ∧ p < m - i + (m + j - m)
  · rw [if_pos c1, if_neg (by omega), if_neg (by omega), k.2, if_pos (by omega)]
    congr 1; omega
  · rw [if_neg c1]
    by_cases c2 : m - i + (m + j - m) ≤ p ∧ p < m + j
    · rw [if_pos c2]
      by_cases c3 : m - (i - j) ≤ p ∧ p < m - (i - j) + (m + j - m)
      · rw [if_pos c3, k.2, if_neg (by omega), if_pos (by omega)]
        congr 1; omega
      · rw [if_neg c3, if_pos (by omega), k.2, if_neg (by omega), if_neg (by omega)]
    · rw [if_neg c2, if_neg (by omega), if_neg (by omega), k.2, if_neg (by omega), if_neg (by omega)]
/-- the first -/
theorem Rot.left {m i j : Nat} {D E F : List α} (h : Rot (m - i) m (m + j) D F) (hi : i ≤ m) (hij : i ≤ j) (k : SwpAt (m - i) (m + j - i) i D E) : Rot (m - i) m (m + (j - i)) E F := by
  refine ⟨h.1.trans k.1.symm, fun p => ?_⟩
  rw [h.2 p]
  by_cases c1 : m - i ≤ p ∧ p < m - i + (m + j - m)
  · rw [if_pos c1]
    by_cases c3 : m - i ≤ p ∧ p < m - i + (m + (j - i) - m)
    · rw [if_pos c3, k.2]
      by_cases c4 : m + j - i ≤ p + (m - (m - i)) ∧ p + (m - (m - i)) < m + j - i + i
      · omega
      · rw [if_neg (by omega), if_neg c4]
    · rw [if_neg c3]
      by_cases c5 : m - i + (m + (j - i) - m) ≤ p ∧ p < m + (j - i)
      · rw [if_pos c5, k.2, if_pos (by omega)]
        congr 1; omega
      · omega
  · rw [if_neg c1]
    by_cases c2 : m - i + (m + j - m) ≤ p ∧ p < m + j
    · rw [if_pos c2, if_neg (by omega), if_neg (by omega), k.2, if_neg (by omega), if_pos (by omega)]
      congr 1; omega
    · rw [if_neg c2, if_neg (by omega), if_neg (by omega), k.2, if_neg (by omega), if_neg (by omega)]
/-- both of one length -/
theorem Rot.even {m i : Nat} {D E F : List α} (h : Rot (m - i) m (m + i) D F) (hi : i ≤ m) (k : SwpAt (m - i) m i D E) : E = F := by
  apply List.ext_getElem?
  intro p
  rw [h.2 p, k.2 p]
  by_cases c1 : m - i ≤ p ∧ p < m - i + i
  · rw [if_pos c1, if_pos (by omega)]
    congr 1; omega
  · rw [if_neg c1]
    by_cases c2 : m ≤ p ∧ p < m + i
    · rw [if_pos c2, if_neg (by omega), if_pos (by omega)]
      congr 1; omega
    · rw [if_neg c2, if_neg (by omega), if_neg (by omega)]
theorem Rot.some_ (s m e : Nat) (hs : s ≤ m) (hm : m ≤ e) (D : List α) (he : e ≤ D.length) : ∃ F, Rot s m e D F := by
  have hl : (D.take s ++ ((D.take e).drop m ++ ((D.take m).drop s ++ D.drop e))).length = D.length := by simp; omega
  refine ⟨D.take s ++ ((D.take e).drop m ++ ((D.take m).drop s ++ D.drop e)), hl, fun p => ?_⟩
  by_cases h1 : p < s
  · rw [if_neg (by omega), if_neg (by omega), List.getElem?_append_left (by simp; omega), List.getElem?_take, if_pos h1]
  · rw [List.getElem?_append_right (by simp; omega), show p - (D.take s).length = p - s by simp; omega]
    by_cases h2 : p < s + (e - m)
    · rw [if_pos (by omega), List.getElem?_append_left (by simp; omega), List.getElem?_drop, List.getElem?_take, if_pos (by omega), show m + (p - s) = p + (m - s) by omega]
    · rw [if_neg (by omega), List.getElem?_append_right (by simp; omega), show p - s - ((D.take e).drop m).length = p - s - (e - m) by simp; omega]
      by_cases h3 : p < e
      · rw [if_pos (by omega), List.getElem?_append_left (by simp; omega), List.getElem?_drop, List.getElem?_take, if_pos (by omega), show s + (p - s - (e - m)) = p - (e - m) by omega]
      · rw [if_neg (by omega), List.getElem?_append_right (by simp; omega), List.getElem?_drop, show e + (p - s - (e - m) - ((D.take m).drop s).length) = p by simp; omega]
/-- the first element alone, one place further -/
theorem Rot.up {a k : Nat} {D E : List α} (h : Rot a (a + 1) k D E) (hk : a + 1 ≤ k) (hl : k < D.length) {x y : α} (hx : E[k - 1]? = some x) (hy : E[k]? = some y) : Rot a (a + 1) (k + 1) D ((E.set (k - 1) y).set k x) := by
  obtain ⟨h1, h2⟩ := h
  rw [h2] at hx hy
  rw [if_neg (by omega), if_neg (by omega)] at hy
  refine ⟨by simp [h1], fun p => ?_⟩
  rw [List.getElem?_set, List.length_set]
  by_cases e1 : k = p
  · rw [if_pos e1, if_pos (by omega), if_neg (by omega), if_pos (by omega), ← hx]
    by_cases c : k - 1 < a + (k - (a + 1))
    · omega
    · rw [if_neg (by omega), if_pos (by omega)]
      congr 1; omega
  · rw [if_neg e1, List.getElem?_set]
    by_cases e2 : k - 1 = p
    · rw [if_pos e2, if_pos (by omega), if_pos (by omega), ← hy]
      congr 1; omega
    · rw [if_neg e2, h2]
      by_cases c1 : a ≤ p ∧ p < a + (k - (a + 1))
      · rw [if_pos c1, if_pos (by omega)]
      · rw [if_neg c1, if_neg (by omega), if_neg (by omega), if_neg (by omega)]
/-- the last element alone, one place back -/
theorem Rot.down {k m : Nat} {D E : List α} (h : Rot k m (m + 1) D E) (hk : k ≤ m) (h0 : 0 < k) (hl : m < D.length) {x y : α} (hx : E[k]? = some x) (hy : E[k - 1]? = some y) : Rot (k - 1) m (m + 1) D ((E.set k y).set (k - 1) x) := by
  obtain ⟨h1, h2⟩ := h
  rw [h2] at hx hy
  rw [if_neg (by omega), if_neg (by omega)] at hy
  rw [if_pos (by omega)] at hx
  refine ⟨by simp [h1], fun p => ?_⟩
  rw [List.getElem?_set, List.length_set]
  by_cases e1 : k - 1 = p
  · rw [if_pos e1, if_pos (by omega), if_pos (by omega), ← hx]
    congr 1; omega
  · rw [if_neg e1, List.getElem?_set]
    by_cases e2 : k = p
    · rw [if_pos e2, if_pos (by omega), if_neg (by omega), if_pos (by omega), ← hy]
      congr 1; omega
    · rw [if_neg e2, h2]
      by_cases c1 : p < k
      · rw [if_neg (by omega), if_neg (by omega), if_neg (by omega), if_neg (by omega)]
      · by_cases c2 : p < m + 1
        · rw [if_neg (by omega), if_pos (by omega), if_neg (by omega), if_pos (by omega)]
        · rw [if_neg (by omega), if_neg (by omega), if_neg (by omega), if_neg (by omega)]
/-- two neighbours with other keys exchanged -/
theorem Seg.swap {D : List α} {i : Nat} {x y : α} (hx : D[i]? = some x) (hy : D[i + 1]? = some y) (hlt : key y < key x) : Seg key i (i + 2) D ((D.set i y).set (i + 1) x) := by
  have h1 : i + 1 < D.length := (List.getElem?_eq_some_iff.1 hy).1
  have h0 : Rot i (i + 1) (i + 1) D D := Rot.refl_right D
  have := h0.up (Nat.le_refl _) h1 (x := x) (y := y) (by rw [show i + 1 - 1 = i by omega]; exact hx) hy
  rw [show i + 1 - 1 = i by omega] at this
  refine Rot.seg this (by omega) (by omega) (by omega) fun p q u v a b c d e1 e2 => ?_
  obtain rfl : p = i := by omega
  obtain rfl : q = p + 1 := by omega
  rw [hx] at e1
  rw [hy] at e2
  cases e1; cases e2
  exact hlt
end
end Go.Proofs.YtnpcakeagpbgiaaGreat
