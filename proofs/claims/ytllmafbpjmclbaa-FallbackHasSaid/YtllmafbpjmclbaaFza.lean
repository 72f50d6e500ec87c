/-
  Plain mathematics of a stable sort by merging in place: what turns a list within a stretch and keeps, for each key, the elements of that key in their order; turning round two neighbouring stretches; merging two sorted stretches by it. No condition; no program text.
-/
import Derived.Lib.Hide
import Derived.Test.YtllmafbpjmclbaaRos
import Derived.Test.YtllmafbpjmclbaaOwn
import Derived.Test.YtllmafbpjmclbaaFont
import Derived.BigRegion
import Derived.Deep.RegionHeld3
set_option linter.unusedVariables false
set_option linter.unusedSimpArgs false
namespace Go.Proofs.Ytllmafbpjmclbaa

section
variable {α : Type} {key : α → Int}
/-- for each key the elements of that key are the same, in the same order -/
def StEq (key : α → Int) (L L' : List α) : Prop := ∀ r : Int, L.filter (fun x => key x == r) = L'.filter (fun x => key x == r)
theorem StEq.refl (L : List α) : StEq key L L := fun _ => rfl
theorem StEq.symm {L L' : List α} (h : StEq key L L') : StEq key L' L := fun r => (h r).symm
theorem StEq.trans {A B C : List α} (h : StEq key A B) (k : StEq key B C) : StEq key A C := fun r => (h r).trans (k r)
theorem StEq.append {A A' B B' : List α} (h : StEq key A A') (k : StEq key B B') : StEq key (A ++ B) (A' ++ B') := fun r => by rw [List.filter_append, List.filter_append, h r, k r]
theorem StEq.mem {L L' : List α} (h : StEq key L L') {x : α} (hx : x ∈ L) : x ∈ L' := by
  have h1 : x ∈ L.filter (fun y => key y == key x) := List.mem_filter.2 ⟨hx, by simp⟩
  rw [h] at h1
  exact (List.mem_filter.1 h1).1
/-- two stretches, none of whose elements share a key, turned round -/
theorem StEq.turn {X Y : List α} (h : ∀ x ∈ X, ∀ y ∈ Y, key x ≠ key y) : StEq key (X ++ Y) (Y ++ X) := fun r => by
  rw [List.filter_append, List.filter_append]
  by_cases hx : X.filter (fun x => key x == r) = []
  · rw [hx]; simp
  · have hy : Y.filter (fun x => key x == r) = [] := by
      obtain ⟨x, hx1⟩ := List.exists_mem_of_ne_nil _ hx
      obtain ⟨h1, h2⟩ := List.mem_filter.1 hx1
      rw [List.filter_eq_nil_iff]
      intro y hy hy2
      exact h x h1 y hy ((by simpa using h2 : key x = r).trans (by simpa using hy2 : key y = r).symm)
    rw [hy]; simp
/-- sorted from a to b -/
def SortedOn (key : α → Int) (D : List α) (a b : Nat) : Prop := ∀ (i j : Nat) (x y : α), a ≤ i → i < j → j < b → D[i]? = some x → D[j]? = some y → key x ≤ key y
/-- what turns within a stretch alone, and keeps the order of equals -/
structure Seg (key : α → Int) (a b : Nat) (D D' : List α) : Prop where
  len : D'.length = D.length
  out : ∀ j, j < a ∨ b ≤ j → D'[j]? = D[j]?
  st : StEq key D D'
theorem Seg.refl (a b : Nat) (D : List α) : Seg key a b D D := ⟨rfl, fun _ _ => rfl, StEq.refl _⟩
theorem Seg.trans {a b : Nat} {D E F : List α} (h : Seg key a b D E) (k : Seg key a b E F) : Seg key a b D F := ⟨k.len.trans h.len, fun j hj => (k.out j hj).trans (h.out j hj), h.st.trans k.st⟩
theorem Seg.wide {a b a' b' : Nat} {D E : List α} (h : Seg key a b D E) (ha : a' ≤ a) (hb : b ≤ b') : Seg key a' b' D E := ⟨h.len, fun j hj => h.out j (by omega), h.st⟩
theorem take_eq {D D' : List α} {a : Nat} (h : ∀ j, j < a → D'[j]? = D[j]?) : D'.take a = D.take a := by
  apply List.ext_getElem?
  intro j
  rw [List.getElem?_take, List.getElem?_take]
  split
  · exact h j (by assumption)
  · rfl
theorem drop_eq {D D' : List α} {b : Nat} (h : ∀ j, b ≤ j → D'[j]? = D[j]?) : D'.drop b = D.drop b := by
  apply List.ext_getElem?
  intro j
  rw [List.getElem?_drop, List.getElem?_drop]
  exact h _ (by omega)
theorem three (D : List α) (a b : Nat) (h : a ≤ b) : D = D.take a ++ ((D.take b).drop a ++ D.drop b) := by
  rw [← List.append_assoc]
  have : D.take a = (D.take b).take a := by rw [List.take_take, Nat.min_eq_left h]
  rw [this, List.take_append_drop, List.take_append_drop]
theorem Seg.mid {a b : Nat} {D E : List α} (h : Seg key a b D E) (hab : a ≤ b) : StEq key ((D.take b).drop a) ((E.take b).drop a) := fun r => by
  have h1 := h.st r
  have e1 : E.take a = D.take a := take_eq fun j hj => h.out j (.inl hj)
  have e2 : E.drop b = D.drop b := drop_eq fun j hj => h.out j (.inr hj)
  rw [three D a b hab, three E a b hab, e1, e2] at h1
  simp only [List.filter_append] at h1
  have h2 := List.append_cancel_left h1
  exact List.append_cancel_right h2
/-- what lies in the stretch lay there -/
theorem Seg.mem {a b : Nat} {D E : List α} (h : Seg key a b D E) {j : Nat} {x : α} (ha : a ≤ j) (hb : j < b) (hx : E[j]? = some x) : ∃ i, a ≤ i ∧ i < b ∧ D[i]? = some x := by
  have h1 : x ∈ (E.take b).drop a := by
    refine List.mem_of_getElem? (i := j - a) ?_
    rw [List.getElem?_drop, List.getElem?_take, if_pos (by omega), show a + (j - a) = j by omega]
    exact hx
  have h2 := (h.mid (by omega)).symm.mem h1
  obtain ⟨i, hi⟩ := List.getElem?_of_mem h2
  rw [List.getElem?_drop, List.getElem?_take] at hi
  split at hi
  · exact ⟨a + i, by omega, by omega, hi⟩
  · cases hi
theorem Seg.sorted_out {a b c d : Nat} {D E : List α} (h : Seg key a b D E) (hs : SortedOn key D c d) (hd : d ≤ a ∨ b ≤ c) : SortedOn key E c d := fun i j x y h1 h2 h3 hx hy =>
  hs i j x y h1 h2 h3 (by rw [← h.out i (by omega)]; exact hx) (by rw [← h.out j (by omega)]; exact hy)
theorem SortedOn.part {a b c d : Nat} {D : List α} (h : SortedOn key D a b) (hc : a ≤ c) (hd : d ≤ b) : SortedOn key D c d := fun i j x y h1 h2 h3 hx hy => h i j x y (by omega) h2 (by omega) hx hy
theorem SortedOn.small {a b : Nat} {D : List α} (h : b ≤ a + 1) : SortedOn key D a b := fun i j x y h1 h2 h3 => by omega
/-- two stretches side by side, the elements of one ahead of those of the other -/
theorem SortedOn.join {a m b : Nat} {D : List α} (h : SortedOn key D a m) (k : SortedOn key D m b) (hx : ∀ i j x y, a ≤ i → i < m → m ≤ j → j < b → D[i]? = some x → D[j]? = some y → key x ≤ key y) : SortedOn key D a b := fun i j x y h1 h2 h3 e1 e2 => by
  by_cases hj : j < m
  · exact h i j x y h1 h2 hj e1 e2
  · by_cases hi : m ≤ i
    · exact k i j x y hi h2 h3 e1 e2
    · exact hx i j x y h1 (by omega) (by omega) h3 e1 e2

/-! turning round two neighbouring stretches -/
/-- F is D with the stretches from s to m and from m to e turned round -/
def Rot (s m e : Nat) (D F : List α) : Prop := F.length = D.length ∧ ∀ p, F[p]? = if s ≤ p ∧ p < s + (e - m) then D[p + (m - s)]? else if s + (e - m) ≤ p ∧ p < e then D[p - (e - m)]? else D[p]?
theorem Rot.refl_left {m e : Nat} (D : List α) : Rot m m e D D := ⟨rfl, fun p => by
  by_cases h : m ≤ p ∧ p < m + (e - m)
  · rw [if_pos h, show p + (m - m) = p by omega]
  · rw [if_neg h, if_neg (by omega)]⟩
theorem Rot.refl_right {s m : Nat} (D : List α) : Rot s m m D D := ⟨rfl, fun p => by
  rw [if_neg (by omega)]
  split
  · rw [show p - (m - m) = p by omega]
  · rfl⟩
theorem Rot.split {s m e : Nat} {D F : List α} (h : Rot s m e D F) (hs : s ≤ m) (hm : m ≤ e) (he : e ≤ D.length) : F = D.take s ++ ((D.take e).drop m ++ ((D.take m).drop s ++ D.drop e)) := by
  apply List.ext_getElem?
  intro p
  rw [h.2 p]
  by_cases h1 : p < s
  · rw [if_neg (by omega), if_neg (by omega), List.getElem?_append_left (by simp; omega), List.getElem?_take, if_pos h1]
  · rw [List.getElem?_append_right (by simp; omega), show p - (D.take s).length = p - s by simp; omega]
    by_cases h2 : p < s + (e - m)
    · rw [if_pos (by omega), List.getElem?_append_left (by simp; omega), List.getElem?_drop, List.getElem?_take, if_pos (by omega), show m + (p - s) = p + (m - s) by omega]
    · rw [if_neg (by omega), List.getElem?_append_right (by simp; omega), show p - s - ((D.take e).drop m).length = p - s - (e - m) by simp; omega]
      by_cases h3 : p < e
      · rw [if_pos (by omega), List.getElem?_append_left (by simp; omega), List.getElem?_drop, List.getElem?_take, if_pos (by omega), show s + (p - s - (e - m)) = p - (e - m) by omega]
      · rw [if_neg (by omega), List.getElem?_append_right (by simp; omega), List.getElem?_drop, show e + (p - s - (e - m) - ((D.take m).drop s).length) = p by simp; omega]
/-- it keeps the order of equals where all of the second are less than all of the first -/
theorem Rot.seg {s m e : Nat} {D F : List α} (h : Rot s m e D F) (hs : s ≤ m) (hm : m ≤ e) (he : e ≤ D.length)
    (hlt : ∀ i j x y, s ≤ i → i < m → m ≤ j → j < e → D[i]? = some x → D[j]? = some y → key y < key x) : Seg key s e D F := by
  refine ⟨h.1, fun j hj => by rw [h.2 j, if_neg (by omega), if_neg (by omega)], ?_⟩
  rw [h.split hs hm he]
  have e1 : D = D.take s ++ ((D.take m).drop s ++ ((D.take e).drop m ++ D.drop e)) := by
    have h1 := three D s e (by omega)
    have h2 := three ((D.take e).drop s) (m - s) (e - s) (by omega)
    rw [List.take_drop, List.take_of_length_le (show ((D.take e).drop s).length ≤ e - s by simp; omega), List.drop_of_length_le (show ((D.take e).drop s).length ≤ e - s by simp; omega), List.append_nil, List.drop_drop, List.take_take] at h2
    rw [show s + (m - s) = m by omega, Nat.min_eq_left hm] at h2
    rw [h2, List.append_assoc] at h1
    exact h1
  have e2 : StEq key D (D.take s ++ ((D.take m).drop s ++ ((D.take e).drop m ++ D.drop e))) := fun r => by rw [← e1]
  refine e2.trans (StEq.append (StEq.refl _) ?_)
  rw [← List.append_assoc, ← List.append_assoc]
  refine StEq.append (StEq.turn fun x hx y hy => ?_) (StEq.refl _)
  obtain ⟨i, hi⟩ := List.getElem?_of_mem hx
  obtain ⟨j, hj⟩ := List.getElem?_of_mem hy
  rw [List.getElem?_drop, List.getElem?_take] at hi hj
  split at hi
  · split at hj
    · have := hlt (s + i) (m + j) x y (by omega) (by omega) (by omega) (by omega) hi hj
      omega
    · cases hj
  · cases hi
/-- k exchanges of places from a and from b on -/
def SwpAt (a b k : Nat) (D E : List α) : Prop := E.length = D.length ∧ ∀ p, E[p]? = if a ≤ p ∧ p < a + k then D[p - a + b]? else if b ≤ p ∧ p < b + k then D[p - b + a]? else D[p]?
theorem SwpAt.start (a b : Nat) (D : List α) : SwpAt a b 0 D D := ⟨rfl, fun p => by rw [if_neg (by omega), if_neg (by omega)]⟩
theorem SwpAt.step {a b k n : Nat} {D E : List α} (h : SwpAt a b k D E) (hk : k < n) (hab : a + n ≤ b) (hb : b + n ≤ D.length) {x y : α} (hx : E[a + k]? = some x) (hy : E[b + k]? = some y) : SwpAt a b (k + 1) D ((E.set (a + k) y).set (b + k) x) := by
  have hl := h.1
  rw [h.2, if_neg (by omega), if_neg (by omega)] at hx hy
  refine ⟨by simp [hl], fun p => ?_⟩
  rw [List.getElem?_set, List.length_set]
  by_cases e1 : b + k = p
  · rw [if_pos e1, if_pos (by omega), if_neg (by omega), if_pos (by omega), show p - b + a = a + k by omega, hx]
  · rw [if_neg e1, List.getElem?_set]
    by_cases e2 : a + k = p
    · rw [if_pos e2, if_pos (by omega), if_pos (by omega), show p - a + b = b + k by omega, hy]
    · rw [if_neg e2, h.2]
      by_cases e3 : a ≤ p ∧ p < a + k
      · rw [if_pos e3, if_pos (by omega)]
      · rw [if_neg e3]
        by_cases e4 : b ≤ p ∧ p < b + k
        · rw [if_pos e4, if_neg (by omega), if_pos (by omega)]
        · rw [if_neg e4, if_neg (by omega), if_neg (by omega)]
/-- the shorter stretch, put in its place: the second -/
theorem Rot.right {m i j : Nat} {D E F : List α} (h : Rot (m - i) m (m + j) D F) (hi : i ≤ m) (hij : j ≤ i) (k : SwpAt (m - i) m j D E) : Rot (m - (i - j)) m (m + j) E F := by
  refine ⟨h.1.trans k.1.symm, fun p => ?_⟩
  rw [h.2 p]
  by_cases c1 : m - i ≤ p ∧ p < m - i + (m + j - m)
  · rw [if_pos c1, if_neg (by omega), if_neg (by omega), k.2, if_pos (by omega)]
    congr 1; omega
  · rw [if_neg c1]
    by_cases c2 : m - i + (m + j - m) ≤ p ∧ p < m + j
    · rw [if_pos c2]
      by_cases c3 : m - (i - j) ≤ p ∧ p < m - (i - j) + (m + j - m)
      · rw [if_pos c3, k.2, if_neg (by omega), if_pos (by omega)]
        congr 1; omega
      · rw [if_neg c3, if_pos (by omega), k.2, if_neg (by omega), if_neg (by omega)]
    · rw [if_neg c2, if_neg (by omega), if_neg (by omega), k.2, if_neg (by omega), if_neg (by omega)]
/-- the first -/
theorem Rot.left {m i j : Nat} {D E F : List α} (h : Rot (m - i) m (m + j) D F) (hi : i ≤ m) (hij : i ≤ j) (k : SwpAt (m - i) (m + j - i) i D E) : Rot (m - i) m (m + (j - i)) E F := by
  refine ⟨h.1.trans k.1.symm, fun p => ?_⟩
  rw [h.2 p]
  by_cases c1 : m - i ≤ p ∧ p < m - i + (m + j - m)
  · rw [if_pos c1]
    by_cases c3 : m - i ≤ p ∧ p < m - i + (m + (j - i) - m)
    · rw [if_pos c3, k.2]
      by_cases c4 : m + j - i ≤ p + (m - (m - i)) ∧ p + (m - (m - i)) < m + j - i + i
      · omega
      · rw [if_neg (by omega), if_neg c4]
    · rw [if_neg c3]
      by_cases c5 : m - i + (m + (j - i) - m) ≤ p ∧ p < m + (j - i)
      · rw [if_pos c5, k.2, if_pos (by omega)]
        congr 1; omega
      · omega
  · rw [if_neg c1]
    by_cases c2 : m - i + (m + j - m) ≤ p ∧ p < m + j
    · rw [if_pos c2, if_neg (by omega), if_neg (by omega), k.2, if_neg (by omega), if_pos (by omega)]
      congr 1; omega
    · rw [if_neg c2, if_neg (by omega), if_neg (by omega), k.2, if_neg (by omega), if_neg (by omega)]
/-- both of one length -/
theorem Rot.even {m i : Nat} {D E F : List α} (h : Rot (m - i) m (m + i) D F) (hi : i ≤ m) (k : SwpAt (m - i) m i D E) : E = F := by
  apply List.ext_getElem?
  intro p
  rw [h.2 p, k.2 p]
  by_cases c1 : m - i ≤ p ∧ p < m - i + i
  · rw [if_pos c1, if_pos (by omega)]
    congr 1; omega
  · rw [if_neg c1]
    by_cases c2 : m ≤ p ∧ p < m + i
    · rw [if_pos c2, if_neg (by omega), if_pos (by omega)]
      congr 1; omega
    · rw [if_neg c2, if_neg (by omega), if_neg (by omega)]
theorem Rot.some_ (s m e : Nat) (hs : s ≤ m) (hm : m ≤ e) (D : List α) (he : e ≤ D.length) : ∃ F, Rot s m e D F := by
  have hl : (D.take s ++ ((D.take e).drop m ++ ((D.take m).drop s ++ D.drop e))).length = D.length := by simp; omega
  refine ⟨D.take s ++ ((D.take e).drop m ++ ((D.take m).drop s ++ D.drop e)), hl, fun p => ?_⟩
  by_cases h1 : p < s
  · rw [if_neg (by omega), if_neg (by omega), List.getElem?_append_left (by simp; omega), List.getElem?_take, if_pos h1]
  · rw [List.getElem?_append_right (by simp; omega), show p - (D.take s).length = p - s by simp; omega]
    by_cases h2 : p < s + (e - m)
    · rw [if_pos (by omega), List.getElem?_append_left (by simp; omega), List.getElem?_drop, List.getElem?_take, if_pos (by omega), show m + (p - s) = p + (m - s) by omega]
    · rw [if_neg (by omega), List.getElem?_append_right (by simp; omega), show p - s - ((D.take e).drop m).length = p - s - (e - m) by simp; omega]
      by_cases h3 : p < e
      · rw [if_pos (by omega), List.getElem?_append_left (by simp; omega), List.getElem?_drop, List.getElem?_take, if_pos (by omega), show s + (p - s - (e - m)) = p - (e - m) by omega]
      · rw [if_neg (by omega), List.getElem?_append_right (by simp; omega), List.getElem?_drop, show e + (p - s - (e - m) - ((D.take m).drop s).length) = p by simp; omega]
/-- the first element alone, one place further -/
theorem Rot.up {a k : Nat} {D E : List α} (h : Rot a (a + 1) k D E) (hk : a + 1 ≤ k) (hl : k < D.length) {x y : α} (hx : E[k - 1]? = some x) (hy : E[k]? = some y) : Rot a (a + 1) (k + 1) D ((E.set (k - 1) y).set k x) := by
  obtain ⟨h1, h2⟩ := h
  rw [h2] at hx hy
  rw [if_neg (by omega), if_neg (by omega)] at hy
  refine ⟨by simp [h1], fun p => ?_⟩
  rw [List.getElem?_set, List.length_set]
  by_cases e1 : k = p
  · rw [if_pos e1, if_pos (by omega), if_neg (by omega), if_pos (by omega), ← hx]
    by_cases c : k - 1 < a + (k - (a + 1))
    · omega
    · rw [if_neg (by omega), if_pos (by omega)]
      congr 1; omega
  · rw [if_neg e1, List.getElem?_set]
    by_cases e2 : k - 1 = p
    · rw [if_pos e2, if_pos (by omega), if_pos (by omega), ← hy]
      congr 1; omega
    · rw [if_neg e2, h2]
      by_cases c1 : a ≤ p ∧ p < a + (k - (a + 1))
      · rw [if_pos c1, if_pos (by omega)]
      · rw [if_neg c1, if_neg (by omega), if_neg (by omega), if_neg (by omega)]
/-- the last element alone, one place back -/
theorem Rot.down {k m : Nat} {D E : List α} (h : Rot k m (m + 1) D E) (hk : k ≤ m) (h0 : 0 < k) (hl : m < D.length) {x y : α} (hx : E[k]? = some x) (hy : E[k - 1]? = some y) : Rot (k - 1) m (m + 1) D ((E.set k y).set (k - 1) x) := by
  obtain ⟨h1, h2⟩ := h
  rw [h2] at hx hy
  rw [if_neg (by omega), if_neg (by omega)] at hy
  rw [if_pos (by omega)] at hx
  refine ⟨by simp [h1], fun p => ?_⟩
  rw [List.getElem?_set, List.length_set]
  by_cases e1 : k - 1 = p
  · rw [if_pos e1, if_pos (by omega), if_pos (by omega), ← hx]
    congr 1; omega
  · rw [if_neg e1, List.getElem?_set]
    by_cases e2 : k = p
    · rw [if_pos e2, if_pos (by omega), if_neg (by omega), if_pos (by omega), ← hy]
      congr 1; omega
    · rw [if_neg e2, h2]
      by_cases c1 : p < k
      · rw [if_neg (by omega), if_neg (by omega), if_neg (by omega), if_neg (by omega)]
      · by_cases c2 : p < m + 1
        · rw [if_neg (by omega), if_pos (by omega), if_neg (by omega), if_pos (by omega)]
        · rw [if_neg (by omega), if_neg (by omega), if_neg (by omega), if_neg (by omega)]
/-- two neighbours with other keys exchanged -/
theorem Seg.swap {D : List α} {i : Nat} {x y : α} (hx : D[i]? = some x) (hy : D[i + 1]? = some y) (hlt : key y < key x) : Seg key i (i + 2) D ((D.set i y).set (i + 1) x) := by
  have h1 : i + 1 < D.length := (List.getElem?_eq_some_iff.1 hy).1
  have h0 : Rot i (i + 1) (i + 1) D D := Rot.refl_right D
  have := h0.up (Nat.le_refl _) h1 (x := x) (y := y) (by rw [show i + 1 - 1 = i by omega]; exact hx) hy
  rw [show i + 1 - 1 = i by omega] at this
  refine Rot.seg this (by omega) (by omega) (by omega) fun p q u v a b c d e1 e2 => ?_
  obtain rfl : p = i := by omega
  obtain rfl : q = p + 1 := by omega
  rw [hx] at e1
  rw [hy] at e2
  cases e1; cases e2
  exact hlt
end
end Go.Proofs.Ytllmafbpjmclbaa

/-
  Mappings (a code point, a glyph) in a slice of the call's own: its cells, an exchange of two of them; what turns when one block alone is written; the order by code point that layer 22 sorts by. No condition.
-/
set_option linter.unusedVariables false
set_option linter.unusedSimpArgs false
namespace Go.Proofs.Ytllmafbpjmclbaa
open Go.ChangeShapes Go.WideShapes Go.ChangeAt Go.RowKit Go.Sort

/-- of the blocks that were there g alone has turned; the count of draws has not gone down -/
structure Off (g : Nat) (w w' : World) : Prop where
  os : w'.os = w.os
  tape : w'.tape = w.tape
  output : w'.output = w.output
  size : w.heap.size ≤ w'.heap.size
  block : ∀ b, b < w.heap.size → b ≠ g → w'.heap[b]? = w.heap[b]?
  drawn : w.drawn ≤ w'.drawn
section
variable {g : Nat} {a b c : World}
theorem Off.refl (g : Nat) (w : World) : Off g w w := ⟨rfl, rfl, rfl, Nat.le_refl _, fun _ _ _ => rfl, Nat.le_refl _⟩
theorem Off.trans (h : Off g a b) (k : Off g b c) : Off g a c := ⟨k.os.trans h.os, k.tape.trans h.tape, k.output.trans h.output, Nat.le_trans h.size k.size, fun x hx hne => (k.block x (Nat.lt_of_lt_of_le hx h.size) hne).trans (h.block x hx hne), Nat.le_trans h.drawn k.drawn⟩
theorem Off.of_up (h : Up a b) : Off g a b := ⟨h.1.os, h.1.tape, h.1.output, h.1.size, fun x hx _ => h.1.block x hx, h.2⟩
theorem Off.drew (h : Off g a b) : Off g a b.drew := ⟨h.os, h.tape, h.output, h.size, h.block, Nat.le_trans h.drawn (Nat.le_succ _)⟩
theorem Off.drewN (h : Off g a b) (n : Nat) : Off g a (b.drewN n) := ⟨h.os, h.tape, h.output, h.size, h.block, Nat.le_trans h.drawn (Nat.le_add_right _ _)⟩
theorem Off.set (h : Off g a b) (j : Nat) (v : Value) : Off g a (b.setCell ⟨g, j, none⟩ v) := ⟨h.os, h.tape, h.output, by simpa using h.size, fun x hx hne => by rw [Below.heap_setCell _ _ _ _ hne]; exact h.block x hx hne, h.drawn⟩
theorem Off.below (h : Off g a b) {B : Nat} (hB : B ≤ g) (hs : B ≤ a.heap.size) : Below B a b := ⟨h.os, h.tape, h.output, h.size, fun x hx => h.block x (by omega) (by omega)⟩
/-- the block is a new one: nothing that was there has turned -/
theorem Off.up (h : Off g a b) (hg : a.heap.size ≤ g) : Up a b := ⟨h.below hg (Nat.le_refl _), h.drawn⟩
end
/-- mappings in a slice of the call's own -/
abbrev MineM (w : World) (B : Nat) (v : Value) (l : List mapS.Dat) : Prop := MineN mapS.lay 63 w B v l
/-- a store of both cells -/
def set2 (w : World) (g o : Nat) (m : mapS.Dat) : World := (w.setCell ⟨g, o, none⟩ (.int .i32 m.1)).setCell ⟨g, o + 1, none⟩ (.int .i64 m.2.1)
theorem drew_set2 (w : World) (g o : Nat) (m : mapS.Dat) : set2 w.drew g o m = (set2 w g o m).drew := rfl
theorem off_set2 {g : Nat} {a b : World} (h : Off g a b) (o : Nat) (m : mapS.Dat) : Off g a (set2 b g o m) := (h.set o _).set (o + 1) _
theorem MineM.spot {w : World} {B n c g : Nat} {l : List mapS.Dat} {i : Nat} {x : mapS.Dat} (h : MineM w B (.slice (some ⟨g, 0, none⟩) n c) l) (hi : l[i]? = some x) :
    (w.cell? ⟨g, i * 2, none⟩ = some (.int .i32 x.1) ∧ w.cell? ⟨g, i * 2 + 1, none⟩ = some (.int .i64 x.2.1)) ∧ ∀ y : mapS.Dat, MineM (set2 w g (i * 2) y) B (.slice (some ⟨g, 0, none⟩) n c) (l.set i y) := by
  have hlt := (List.getElem?_eq_some_iff.1 hi).1
  refine ⟨⟨MineN.cellAt (R := mapS.lay) (q := 0) h hi rfl, MineN.cellAt (R := mapS.lay) (q := 1) h hi rfl⟩, fun y => ?_⟩
  have h1 : MineM (w.setCell ⟨g, i * 2, none⟩ (.int .i32 y.1)) B (.slice (some ⟨g, 0, none⟩) n c) (l.set i (y.1, x.2.1, ())) := MineN.set (R := mapS.lay) (q := 0) h hi (by decide) rfl
  have h2 := MineN.set (R := mapS.lay) (q := 1) (y := y) (u := .int .i64 y.2.1) h1 (List.getElem?_set_self hlt) (by decide) rfl
  rw [List.set_set] at h2
  exact h2
/-- all that an exchange of two elements wants, ahead of it -/
theorem MineM.exch {w : World} {B n c g : Nat} {l : List mapS.Dat} {i j : Nat} {x y : mapS.Dat} (h : MineM w B (.slice (some ⟨g, 0, none⟩) n c) l) (hij : i ≠ j) (hx : l[i]? = some x) (hy : l[j]? = some y) :
    ((w.cell? ⟨g, i * 2, none⟩ = some (.int .i32 x.1) ∧ w.cell? ⟨g, i * 2 + 1, none⟩ = some (.int .i64 x.2.1)) ∧ (w.cell? ⟨g, j * 2, none⟩ = some (.int .i32 y.1) ∧ w.cell? ⟨g, j * 2 + 1, none⟩ = some (.int .i64 y.2.1))) ∧ (∀ q, w.frozen? ⟨g, q, none⟩ = false) ∧
      MineM (set2 (set2 w g (i * 2) y) g (j * 2) x) B (.slice (some ⟨g, 0, none⟩) n c) ((l.set i y).set j x) := by
  obtain ⟨h1, h2⟩ := h.spot hx
  obtain ⟨h3, _⟩ := h.spot hy
  exact ⟨⟨h1, h3⟩, fun q => h.free q, (MineM.spot (h2 y) (i := j) (x := y) (by rw [List.getElem?_set_ne hij]; exact hy)).2 x⟩
theorem MineM.lt {w : World} {B n c g : Nat} {l : List mapS.Dat} (h : MineM w B (.slice (some ⟨g, 0, none⟩) n c) l) : B ≤ g ∧ g < w.heap.size := h.own_lt g rfl
theorem MineM.len {w : World} {B n c : Nat} {A : Option Addr} {l : List mapS.Dat} (h : MineM w B (.slice A n c) l) : n = l.length := by
  obtain ⟨A', c', e, _⟩ := MineN.has h
  injection e

/-- by code point alone -/
@[reducible] def keyM (m : mapS.Dat) : Int := m.1
/-- cmp.Compare's answer -/
def cmpI (x y : Int) : Int := if x < y then -1 else if y < x then 1 else 0
theorem cmpI_neg (x y : Int) : cmpI x y < 0 ↔ x < y := by
  unfold cmpI
  split
  · omega
  · split <;> omega
theorem cmpI_zero (x y : Int) : cmpI x y = 0 ↔ x = y := by
  unfold cmpI
  split
  · omega
  · split <;> omega
theorem compare_ok (x y : Int) (w : World) : Calls Try.prog 69 #[.int .i32 x, .int .i32 y] w fun e w' => e = .returned (.int .i64 (cmpI x y)) ∧ w = w' := by
  by_cases h : x < y
  · have e : cmpI x y = -1 := if_pos h
    rw [e]; clear e
    go_enter Try.func69, Try.ntmps69
    go_wp2
    go_ret
    exact ⟨rfl, rfl⟩
  · by_cases h2 : y < x
    · have e : cmpI x y = 1 := by unfold cmpI; rw [if_neg h, if_pos h2]
      rw [e]; clear e
      go_enter Try.func69, Try.ntmps69
      go_wp2
      go_ret
      exact ⟨rfl, rfl⟩
    · have e : cmpI x y = 0 := by unfold cmpI; rw [if_neg h, if_neg h2]
      rw [e]; clear e
      go_enter Try.func69, Try.ntmps69
      go_wp2
      go_ret
      exact ⟨rfl, rfl⟩
/-- the order that the program sorts mappings by: it lays two blocks -/
theorem order_ok (x y : mapS.Dat) (w : World) : Calls Try.prog 68 #[.agg #[.int .i32 x.1, .int .i64 x.2.1], .agg #[.int .i32 y.1, .int .i64 y.2.1]] w fun e w' => e = .returned (.int .i64 (cmpI x.1 y.1)) ∧ Up w w' := by
  obtain ⟨a, ha⟩ : ∃ a : Int, x.1 = a := ⟨_, rfl⟩
  obtain ⟨b, hb⟩ : ∃ b : Int, x.2.1 = b := ⟨_, rfl⟩
  obtain ⟨c, hc⟩ : ∃ c : Int, y.1 = c := ⟨_, rfl⟩
  obtain ⟨d, hd⟩ : ∃ d : Int, y.2.1 = d := ⟨_, rfl⟩
  rw [ha, hb, hc, hd]
  clear ha hb hc hd
  have HC := Lib.hid (compare_ok a c)
  go_enter Try.func68, Try.ntmps68
  go_wp2_with (go_at_call 69; (with_reducible refine (HC.out _).mono ?_); rintro e u ⟨rfl, rfl⟩)
  go_ret
  exact ⟨rfl, ((Up.refl _).alloc _).alloc _⟩
end Go.Proofs.Ytllmafbpjmclbaa

/-
  The library's swapRange, rotate and insertion sort at mappings in a slice of the call's own. Condition: at most 1000000 elements.
-/
set_option linter.unusedVariables false
set_option linter.unusedSimpArgs false
namespace Go.Proofs.Ytllmafbpjmclbaa
open Go.ChangeShapes Go.WideShapes Go.ChangeAt Go.RowKit Go.Sort

set_option maxRecDepth 20000 in
set_option maxHeartbeats 4000000 in
theorem swapR_ok (g n c a b k B : Nat) (D : List mapS.Dat) (w : World) (hown : MineM w B (.slice (some ⟨g, 0, none⟩) n c) D) (hmax : n ≤ 1000000) (hab : a + k ≤ b) (hb : b + k ≤ n) :
    Calls Try.prog 97 #[.slice (some ⟨g, 0, none⟩) n c, .int .i64 a, .int .i64 b, .int .i64 k, .func (.func 68) #[] #[]] w fun e w' =>
      e = .returned (.tuple #[]) ∧ ∃ E, SwpAt a b k D E ∧ MineM w' B (.slice (some ⟨g, 0, none⟩) n c) E ∧ Off g w w' := by
  have HB := Lib.hid hb
  have HL := Lib.hid hown.len
  have H0 := Lib.hid hown
  clear hown
  go_enter Try.func97, Try.ntmps97
  go_wp2
  go_loopw [10] (fun u wr => ∃ (i : Nat) (L : List mapS.Dat), i ≤ k ∧ u = .int .i64 i ∧ Hid (SwpAt a b i D L ∧ MineM wr B (.slice (some ⟨g, 0, none⟩) n c) L ∧ Off g w wr)) (fun u _ => k - (intOf u).toNat)
  case atStart => exact ⟨0, D, by omega, rfl, Lib.hid ⟨SwpAt.start _ _ _, H0.out, Off.refl _ _⟩⟩
  case round =>
    clear H0
    obtain ⟨i, L, hik, rfl, HM⟩ := hrel
    obtain ⟨hR, hM, hf⟩ := HM.out
    have hl := HL.out
    by_cases hlt : i < k
    · obtain ⟨x, hx⟩ : ∃ x, L[a + i]? = some x := ⟨_, List.getElem?_eq_getElem (by rw [hR.1]; omega)⟩
      obtain ⟨y, hy⟩ : ∃ y, L[b + i]? = some y := ⟨_, List.getElem?_eq_getElem (by rw [hR.1]; omega)⟩
      have hst := hR.step hlt hab (by omega) hx hy
      obtain ⟨p, hp⟩ : ∃ p, a + i = p := ⟨_, rfl⟩
      obtain ⟨q, hq⟩ : ∃ q, b + i = q := ⟨_, rfl⟩
      rw [hp] at hx hst
      rw [hq] at hy hst
      have hpn : p < n := by omega
      have hqn : q < n := by omega
      have hpi : (a : Int) + (i : Int) = (p : Int) := by omega
      have hqi : (b : Int) + (i : Int) = (q : Int) := by omega
      obtain ⟨⟨⟨ca1, ca2⟩, cb1, cb2⟩, fa, hZ⟩ := hM.exch (show p ≠ q by omega) hx hy
      have fa1 := fa (p * 2)
      have fa2 := fa (p * 2 + 1)
      have fb1 := fa (q * 2)
      have fb2 := fa (q * 2 + 1)
      have n00 : ¬ p = q := by omega
      have n01 : ¬ p * 2 = q * 2 + 1 := by omega
      have n10 : ¬ p * 2 + 1 = q * 2 := by omega
      have HZ : Hid (SwpAt a b (i + 1) D ((L.set p y).set q x) ∧ MineM (set2 (set2 wr.drew g (p * 2) y) g (q * 2) x) B (.slice (some ⟨g, 0, none⟩) n c) ((L.set p y).set q x) ∧ Off g w (set2 (set2 wr.drew g (p * 2) y) g (q * 2) x)) :=
        Lib.hid ⟨hst, (by rw [drew_set2, drew_set2]; exact hZ), off_set2 (off_set2 hf.drew _ _) _ _⟩
      rw [drew_set2, drew_set2] at HZ
      unfold set2 at HZ
      clear hx hy HM hR hM hf hst hl hp hq hZ fa
      go_wp2_with fail
      go_region
      go_wp2
      go_roundw
      case rel => exact ⟨i + 1, _, by omega, by go_num, HZ⟩
      case measure => simp [intOf] <;> omega
    · obtain rfl : i = k := by omega
      clear hl
      go_wp2
      go_end0
      exact ⟨rfl, _, hR, hM, hf⟩

set_option maxRecDepth 20000 in
set_option maxHeartbeats 4000000 in
theorem rotate_ok (g n c s m e B : Nat) (D F : List mapS.Dat) (w : World) (hown : MineM w B (.slice (some ⟨g, 0, none⟩) n c) D) (hmax : n ≤ 1000000) (hsm : s < m) (hme : m < e) (hen : e ≤ n) (hF : Rot s m e D F) :
    Calls Try.prog 96 #[.slice (some ⟨g, 0, none⟩) n c, .int .i64 s, .int .i64 m, .int .i64 e, .func (.func 68) #[] #[]] w fun x w' =>
      x = .returned (.tuple #[]) ∧ MineM w' B (.slice (some ⟨g, 0, none⟩) n c) F ∧ Off g w w' := by
  have H0 : Hid (Rot (m - (m - s)) m (m + (e - m)) D F ∧ MineM w B (.slice (some ⟨g, 0, none⟩) n c) D) := Lib.hid ⟨by rw [show m - (m - s) = s by omega, show m + (e - m) = e by omega]; exact hF, hown⟩
  clear hown hF
  go_enter Try.func96, Try.ntmps96
  go_wp2
  go_loopw [10, 11] (fun u v wr => ∃ (i j : Nat) (L : List mapS.Dat), (0 < i ∧ 0 < j ∧ i ≤ m ∧ m + j ≤ n) ∧ u = .int .i64 i ∧ v = .int .i64 j ∧ Hid (Rot (m - i) m (m + j) L F ∧ MineM wr B (.slice (some ⟨g, 0, none⟩) n c) L ∧ Off g w wr)) (fun u v _ => (intOf u).toNat + (intOf v).toNat)
  case atStart => exact ⟨m - s, e - m, D, by omega, by go_num, by go_num, Lib.hid ⟨H0.out.1, H0.out.2, Off.refl _ _⟩⟩
  case round =>
    clear H0
    obtain ⟨i, j, L, ⟨hi, hj, him, hjn⟩, rfl, rfl, HM⟩ := hrel
    obtain ⟨p, hp⟩ : ∃ p, m - i = p := ⟨_, rfl⟩
    have hpi : (m : Int) - (i : Int) = (p : Int) := by omega
    by_cases hlt : j < i
    · have HC := Lib.hid (swapR_ok g n c p m j B L wr HM.out.2.1 hmax (by omega) (by omega))
      have HZ := Lib.hid (fun (E : List mapS.Dat) (u : World) (h1 : SwpAt p m j L E) (h2 : MineM u B (.slice (some ⟨g, 0, none⟩) n c) E) (h3 : Off g wr u) =>
        (⟨HM.out.1.right him (by omega) (by rw [hp]; exact h1), h2, HM.out.2.2.trans h3⟩ : Rot (m - (i - j)) m (m + j) E F ∧ MineM u B (.slice (some ⟨g, 0, none⟩) n c) E ∧ Off g w u))
      clear HM hp
      go_wp2_with (go_at_call 97; (with_reducible refine HC.out.mono ?_); rintro x u ⟨rfl, E, h1, h2, h3⟩)
      have HE := Lib.hid (HZ.out E u h1 h2 h3)
      clear h1 h2 h3 HZ HC
      go_roundw
      case rel => exact ⟨i - j, j, E, by omega, by go_num, rfl, HE⟩
      case measure => simp [intOf] <;> omega
    · by_cases hlt2 : i < j
      · obtain ⟨q, hq⟩ : ∃ q, m + j - i = q := ⟨_, rfl⟩
        have hqi : (m : Int) + (j : Int) - (i : Int) = (q : Int) := by omega
        have HC := Lib.hid (swapR_ok g n c p q i B L wr HM.out.2.1 hmax (by omega) (by omega))
        have HZ := Lib.hid (fun (E : List mapS.Dat) (u : World) (h1 : SwpAt p q i L E) (h2 : MineM u B (.slice (some ⟨g, 0, none⟩) n c) E) (h3 : Off g wr u) =>
          (⟨HM.out.1.left him (by omega) (by rw [hp, hq]; exact h1), h2, HM.out.2.2.trans h3⟩ : Rot (m - i) m (m + (j - i)) E F ∧ MineM u B (.slice (some ⟨g, 0, none⟩) n c) E ∧ Off g w u))
        have hne : ¬ i = j := by omega
        clear HM hp hq
        go_wp2_with (go_at_call 97; (with_reducible refine HC.out.mono ?_); rintro x u ⟨rfl, E, h1, h2, h3⟩)
        have HE := Lib.hid (HZ.out E u h1 h2 h3)
        clear h1 h2 h3 HZ HC
        go_roundw
        case rel => exact ⟨i, j - i, E, by omega, rfl, by go_num, HE⟩
        case measure => simp [intOf] <;> omega
      · obtain rfl : i = j := by omega
        have HC := Lib.hid (swapR_ok g n c p m i B L wr HM.out.2.1 hmax (by omega) (by omega))
        have HZ := Lib.hid (fun (E : List mapS.Dat) (u : World) (h1 : SwpAt p m i L E) (h2 : MineM u B (.slice (some ⟨g, 0, none⟩) n c) E) (h3 : Off g wr u) =>
          (⟨by rw [← HM.out.1.even him (by rw [hp]; exact h1)]; exact h2, HM.out.2.2.trans h3⟩ : MineM u B (.slice (some ⟨g, 0, none⟩) n c) F ∧ Off g w u))
        clear HM hp
        go_wp2_with (go_at_call 97; (with_reducible refine HC.out.mono ?_); rintro x u ⟨rfl, E, h1, h2, h3⟩)
        have HE := Lib.hid (HZ.out E u h1 h2 h3)
        clear h1 h2 h3 HZ HC
        go_end0
        exact ⟨rfl, HE.out⟩
end Go.Proofs.Ytllmafbpjmclbaa

/-
  Plain mathematics of a stable sort by merging in place, further: insertion, a merge's halves, blocks. No condition; no program text.
-/
set_option linter.unusedVariables false
set_option linter.unusedSimpArgs false
namespace Go.Proofs.Ytllmafbpjmclbaa

section
variable {α : Type} {key : α → Int}
/-- sorted from a to i but for the place j, whose element is no greater than those behind it -/
def InsAt (key : α → Int) (D : List α) (a i j : Nat) : Prop := ∀ (p q : Nat) (x y : α), a ≤ p → p < q → q ≤ i → q ≠ j → D[p]? = some x → D[q]? = some y → key x ≤ key y
theorem InsAt.start {D : List α} {a i : Nat} (h : SortedOn key D a i) : InsAt key D a i i := fun p q x y h1 h2 h3 h4 hx hy => h p q x y h1 h2 (by omega) hx hy
theorem InsAt.front {D : List α} {a i : Nat} (h : InsAt key D a i a) : SortedOn key D a (i + 1) := fun p q x y h1 h2 h3 hx hy => h p q x y h1 h2 (by omega) (by omega) hx hy
theorem InsAt.stop {D : List α} {a i j : Nat} (h : InsAt key D a i j) (hj : a < j) (hji : j ≤ i) {x y : α} (hx : D[j]? = some x) (hy : D[j - 1]? = some y) (hn : ¬ key x < key y) : SortedOn key D a (i + 1) := fun p q u v h1 h2 h3 hu hv => by
  by_cases hq : q = j
  · subst hq
    rw [hx] at hv
    cases hv
    by_cases hp : p = q - 1
    · subst hp
      rw [hy] at hu
      cases hu
      omega
    · have := h p (q - 1) u y h1 (by omega) (by omega) (by omega) hu hy
      omega
  · exact h p q u v h1 h2 (by omega) hq hu hv
theorem get_two {D : List α} {j : Nat} {x y : α} (hj : 0 < j) (hx : D[j]? = some x) (hy : D[j - 1]? = some y) (p : Nat) : ((D.set j y).set (j - 1) x)[p]? = if p = j then some y else if p = j - 1 then some x else D[p]? := by
  have hl := (List.getElem?_eq_some_iff.1 hx).1
  rw [List.getElem?_set, List.length_set]
  by_cases e1 : j - 1 = p
  · rw [if_pos e1, if_pos (by omega), if_neg (by omega), if_pos (by omega)]
  · rw [if_neg e1, List.getElem?_set]
    by_cases e2 : j = p
    · rw [if_pos e2, if_pos (by omega), if_pos (by omega)]
    · rw [if_neg e2, if_neg (by omega), if_neg (by omega)]
theorem InsAt.step {D : List α} {a i j : Nat} (h : InsAt key D a i j) (hj : a < j) (hji : j ≤ i) {x y : α} (hx : D[j]? = some x) (hy : D[j - 1]? = some y) (hlt : key x < key y) : InsAt key ((D.set j y).set (j - 1) x) a i (j - 1) := fun p q u v h1 h2 h3 h4 hu hv => by
  rw [get_two (by omega) hx hy] at hu hv
  rw [if_neg (show ¬ q = j - 1 from h4)] at hv
  by_cases q1 : q = j
  · rw [if_pos q1] at hv
    cases hv
    by_cases p1 : p = j - 1
    · rw [if_neg (by omega), if_pos p1] at hu
      cases hu
      omega
    · rw [if_neg (by omega), if_neg p1] at hu
      exact h p (j - 1) u _ h1 (by omega) (by omega) (by omega) hu hy
  · rw [if_neg q1] at hv
    by_cases p1 : p = j
    · rw [if_pos p1] at hu
      cases hu
      exact h (j - 1) q _ v (by omega) (by omega) h3 (by omega) hy hv
    · rw [if_neg p1] at hu
      by_cases p2 : p = j - 1
      · rw [if_pos p2] at hu
        cases hu
        by_cases q2 : q = j
        · omega
        · exact h j q _ v (by omega) (by omega) h3 q2 hx hv
      · rw [if_neg p2] at hu
        exact h p q u v h1 h2 h3 q1 hu hv
theorem Seg.down {D : List α} {a b j : Nat} {x y : α} (hj : a < j) (hjb : j < b) (hx : D[j]? = some x) (hy : D[j - 1]? = some y) (hlt : key x < key y) : Seg key a b D ((D.set j y).set (j - 1) x) := by
  have := Seg.swap (D := D) (i := j - 1) (x := y) (y := x) hy (by rw [show j - 1 + 1 = j by omega]; exact hx) hlt
  rw [show j - 1 + 1 = j by omega, List.set_comm _ _ (show j - 1 ≠ j by omega)] at this
  exact this.wide (by omega) (by omega)

/-! a merge -/
/-- what a merge of two sorted stretches leaves: sorted as a whole, equals in their order -/
def Mrg (key : α → Int) (a b : Nat) (D E : List α) : Prop := Seg key a b D E ∧ SortedOn key E a b
/-- the first stretch is one element, put behind those that are less -/
theorem mrg_first {D E : List α} {a b i : Nat} (hR : Rot a (a + 1) i D E) (hai : a < i) (hib : i ≤ b) (hb : b ≤ D.length) (hs : SortedOn key D (a + 1) b) {x : α} (hx : D[a]? = some x)
    (h1 : ∀ y, a + 1 < i → D[i - 1]? = some y → key y < key x) (h2 : ∀ y, i < b → D[i]? = some y → key x ≤ key y) : Mrg key a b D E := by
  have hlo : ∀ q y, a + 1 ≤ q → q < i → D[q]? = some y → key y < key x := fun q y c1 c2 hy => by
    obtain ⟨z, hz⟩ : ∃ z, D[i - 1]? = some z := ⟨_, List.getElem?_eq_getElem (by omega)⟩
    have := h1 z (by omega) hz
    by_cases e : q = i - 1
    · subst e; rw [hy] at hz; cases hz; exact this
    · have := hs q (i - 1) y z c1 (by omega) (by omega) hy hz
      omega
  have hhi : ∀ q y, i ≤ q → q < b → D[q]? = some y → key x ≤ key y := fun q y c1 c2 hy => by
    obtain ⟨z, hz⟩ : ∃ z, D[i]? = some z := ⟨_, List.getElem?_eq_getElem (by omega)⟩
    have := h2 z (by omega) hz
    by_cases e : q = i
    · subst e; rw [hy] at hz; cases hz; exact this
    · have := hs i q z y (by omega) (by omega) c2 hz hy
      omega
  refine ⟨(hR.seg (by omega) (by omega) (by omega) fun p q u v c1 c2 c3 c4 hu hv => ?_).wide (Nat.le_refl _) hib, fun p q u v c1 c2 c3 hu hv => ?_⟩
  · obtain rfl : p = a := by omega
    rw [hx] at hu; cases hu
    exact hlo q v c3 c4 hv
  · rw [hR.2] at hu hv
    by_cases p1 : p < i - 1
    · rw [if_pos (by omega)] at hu
      have hu2 := hlo _ u (by omega) (by omega) hu
      by_cases q1 : q < i - 1
      · rw [if_pos (by omega)] at hv
        exact hs _ _ u v (by omega) (by omega) (by omega) hu hv
      · by_cases q2 : q < i
        · rw [if_neg (by omega), if_pos (by omega), show q - (i - (a + 1)) = a by omega, hx] at hv
          cases hv
          omega
        · rw [if_neg (by omega), if_neg (by omega)] at hv
          have := hhi q v (by omega) c3 hv
          omega
    · by_cases p2 : p < i
      · rw [if_neg (by omega), if_pos (by omega), show p - (i - (a + 1)) = a by omega, hx] at hu
        cases hu
        rw [if_neg (by omega), if_neg (by omega)] at hv
        exact hhi q v (by omega) c3 hv
      · rw [if_neg (by omega), if_neg (by omega)] at hu hv
        exact hs p q u v (by omega) c2 c3 hu hv
/-- the second stretch is one element, put ahead of those that are greater -/
theorem mrg_last {D E : List α} {a m i : Nat} (hR : Rot i m (m + 1) D E) (hai : a ≤ i) (him : i ≤ m) (hb : m < D.length) (hs : SortedOn key D a m) {x : α} (hx : D[m]? = some x)
    (h1 : ∀ y, a < i → D[i - 1]? = some y → key y ≤ key x) (h2 : ∀ y, i < m → D[i]? = some y → key x < key y) : Mrg key a (m + 1) D E := by
  have hlo : ∀ q y, a ≤ q → q < i → D[q]? = some y → key y ≤ key x := fun q y c1 c2 hy => by
    obtain ⟨z, hz⟩ : ∃ z, D[i - 1]? = some z := ⟨_, List.getElem?_eq_getElem (by omega)⟩
    have := h1 z (by omega) hz
    by_cases e : q = i - 1
    · subst e; rw [hy] at hz; cases hz; exact this
    · have := hs q (i - 1) y z c1 (by omega) (by omega) hy hz
      omega
  have hhi : ∀ q y, i ≤ q → q < m → D[q]? = some y → key x < key y := fun q y c1 c2 hy => by
    obtain ⟨z, hz⟩ : ∃ z, D[i]? = some z := ⟨_, List.getElem?_eq_getElem (by omega)⟩
    have := h2 z (by omega) hz
    by_cases e : q = i
    · subst e; rw [hy] at hz; cases hz; exact this
    · have := hs i q z y (by omega) (by omega) c2 hz hy
      omega
  refine ⟨(hR.seg (by omega) (by omega) (by omega) fun p q u v c1 c2 c3 c4 hu hv => ?_).wide hai (Nat.le_refl _), fun p q u v c1 c2 c3 hu hv => ?_⟩
  · obtain rfl : q = m := by omega
    rw [hx] at hv; cases hv
    exact hhi p u c1 c2 hu
  · rw [hR.2] at hu hv
    by_cases p1 : p < i
    · rw [if_neg (by omega), if_neg (by omega)] at hu
      have hu2 := hlo _ u (by omega) (by omega) hu
      by_cases q1 : q < i
      · rw [if_neg (by omega), if_neg (by omega)] at hv
        exact hs _ _ u v (by omega) (by omega) (by omega) hu hv
      · by_cases q2 : q = i
        · rw [if_pos (by omega), show q + (m - i) = m by omega, hx] at hv
          cases hv
          exact hu2
        · rw [if_neg (by omega), if_pos (by omega)] at hv
          have := hhi (q - (m + 1 - m)) v (by omega) (by omega) hv
          omega
    · by_cases p2 : p = i
      · rw [if_pos (by omega), show p + (m - i) = m by omega, hx] at hu
        cases hu
        rw [if_neg (by omega), if_pos (by omega)] at hv
        have := hhi (q - (m + 1 - m)) v (by omega) (by omega) hv
        omega
      · rw [if_neg (by omega), if_pos (by omega)] at hu hv
        exact hs _ _ u v (by omega) (by omega) (by omega) hu hv
/-- where the two stretches are cut: what lies ahead of the cuts goes to the left -/
structure Cuts2 (key : α → Int) (D : List α) (a m b mid s e : Nat) : Prop where
  as : a ≤ s
  sm : s ≤ m
  me : m ≤ e
  eb : e ≤ b
  len : b ≤ D.length
  sum : s + e = mid + m
  lo : ∀ x y, a < s → e < b → D[s - 1]? = some x → D[e]? = some y → key x ≤ key y
  hi : ∀ x y, s < m → m < e → D[s]? = some x → D[e - 1]? = some y → key y < key x
theorem Cuts2.low {D : List α} {a m b mid s e : Nat} (h : Cuts2 key D a m b mid s e) (h1 : SortedOn key D a m) (h2 : SortedOn key D m b) {p q : Nat} {x y : α} (ha : a ≤ p) (hp : p < s) (hq : e ≤ q) (hb : q < b) (hx : D[p]? = some x) (hy : D[q]? = some y) : key x ≤ key y := by
  have := h.len; have := h.sm; have := h.me
  obtain ⟨u, hu⟩ : ∃ u, D[s - 1]? = some u := ⟨_, List.getElem?_eq_getElem (by omega)⟩
  obtain ⟨v, hv⟩ : ∃ v, D[e]? = some v := ⟨_, List.getElem?_eq_getElem (by omega)⟩
  have h3 := h.lo u v (by omega) (by omega) hu hv
  have h4 : key x ≤ key u := by
    by_cases c : p = s - 1
    · subst c; rw [hx] at hu; cases hu; omega
    · exact h1 p (s - 1) x u ha (by omega) (by omega) hx hu
  have h5 : key v ≤ key y := by
    by_cases c : q = e
    · subst c; rw [hy] at hv; cases hv; omega
    · exact h2 e q v y (by omega) (by omega) hb hv hy
  omega
theorem Cuts2.high {D : List α} {a m b mid s e : Nat} (h : Cuts2 key D a m b mid s e) (h1 : SortedOn key D a m) (h2 : SortedOn key D m b) {p q : Nat} {x y : α} (ha : s ≤ p) (hp : p < m) (hq : m ≤ q) (hb : q < e) (hx : D[p]? = some x) (hy : D[q]? = some y) : key y < key x := by
  have := h.len; have := h.as; have := h.eb
  obtain ⟨u, hu⟩ : ∃ u, D[s]? = some u := ⟨_, List.getElem?_eq_getElem (by omega)⟩
  obtain ⟨v, hv⟩ : ∃ v, D[e - 1]? = some v := ⟨_, List.getElem?_eq_getElem (by omega)⟩
  have h3 := h.hi u v (by omega) (by omega) hu hv
  have h4 : key u ≤ key x := by
    by_cases c : p = s
    · subst c; rw [hx] at hu; cases hu; omega
    · exact h1 s p u x (by omega) (by omega) hp hu hx
  have h5 : key y ≤ key v := by
    by_cases c : q = e - 1
    · subst c; rw [hy] at hv; cases hv; omega
    · exact h2 q (e - 1) y v hq (by omega) (by omega) hy hv
  omega
/-- behind the turn: the halves are each two sorted stretches, and the left half lies ahead of the right -/
theorem Cuts2.turned {D F : List α} {a m b mid s e : Nat} (h : Cuts2 key D a m b mid s e) (h1 : SortedOn key D a m) (h2 : SortedOn key D m b) (hF : Rot s m e D F) :
    Seg key a b D F ∧ SortedOn key F a s ∧ SortedOn key F s mid ∧ SortedOn key F mid e ∧ SortedOn key F e b ∧ (∀ p q x y, a ≤ p → p < mid → mid ≤ q → q < b → F[p]? = some x → F[q]? = some y → key x ≤ key y) := by
  have a1 := h.as; have a2 := h.sm; have a3 := h.me; have a4 := h.eb; have a5 := h.len; have a6 := h.sum
  have hw := (hF.seg h.sm h.me (by omega) fun p q x y c1 c2 c3 c4 hx hy => h.high h1 h2 c1 c2 c3 c4 hx hy).wide (a' := a) (b' := b) a1 a4
  have g1 : ∀ p x, p < s → F[p]? = some x → D[p]? = some x := fun p x hp hx => by rw [hF.2, if_neg (by omega), if_neg (by omega)] at hx; exact hx
  have g2 : ∀ p x, s ≤ p → p < mid → F[p]? = some x → D[p + (m - s)]? = some x := fun p x hp hq hx => by rw [hF.2, if_pos (by omega)] at hx; exact hx
  have g3 : ∀ p x, mid ≤ p → p < e → F[p]? = some x → D[p - (e - m)]? = some x := fun p x hp hq hx => by rw [hF.2, if_neg (by omega), if_pos (by omega)] at hx; exact hx
  have g4 : ∀ p x, e ≤ p → F[p]? = some x → D[p]? = some x := fun p x hp hx => by rw [hF.2, if_neg (by omega), if_neg (by omega)] at hx; exact hx
  refine ⟨hw, fun p q x y c1 c2 c3 hx hy => h1 p q x y c1 c2 (by omega) (g1 p x (by omega) hx) (g1 q y c3 hy), fun p q x y c1 c2 c3 hx hy => ?_, fun p q x y c1 c2 c3 hx hy => ?_, fun p q x y c1 c2 c3 hx hy => h2 p q x y (by omega) c2 c3 (g4 p x c1 hx) (g4 q y (by omega) hy), fun p q x y c1 c2 c3 c4 hx hy => ?_⟩
  · exact h2 _ _ x y (by omega) (by omega) (by omega) (g2 p x c1 (by omega) hx) (g2 q y (by omega) c3 hy)
  · exact h1 _ _ x y (by omega) (by omega) (by omega) (g3 p x c1 (by omega) hx) (g3 q y (by omega) c3 hy)
  · by_cases p1 : p < s
    · have hx := g1 p x p1 hx
      by_cases q1 : q < e
      · exact h1 p _ x y c1 (by omega) (by omega) hx (g3 q y c3 q1 hy)
      · exact h.low h1 h2 c1 p1 (by omega) c4 hx (g4 q y (by omega) hy)
    · have hx := g2 p x (by omega) c2 hx
      by_cases q1 : q < e
      · have := h.high h1 h2 (p := q - (e - m)) (q := p + (m - s)) (by omega) (by omega) (by omega) (by omega) (g3 q y c3 q1 hy) hx
        omega
      · exact h2 _ q x y (by omega) (by omega) c4 hx (g4 q y (by omega) hy)
/-- both halves merged -/
theorem mrg_both {D F G E : List α} {a mid b : Nat} (hF : Seg key a b D F) (ham : a ≤ mid) (hmb : mid ≤ b) (hx : ∀ p q x y, a ≤ p → p < mid → mid ≤ q → q < b → F[p]? = some x → F[q]? = some y → key x ≤ key y)
    (h1 : Mrg key a mid F G) (h2 : Mrg key mid b G E) : Mrg key a b D E := by
  refine ⟨(hF.trans (h1.1.wide (Nat.le_refl _) hmb)).trans (h2.1.wide ham (Nat.le_refl _)), SortedOn.join (h2.1.sorted_out h1.2 (.inl (Nat.le_refl _))) h2.2 fun p q x y c1 c2 c3 c4 e1 e2 => ?_⟩
  rw [h2.1.out p (.inl c2)] at e1
  obtain ⟨p', d1, d2, d3⟩ := h1.1.mem c1 c2 e1
  obtain ⟨q', d4, d5, d6⟩ := h2.1.mem c3 c4 e2
  rw [h1.1.out q' (.inr d4)] at d6
  exact hx p' q' x y d1 d2 d4 d5 d3 d6
theorem Mrg.none_ {D : List α} {a b : Nat} (h : SortedOn key D a b) : Mrg key a b D D := ⟨Seg.refl _ _ _, h⟩

/-! blocks -/
/-- each block of so many elements within a stretch is sorted -/
def Blk (key : α → Int) (D : List α) (z lo hi : Nat) : Prop := ∀ t, lo ≤ t * z → SortedOn key D (t * z) (min ((t + 1) * z) hi)
/-- up to u blocks of two, beyond them blocks of one -/
structure Half (key : α → Int) (D : List α) (z u n : Nat) : Prop where
  lo : ∀ t, t < u → SortedOn key D (t * (2 * z)) ((t + 1) * (2 * z))
  hi : ∀ t, 2 * u ≤ t → SortedOn key D (t * z) (min ((t + 1) * z) n)
theorem Half.start {D : List α} {z n : Nat} (h : Blk key D z 0 n) : Half key D z 0 n := ⟨fun t ht => absurd ht (by omega), fun t _ => h t (Nat.zero_le _)⟩
theorem mul_two (t z : Nat) : t * (2 * z) = 2 * t * z := by rw [Nat.mul_left_comm, Nat.mul_assoc]
theorem Half.pair {D : List α} {z u n : Nat} (h : Half key D z u n) (hn : u * (2 * z) + 2 * z ≤ n) : SortedOn key D (u * (2 * z)) (u * (2 * z) + z) ∧ SortedOn key D (u * (2 * z) + z) (u * (2 * z) + 2 * z) := by
  have h1 := h.hi (2 * u) (Nat.le_refl _)
  have h2 := h.hi (2 * u + 1) (by omega)
  have e1 : (2 * u + 1) * z = 2 * u * z + z := by rw [Nat.add_mul, Nat.one_mul]
  have e2 : (2 * u + 1 + 1) * z = 2 * u * z + 2 * z := by rw [Nat.add_mul, Nat.add_mul, Nat.one_mul]; omega
  rw [mul_two] at hn ⊢
  rw [e1, Nat.min_eq_left (by omega)] at h1
  rw [e1, e2, Nat.min_eq_left (by omega)] at h2
  exact ⟨h1, h2⟩
theorem Half.step {D E : List α} {z u n : Nat} (h : Half key D z u n) (hn : u * (2 * z) + 2 * z ≤ n) (hM : Mrg key (u * (2 * z)) (u * (2 * z) + 2 * z) D E) : Half key E z (u + 1) n := by
  refine ⟨fun t ht => ?_, fun t ht => ?_⟩
  · by_cases e : t = u
    · subst e
      rw [Nat.add_mul, Nat.one_mul]
      exact hM.2
    · have h1 := h.lo t (by omega)
      refine hM.1.sorted_out h1 (.inl (Nat.mul_le_mul_right _ (by omega)))
  · refine hM.1.sorted_out (h.hi t (by omega)) (.inr ?_)
    have := Nat.mul_le_mul_right z ht
    rw [mul_two]
    rw [show 2 * (u + 1) = 2 * u + 2 by omega, Nat.add_mul] at this
    exact this
/-- the rest of fewer than two blocks: one, or one and a part -/
theorem Half.rest {D : List α} {z u n : Nat} (h : Half key D z u n) (hn : n < u * (2 * z) + 2 * z) (hm : u * (2 * z) + z < n) : SortedOn key D (u * (2 * z)) (u * (2 * z) + z) ∧ SortedOn key D (u * (2 * z) + z) n := by
  have h1 := h.hi (2 * u) (Nat.le_refl _)
  have h2 := h.hi (2 * u + 1) (by omega)
  have e1 : (2 * u + 1) * z = 2 * u * z + z := by rw [Nat.add_mul, Nat.one_mul]
  have e2 : (2 * u + 1 + 1) * z = 2 * u * z + 2 * z := by rw [Nat.add_mul, Nat.add_mul, Nat.one_mul]; omega
  rw [mul_two] at hn hm ⊢
  rw [e1, Nat.min_eq_left (by omega)] at h1
  rw [e1, e2, Nat.min_eq_right (by omega)] at h2
  exact ⟨h1, h2⟩
theorem Half.done {D : List α} {z u n : Nat} (hz : 0 < z) (h : Half key D z u n) (hn : n < u * (2 * z) + 2 * z) (hu : SortedOn key D (u * (2 * z)) n) : Blk key D (2 * z) 0 n := fun t _ => by
  by_cases e : t < u
  · exact (h.lo t e).part (Nat.le_refl _) (Nat.min_le_left _ _)
  · by_cases e2 : t = u
    · subst e2
      exact hu.part (Nat.le_refl _) (Nat.min_le_right _ _)
    · refine fun p q x y c1 c2 c3 => ?_
      have h1 : (u + 1) * (2 * z) ≤ t * (2 * z) := Nat.mul_le_mul_right _ (by omega)
      rw [Nat.add_mul, Nat.one_mul] at h1
      omega
theorem Half.over {D : List α} {z u n : Nat} (hz : 0 < z) (h : Half key D z u n) (hn : n < u * (2 * z) + 2 * z) (hm : ¬ u * (2 * z) + z < n) : Blk key D (2 * z) 0 n := by
  refine h.done hz hn ?_
  have h1 := h.hi (2 * u) (Nat.le_refl _)
  have e1 : (2 * u + 1) * z = 2 * u * z + z := by rw [Nat.add_mul, Nat.one_mul]
  rw [mul_two] at hm ⊢
  rw [e1, Nat.min_eq_right (by omega)] at h1
  exact h1
theorem Half.last {D E : List α} {z u n : Nat} (hz : 0 < z) (h : Half key D z u n) (hn : n < u * (2 * z) + 2 * z) (hM : Mrg key (u * (2 * z)) n D E) : Blk key E (2 * z) 0 n := by
  have h2 : Half key E z u n := ⟨fun t ht => hM.1.sorted_out (h.lo t ht) (.inl (Nat.mul_le_mul_right _ (by omega))), fun t ht => by
    refine fun p q x y c1 c2 c3 hx hy => ?_
    have := Nat.mul_le_mul_right z ht
    have h3 : u * (2 * z) ≤ p := by rw [mul_two]; omega
    exact hM.2 p q x y h3 c2 (by omega) hx hy⟩
  exact h2.done hz hn hM.2
theorem Blk.all {D : List α} {z n : Nat} (h : Blk key D z 0 n) (hn : n ≤ z) : SortedOn key D 0 n := by
  have := h 0 (Nat.zero_le _)
  rw [Nat.zero_mul, Nat.zero_add, Nat.one_mul, Nat.min_eq_right hn] at this
  exact this
/-- the first u blocks are sorted -/
def Fst (key : α → Int) (D : List α) (z u : Nat) : Prop := ∀ t, t < u → SortedOn key D (t * z) ((t + 1) * z)
theorem Fst.step {D E : List α} {z u : Nat} (h : Fst key D z u) (hM : Mrg key (u * z) (u * z + z) D E) : Fst key E z (u + 1) := fun t ht => by
  by_cases e : t = u
  · subst e
    rw [Nat.add_mul, Nat.one_mul]
    exact hM.2
  · exact hM.1.sorted_out (h t (by omega)) (.inl (Nat.mul_le_mul_right _ (by omega)))
theorem Fst.done {D E : List α} {z u n : Nat} (h : Fst key D z u) (hz : 0 < z) (hn : n < u * z + z) (hM : Mrg key (u * z) n D E) : Blk key E z 0 n := fun t _ => by
  by_cases e : t < u
  · exact (hM.1.sorted_out (h t e) (.inl (Nat.mul_le_mul_right _ (by omega)))).part (Nat.le_refl _) (Nat.min_le_left _ _)
  · refine fun p q x y c1 c2 c3 hx hy => ?_
    have := Nat.mul_le_mul_right z (show u ≤ t by omega)
    exact hM.2 p q x y (by omega) c2 (by omega) hx hy
end
end Go.Proofs.Ytllmafbpjmclbaa

/-
  The library's insertion sort at mappings in a slice of the call's own, by code point. Condition: at most 1000000 elements.
-/
set_option linter.unusedVariables false
set_option linter.unusedSimpArgs false
namespace Go.Proofs.Ytllmafbpjmclbaa
open Go.ChangeShapes Go.WideShapes Go.ChangeAt Go.RowKit Go.Sort

set_option maxRecDepth 20000 in
set_option maxHeartbeats 4000000 in
theorem insert_ok (g n c a b B : Nat) (D : List mapS.Dat) (w : World) (hown : MineM w B (.slice (some ⟨g, 0, none⟩) n c) D) (hmax : n ≤ 1000000) (hab : a ≤ b) (hb : b ≤ n) :
    Calls Try.prog 93 #[.slice (some ⟨g, 0, none⟩) n c, .int .i64 a, .int .i64 b, .func (.func 68) #[] #[]] w fun x w' =>
      x = .returned (.tuple #[]) ∧ ∃ E, Mrg keyM a b D E ∧ MineM w' B (.slice (some ⟨g, 0, none⟩) n c) E ∧ Off g w w' := by
  have HL := Lib.hid hown.len
  have H0 := Lib.hid hown
  clear hown
  go_enter Try.func93, Try.ntmps93
  go_wp2
  go_loopw [8] (fun u wr => ∃ (i : Nat) (L : List mapS.Dat), (a < i ∧ i ≤ b + 1) ∧ u = .int .i64 i ∧ Hid ((Seg keyM a b D L ∧ SortedOn keyM L a i) ∧ MineM wr B (.slice (some ⟨g, 0, none⟩) n c) L ∧ Off g w wr)) (fun u _ => b + 1 - (intOf u).toNat)
  case atStart => exact ⟨a + 1, D, by omega, by go_num, Lib.hid ⟨⟨Seg.refl _ _ _, SortedOn.small (Nat.le_refl _)⟩, H0.out, Off.refl _ _⟩⟩
  case round =>
    clear H0
    obtain ⟨i, L, ⟨hai, hib⟩, rfl, HM⟩ := hrel
    by_cases hlt : i < b
    · have H1 : Hid ((Seg keyM a b D L ∧ InsAt keyM L a i i) ∧ MineM wr B (.slice (some ⟨g, 0, none⟩) n c) L ∧ Off g w wr) := Lib.hid ⟨⟨HM.out.1.1, InsAt.start HM.out.1.2⟩, HM.out.2⟩
      clear HM
      go_wp2
      go_loopw [9] (fun u wq => ∃ (j : Nat) (M : List mapS.Dat), (a ≤ j ∧ j ≤ i) ∧ u = .int .i64 j ∧ Hid ((Seg keyM a b D M ∧ InsAt keyM M a i j) ∧ MineM wq B (.slice (some ⟨g, 0, none⟩) n c) M ∧ Off g w wq)) (fun u _ => (intOf u).toNat)
      case atStart => exact ⟨i, L, by omega, rfl, H1⟩
      case round =>
        clear H1
        obtain ⟨j, M, ⟨haj, hji⟩, rfl, HM⟩ := hrel
        by_cases hj : a < j
        · have hl := HL.out
          obtain ⟨k, hk⟩ : ∃ k, j - 1 = k := ⟨_, rfl⟩
          have hki : (j : Int) - 1 = (k : Int) := by omega
          have hkw : IntKind.i64.wrap (k : Int) = (k : Int) := IntWalk.i64_in _ (by omega)
          have hjn : j < n := by omega
          have hkn : k < n := by omega
          obtain ⟨x, hx⟩ : ∃ x, M[j]? = some x := ⟨_, List.getElem?_eq_getElem (by have := HM.out.1.1.len; omega)⟩
          obtain ⟨y, hy⟩ : ∃ y, M[k]? = some y := ⟨_, List.getElem?_eq_getElem (by have := HM.out.1.1.len; omega)⟩
          obtain ⟨⟨⟨ca1, ca2⟩, cb1, cb2⟩, _, _⟩ := HM.out.2.1.exch (show j ≠ k by omega) hx hy
          obtain ⟨q, hq⟩ : ∃ q, cmpI x.1 y.1 = q := ⟨_, rfl⟩
          have HC := Lib.hid (order_ok x y)
          rw [hq] at HC
          have hql : q < 0 ↔ x.1 < y.1 := by rw [← hq]; exact cmpI_neg _ _
          by_cases hlt2 : x.1 < y.1
          · have hq0 : q < 0 := hql.2 hlt2
            have HE := Lib.hid (fun (u : World) (hu : Up wr.drew u) =>
              (⟨MineM.exch (MineN.up (MineN.drew HM.out.2.1) hu) (show j ≠ k by omega) hx hy, (HM.out.2.2.drew.trans (Off.of_up hu)).drew⟩ : _ ∧ Off g w u.drew))
            have HS : Hid (Seg keyM a b D ((M.set j y).set k x) ∧ InsAt keyM ((M.set j y).set k x) a i k) := Lib.hid (by
              rw [← hk] at hy ⊢
              exact ⟨HM.out.1.1.trans (Seg.down hj (by omega) hx hy hlt2), HM.out.1.2.step hj hji hx hy hlt2⟩)
            have HK := Lib.hid hk
            clear hl hx hy hql hlt2 HM hq hk
            go_wp2
            go_region_held3 (fun W => W.cell? ⟨g, j * 2, none⟩ = some (.int .i32 x.1) ∧ W.cell? ⟨g, j * 2 + 1, none⟩ = some (.int .i64 x.2.1) ∧ W.cell? ⟨g, k * 2, none⟩ = some (.int .i32 y.1) ∧ W.cell? ⟨g, k * 2 + 1, none⟩ = some (.int .i64 y.2.1))
              (exact ⟨by assumption, by assumption, by assumption, by assumption⟩) ((go_at_call 68; refine (HC.out _).mono ?_; rintro e u ⟨rfl, hu⟩; have e1 := Up.cell hu (p := ⟨g, j * 2, none⟩) ca1; have e2 := Up.cell hu (p := ⟨g, j * 2 + 1, none⟩) ca2; have e3 := Up.cell hu (p := ⟨g, k * 2, none⟩) cb1; have e4 := Up.cell hu (p := ⟨g, k * 2 + 1, none⟩) cb2))
            obtain ⟨⟨⟨⟨da1, da2⟩, db1, db2⟩, fa, hZ⟩, hO⟩ := HE.out u hu
            have fa1 := fa (j * 2)
            have fa2 := fa (j * 2 + 1)
            have fb1 := fa (k * 2)
            have fb2 := fa (k * 2 + 1)
            have n00 : ¬ j = k := by have := HK.out; omega
            have n01 : ¬ j * 2 = k * 2 + 1 := by omega
            have n10 : ¬ j * 2 + 1 = k * 2 := by omega
            have HZ : Hid (MineM (set2 (set2 u.drew g (j * 2) y) g (k * 2) x) B (.slice (some ⟨g, 0, none⟩) n c) ((M.set j y).set k x) ∧ Off g w (set2 (set2 u.drew g (j * 2) y) g (k * 2) x)) :=
              Lib.hid ⟨(by rw [drew_set2, drew_set2]; exact hZ), off_set2 (off_set2 hO _ _) _ _⟩
            rw [drew_set2, drew_set2] at HZ
            unfold set2 at HZ
            clear hZ fa hO HE ca1 ca2 cb1 cb2 HC hu
            go_wp2_with fail
            go_region
            go_wp2
            go_roundw
            case rel => exact ⟨k, _, by have := HK.out; omega, by go_num, Lib.hid ⟨HS.out, HZ.out⟩⟩
            case measure => have := HK.out; simp [intOf] <;> omega
          · have hq0 : ¬ q < 0 := fun h => hlt2 (hql.1 h)
            have HE := Lib.hid (fun (u : World) (hu : Up wr.drew u) =>
              (⟨⟨HM.out.1.1, HM.out.1.2.stop hj hji hx (by rw [hk]; exact hy) hlt2⟩, MineN.up (MineN.drew HM.out.2.1) hu, HM.out.2.2.drew.trans (Off.of_up hu)⟩ : (Seg keyM a b D M ∧ SortedOn keyM M a (i + 1)) ∧ MineM u B (.slice (some ⟨g, 0, none⟩) n c) M ∧ Off g w u))
            clear hl hx hy hql hlt2 HM hq hk
            go_wp2
            go_region_held3 (fun W => W.cell? ⟨g, j * 2, none⟩ = some (.int .i32 x.1) ∧ W.cell? ⟨g, j * 2 + 1, none⟩ = some (.int .i64 x.2.1) ∧ W.cell? ⟨g, k * 2, none⟩ = some (.int .i32 y.1) ∧ W.cell? ⟨g, k * 2 + 1, none⟩ = some (.int .i64 y.2.1))
              (exact ⟨by assumption, by assumption, by assumption, by assumption⟩) ((go_at_call 68; refine (HC.out _).mono ?_; rintro e u ⟨rfl, hu⟩; have e1 := Up.cell hu (p := ⟨g, j * 2, none⟩) ca1; have e2 := Up.cell hu (p := ⟨g, j * 2 + 1, none⟩) ca2; have e3 := Up.cell hu (p := ⟨g, k * 2, none⟩) cb1; have e4 := Up.cell hu (p := ⟨g, k * 2 + 1, none⟩) cb2))
            have HF := Lib.hid (HE.out u hu)
            clear HE hu ca1 ca2 cb1 cb2 HC
            go_wp2
            go_roundw
            case rel => exact ⟨i + 1, M, by omega, by go_num, HF⟩
            case measure => simp [intOf] <;> omega
        · have HF : Hid ((Seg keyM a b D M ∧ SortedOn keyM M a (i + 1)) ∧ MineM wr B (.slice (some ⟨g, 0, none⟩) n c) M ∧ Off g w wr) := Lib.hid ⟨⟨HM.out.1.1, by
            obtain rfl : j = a := by omega
            exact HM.out.1.2.front⟩, HM.out.2⟩
          have hd : decide ((a : Int) < (j : Int)) = false := decide_eq_false (by omega)
          clear HM
          go_wp2
          go_region
          go_wp2
          go_roundw
          case rel => exact ⟨i + 1, M, by omega, by go_num, Lib.hid ⟨HF.out.1, MineN.drew HF.out.2.1, HF.out.2.2.drew⟩⟩
          case measure => simp [intOf] <;> omega
    · have HF : Hid (∃ E, Mrg keyM a b D E ∧ MineM wr B (.slice (some ⟨g, 0, none⟩) n c) E ∧ Off g w wr) := Lib.hid ⟨L, ⟨HM.out.1.1, HM.out.1.2.part (Nat.le_refl _) (by omega)⟩, HM.out.2⟩
      clear HM
      go_wp2
      go_end0
      exact ⟨rfl, HF.out⟩
end Go.Proofs.Ytllmafbpjmclbaa
