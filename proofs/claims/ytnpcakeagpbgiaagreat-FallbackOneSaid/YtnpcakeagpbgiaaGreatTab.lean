/-
  The table's rows by number, and what the binary search comes to. No program in this text. No condition.
-/
import Derived.Test.YtnpcakeagpbgiaaGreatMath
import Derived.RowKit3
set_option linter.unusedVariables false
set_option maxRecDepth 100000
namespace Go.Proofs.YtnpcakeagpbgiaaGreat

theorem getD_left {α : Type} (d : α) : ∀ (a b : List α) (k : Nat), k < a.length → (a ++ b).getD k d = a.getD k d
  | x :: a, b, 0, _ => rfl
  | x :: a, b, k + 1, h => by rw [List.cons_append, List.getD_cons_succ, List.getD_cons_succ]; exact getD_left d a b k (by simpa using h)
theorem getD_right {α : Type} (d : α) : ∀ (a b : List α) (k : Nat), (a ++ b).getD (a.length + k) d = b.getD k d
  | [], b, k => by simp
  | x :: a, b, k => by rw [List.cons_append, List.length_cons, show a.length + 1 + k = (a.length + k) + 1 by omega, List.getD_cons_succ]; exact getD_right d a b k
theorem tab_get0 (k : Nat) (h : k < 52) : tab.getD k Rw.none = T0.getD k Rw.none := getD_left _ _ _ _ h
theorem tab_get1 (k : Nat) (h : k < 52) : tab.getD (52 + k) Rw.none = T1.getD k Rw.none := (getD_right _ T0 _ k).trans (getD_left _ _ _ _ h)
theorem tab_get2 (k : Nat) (h : k < 52) : tab.getD (104 + k) Rw.none = T2.getD k Rw.none := by
  rw [show 104 + k = 52 + (52 + k) by omega]
  exact (getD_right _ T0 _ _).trans ((getD_right _ T1 _ k).trans (getD_left _ _ _ _ h))
theorem tab_get3 (k : Nat) (h : k < 52) : tab.getD (156 + k) Rw.none = T3.getD k Rw.none := by
  rw [show 156 + k = 52 + (52 + (52 + k)) by omega]
  exact (getD_right _ T0 _ _).trans ((getD_right _ T1 _ _).trans ((getD_right _ T2 _ k).trans (getD_left _ _ _ _ h)))
theorem tab_get4 (k : Nat) (h : k < 52) : tab.getD (208 + k) Rw.none = T4.getD k Rw.none := by
  rw [show 208 + k = 52 + (52 + (52 + (52 + k))) by omega]
  exact (getD_right _ T0 _ _).trans ((getD_right _ T1 _ _).trans ((getD_right _ T2 _ _).trans (getD_right _ T3 _ k)))

/-- row i, or the row of the rest -/
def rowP (i : Int) : Rw := if 0 ≤ i ∧ i < 260 then tab.getD i.toNat Rw.none else Rw.none

/-- rows rise, none is empty, all are codes -/
def risesB : Int → List Rw → Bool
  | _, [] => true
  | m, x :: l => decide (m ≤ x.f ∧ x.f ≤ x.t ∧ x.t ≤ 1114111) && risesB (x.t + 1) l
theorem tab_rises : risesB 0 tab = true := by kernel_rfl

/-- how many rows of a list end below r -/
def below (l : List Rw) (r : Int) : Nat := l.countP (fun x => decide (x.t < r))
theorem below_cons (x : Rw) (l : List Rw) (r : Int) : below (x :: l) r = below l r + (if x.t < r then 1 else 0) := by
  unfold below
  rw [List.countP_cons]
  by_cases h : x.t < r <;> simp [h]
theorem below_zero : ∀ (l : List Rw) (m r : Int), risesB m l = true → r < m → below l r = 0
  | [], _, _, _, _ => rfl
  | x :: l, m, r, h, hr => by
    unfold risesB at h
    rw [Bool.and_eq_true, decide_eq_true_eq] at h
    rw [below_cons, if_neg (by omega), below_zero l _ r h.2 (by omega)]
theorem findR_none : ∀ (l : List Rw) (m r : Int), risesB m l = true → r < m → findR l r = none
  | [], _, _, _, _ => rfl
  | x :: l, m, r, h, hr => by
    unfold risesB at h
    rw [Bool.and_eq_true, decide_eq_true_eq] at h
    rw [findR_no _ _ _ (by omega), findR_none l _ r h.2 (by omega)]
/-- what the binary search finds: row 'below', if it holds r -/
theorem find_below : ∀ (l : List Rw) (m r : Int), risesB m l = true →
    (below l r < l.length ∧ (l.getD (below l r) Rw.none).f ≤ r → findR l r = some (l.getD (below l r) Rw.none).p ∧ r ≤ (l.getD (below l r) Rw.none).t) ∧
    (¬ (below l r < l.length ∧ (l.getD (below l r) Rw.none).f ≤ r) → findR l r = none)
  | [], _, _, _ => ⟨fun h => absurd h.1 (by simp [below]), fun _ => rfl⟩
  | x :: l, m, r, h => by
    unfold risesB at h
    rw [Bool.and_eq_true, decide_eq_true_eq] at h
    obtain ⟨ih1, ih2⟩ := find_below l (x.t + 1) r h.2
    rw [below_cons]
    by_cases hx : x.t < r
    · rw [if_pos hx, List.getD_cons_succ, List.length_cons, findR_no _ _ _ (by omega)]
      exact ⟨fun hh => ih1 ⟨by omega, hh.2⟩, fun hh => ih2 (fun h3 => hh ⟨by omega, h3.2⟩)⟩
    · rw [if_neg hx, below_zero l _ r h.2 (by omega), Nat.zero_add, List.getD_cons_zero]
      refine ⟨fun hh => ⟨findR_yes _ _ _ ⟨hh.2, by omega⟩, by omega⟩, fun hh => ?_⟩
      have : ¬ x.f ≤ r := fun h3 => hh ⟨by simp, h3⟩
      rw [findR_no _ _ _ (by omega)]
      exact findR_none l _ r h.2 (by omega)
theorem rises_mono : ∀ (l : List Rw) (m : Int), risesB m l = true → ∀ a b, a ≤ b → b < l.length → (l.getD a Rw.none).t ≤ (l.getD b Rw.none).t
  | [], _, _, _, _, _, h => absurd h (by simp)
  | x :: l, m, h, a, b, hab, hb => by
    unfold risesB at h
    rw [Bool.and_eq_true, decide_eq_true_eq] at h
    match a, b with
    | 0, 0 => exact Int.le_refl _
    | 0, b + 1 =>
      rw [List.getD_cons_zero, List.getD_cons_succ]
      have := rises_lo l (x.t + 1) h.2 b (by simpa using hb)
      omega
    | a + 1, b + 1 =>
      rw [List.getD_cons_succ, List.getD_cons_succ]
      exact rises_mono l _ h.2 a b (by omega) (by simpa using hb)
where rises_lo : ∀ (l : List Rw) (m : Int), risesB m l = true → ∀ b, b < l.length → m ≤ (l.getD b Rw.none).f ∧ (l.getD b Rw.none).f ≤ (l.getD b Rw.none).t ∧ (l.getD b Rw.none).t ≤ 1114111
  | [], _, _, _, h => absurd h (by simp)
  | x :: l, m, h, b, hb => by
    unfold risesB at h
    rw [Bool.and_eq_true, decide_eq_true_eq] at h
    match b with
    | 0 => rw [List.getD_cons_zero]; omega
    | b + 1 =>
      rw [List.getD_cons_succ]
      have := rises_lo l (x.t + 1) h.2 b (by simpa using hb)
      omega
/-- the same count over the numbers of the rows -/
theorem below_count (r : Int) : (List.range 260).countP (fun i : Nat => !decide (r ≤ (rowP (i : Int)).t)) = below tab r := by
  have e : tab = (List.range 260).map (fun i => tab.getD i Rw.none) := by
    apply List.ext_getElem
    · rw [List.length_map, List.length_range]; rfl
    · intro i h1 h2
      rw [List.getElem_map, List.getElem_range, List.getD_eq_getElem?_getD, List.getElem?_eq_getElem h1]; rfl
  unfold below
  conv => rhs; rw [e]
  rw [List.countP_map]
  apply List.countP_congr
  intro i hi
  have hi' : i < 260 := List.mem_range.1 hi
  unfold rowP
  rw [if_pos (by omega)]
  simp
theorem below_le (r : Int) : below tab r ≤ 260 := by
  have := List.countP_le_length (p := fun x : Rw => decide (x.t < r)) (l := tab)
  rw [tab_len] at this
  exact this
theorem rowP_mono (r : Int) (a b : Nat) (hab : a ≤ b) (hb : b < 260) (h : decide (r ≤ (rowP a).t) = true) : decide (r ≤ (rowP b).t) = true := by
  have ha' : a < 260 := by omega
  have := rises_mono tab 0 tab_rises a b hab (by rw [tab_len]; omega)
  unfold rowP at *
  rw [if_pos (by omega)] at *
  rw [decide_eq_true_eq] at *
  have e1 : (a : Int).toNat = a := Int.toNat_natCast a
  have e2 : (b : Int).toNat = b := Int.toNat_natCast b
  rw [e1] at h
  rw [e2]
  omega

/-- what the program's search gives -/
def findP (r : Int) : Rw := if (rowP (below tab r)).f ≤ r then rowP (below tab r) else Rw.none
theorem findP_p (r : Int) : (findP r).p = (findR tab r).getD Pr.rest := by
  obtain ⟨h1, h2⟩ := find_below tab 0 r tab_rises
  have hl := below_le r
  have e1 : ((below tab r : Nat) : Int).toNat = below tab r := Int.toNat_natCast _
  unfold findP
  by_cases hb : below tab r < 260
  · have e : rowP (below tab r) = tab.getD (below tab r) Rw.none := by unfold rowP; rw [if_pos (by omega), e1]
    rw [e]
    by_cases hf : (tab.getD (below tab r) Rw.none).f ≤ r
    · rw [if_pos hf, (h1 ⟨by rw [tab_len]; omega, hf⟩).1]; rfl
    · rw [if_neg hf, h2 (fun h => hf h.2)]; rfl
  · have e : rowP (below tab r) = Rw.none := by unfold rowP; rw [if_neg (by omega)]
    rw [e, h2 (fun h => hb (by rw [tab_len] at h; omega))]
    simp only [ite_self]
    rfl

theorem findP_in (r : Int) : findP r = Rw.none ∨ (findP r ∈ tab ∧ (findP r).f ≤ r ∧ r ≤ (findP r).t) := by
  obtain ⟨h1, h2⟩ := find_below tab 0 r tab_rises
  have e1 : ((below tab r : Nat) : Int).toNat = below tab r := Int.toNat_natCast _
  unfold findP
  by_cases hb : below tab r < 260
  · have hb' : below tab r < tab.length := by rw [tab_len]; exact hb
    have e : rowP (below tab r) = tab.getD (below tab r) Rw.none := by unfold rowP; rw [if_pos (by omega), e1]
    rw [e]
    by_cases hf : (tab.getD (below tab r) Rw.none).f ≤ r
    · rw [if_pos hf]
      refine .inr ⟨?_, hf, (h1 ⟨hb', hf⟩).2⟩
      rw [List.getD_eq_getElem?_getD, List.getElem?_eq_getElem hb']
      exact List.getElem_mem hb'
    · rw [if_neg hf]; exact .inl rfl
  · have e : rowP (below tab r) = Rw.none := by unfold rowP; rw [if_neg (by have := below_le r; omega)]
    rw [e]; left; split <;> rfl
theorem tab_hangul : tab.all (fun x => !(x.f == 44032) || x.t == 55203) = true := by kernel_rfl
theorem tab_hangul2 : tab.all (fun x => decide (x.t < 44032) || decide (55203 ≤ x.t)) = true := by kernel_rfl
theorem findP_hangul (r : Int) : (findP r).f = 44032 ↔ 44032 ≤ r ∧ r ≤ 55203 := by
  constructor
  · intro h
    rcases findP_in r with h0 | ⟨hm, h1, h2⟩
    · rw [h0] at h; exact absurd h (by decide)
    · have := (List.all_eq_true.1 tab_hangul) _ hm
      simp only [Bool.or_eq_true, Bool.not_eq_true', beq_eq_false_iff_ne, ne_eq, beq_iff_eq] at this
      rcases this with h3 | h3
      · exact absurd h h3
      · omega
  · intro h
    have e : below tab r = below tab 44032 := by
      unfold below
      apply List.countP_congr
      intro x hx
      have := (List.all_eq_true.1 tab_hangul2) _ hx
      simp only [Bool.or_eq_true, decide_eq_true_eq] at this
      simp only [decide_eq_true_eq]
      omega
    have e2 : rowP (below tab r) = rowP (below tab 44032) := by rw [e]
    have e3 : (rowP (below tab 44032)).f = 44032 := by kernel_rfl
    unfold findP
    rw [e2, if_pos (by rw [e3]; omega), e3]
/-- what a code point is -/
def ofP (r : Int) : Pr :=
  match findR tab r with
  | some p => if 44032 ≤ r ∧ r ≤ 55203 ∧ (r - 44032) % 28 = 0 then { p with cl := 12, br := 33 } else p
  | none => Pr.rest
theorem ofP_yes (r : Int) (h : 44032 ≤ r ∧ r ≤ 55203 ∧ (r - 44032) % 28 = 0) : ofP r = { (findP r).p with cl := 12, br := 33 } := by
  have hf := (findP_hangul r).2 ⟨h.1, h.2.1⟩
  rw [findP_p]
  unfold ofP
  cases hc : findR tab r with
  | none =>
    exfalso
    obtain ⟨h1, h2⟩ := find_below tab 0 r tab_rises
    rcases findP_in r with h0 | ⟨hm, h3, h4⟩
    · rw [h0] at hf; exact absurd hf (by decide)
    · exact absurd hc (findR_some tab _ r hm ⟨h3, h4⟩)
  | some p => simp only [if_pos h]; rfl
where findR_some : ∀ (l : List Rw) (x : Rw) (r : Int), x ∈ l → x.f ≤ r ∧ r ≤ x.t → findR l r ≠ none
  | y :: l, x, r, hx, h => by
    by_cases hy : y.f ≤ r ∧ r ≤ y.t
    · rw [findR_yes _ _ _ hy]; exact fun h => by cases h
    · rw [findR_no _ _ _ hy]
      rcases List.mem_cons.1 hx with rfl | hx
      · exact absurd h hy
      · exact findR_some l x r hx h
theorem ofP_no (r : Int) (h : ¬ (44032 ≤ r ∧ r ≤ 55203 ∧ (r - 44032) % 28 = 0)) : ofP r = (findP r).p := by
  rw [findP_p]
  unfold ofP
  cases hc : findR tab r with
  | none => rfl
  | some p => simp only [if_neg h]; rfl
end Go.Proofs.YtnpcakeagpbgiaaGreat
