/-
  Mirrors and pairs of the table: a code's mirror has that code as its own, a bracket's other one likewise, and one of both opens. What a row is, its first and last codes are. No program in this text. No condition.
-/
import Derived.Test.YtfobibijhojhlaaTab
set_option linter.unusedVariables false
set_option maxRecDepth 100000
namespace Go.Proofs.Ytfobibijhojhlaa

theorem findR_mem : ∀ (l : List Rw) (r : Int) (p : Pr), findR l r = some p → ∃ x, x ∈ l ∧ x.f ≤ r ∧ r ≤ x.t ∧ x.p = p
  | x :: l, r, p, h => by
    by_cases hx : x.f ≤ r ∧ r ≤ x.t
    · rw [findR_yes _ _ _ hx] at h
      injection h with h
      exact ⟨x, List.mem_cons_self, hx.1, hx.2, h⟩
    · rw [findR_no _ _ _ hx] at h
      obtain ⟨y, h1, h2⟩ := findR_mem l r p h
      exact ⟨y, List.mem_cons_of_mem _ h1, h2⟩
def mirB (x : Rw) : Bool :=
  (x.p.mi == 0 || (x.f == x.t && (ofP x.p.mi).mi == x.f)) &&
  (if x.p.pa == 0 then x.p.op == false else (x.f == x.t && ((ofP x.p.pa).pa == x.f && (ofP x.p.pa).op == !x.p.op)))
theorem tab_mir : tab.all mirB = true := by kernel_rfl
/-- what concerns mirrors, of any code: that of its row -/
theorem ofP_row (r : Int) : (ofP r).mi = 0 ∧ (ofP r).pa = 0 ∧ (ofP r).op = false ∨ ∃ x, x ∈ tab ∧ x.f ≤ r ∧ r ≤ x.t ∧ (ofP r).mi = x.p.mi ∧ (ofP r).pa = x.p.pa ∧ (ofP r).op = x.p.op := by
  cases h : findR tab r with
  | none => left; unfold ofP; rw [h]; exact ⟨rfl, rfl, rfl⟩
  | some p =>
    right
    obtain ⟨x, h1, h2, h3, h4⟩ := findR_mem _ _ _ h
    refine ⟨x, h1, h2, h3, ?_⟩
    unfold ofP
    rw [h]
    subst h4
    simp only []
    split <;> exact ⟨rfl, rfl, rfl⟩
theorem mir_mi (r : Int) (h : (ofP r).mi ≠ 0) : (ofP (ofP r).mi).mi = r := by
  rcases ofP_row r with ⟨h0, _⟩ | ⟨x, hx, h1, h2, h3, _, _⟩
  · exact absurd h0 h
  · have hb := (List.all_eq_true.1 tab_mir) x hx
    unfold mirB at hb
    rw [Bool.and_eq_true, Bool.or_eq_true, Bool.and_eq_true, beq_iff_eq, beq_iff_eq, beq_iff_eq] at hb
    rw [h3] at h ⊢
    rcases hb.1 with h5 | ⟨h5, h6⟩
    · exact absurd h5 h
    · rw [h6]; omega
theorem mir_pa0 (r : Int) (h : (ofP r).pa = 0) : (ofP r).op = false := by
  rcases ofP_row r with ⟨_, _, h0⟩ | ⟨x, hx, h1, h2, _, h3, h4⟩
  · exact h0
  · have hb := (List.all_eq_true.1 tab_mir) x hx
    unfold mirB at hb
    rw [Bool.and_eq_true] at hb
    rw [h3] at h
    have h5 := hb.2
    rw [if_pos (by rw [h]; rfl), beq_iff_eq] at h5
    rw [h4]; exact h5
theorem mir_pa (r : Int) (h : (ofP r).pa ≠ 0) : (ofP (ofP r).pa).pa = r ∧ (ofP (ofP r).pa).op = !(ofP r).op := by
  rcases ofP_row r with ⟨_, h0, _⟩ | ⟨x, hx, h1, h2, _, h3, h4⟩
  · exact absurd h0 h
  · have hb := (List.all_eq_true.1 tab_mir) x hx
    unfold mirB at hb
    rw [Bool.and_eq_true] at hb
    rw [h3] at h ⊢
    have h5 := hb.2
    rw [if_neg (by rw [beq_iff_eq]; exact h), Bool.and_eq_true, Bool.and_eq_true, beq_iff_eq, beq_iff_eq, beq_iff_eq] at h5
    rw [h4]
    exact ⟨by omega, h5.2.2⟩

/-- each row: its last code is what it is; its first one too, but for the kinds of Hangul -/
def rowB (x : Rw) : Bool := ofP x.t == x.p && (ofP x.f == x.p || x.f == 44032)
theorem tab_rowB : tab.all rowB = true := by kernel_rfl
theorem rowP_mem (i : Int) (h : 0 ≤ i ∧ i < 260) : rowP i ∈ tab := by
  unfold rowP
  rw [if_pos h, List.getD_eq_getElem?_getD, List.getElem?_eq_getElem (by rw [tab_len]; omega)]
  exact List.getElem_mem _
theorem row_last (i : Int) (h : 0 ≤ i ∧ i < 260) : ofP (rowP i).t = (rowP i).p ∧ (ofP (rowP i).f = (rowP i).p ∨ (rowP i).f = 44032) := by
  have hb := (List.all_eq_true.1 tab_rowB) _ (rowP_mem i h)
  unfold rowB at hb
  rw [Bool.and_eq_true, Bool.or_eq_true, beq_iff_eq, beq_iff_eq, beq_iff_eq] at hb
  exact hb
theorem rises_low : ∀ (l : List Rw) (m : Int), risesB m l = true → ∀ b, b < l.length → m ≤ (l.getD b Rw.none).f ∧ (l.getD b Rw.none).f ≤ (l.getD b Rw.none).t
  | [], _, _, _, h => absurd h (by simp)
  | x :: l, m, h, b, hb => by
    unfold risesB at h
    rw [Bool.and_eq_true, decide_eq_true_eq] at h
    match b with
    | 0 => rw [List.getD_cons_zero]; omega
    | b + 1 =>
      rw [List.getD_cons_succ]
      have := rises_low l (x.t + 1) h.2 b (by simpa using hb)
      omega
theorem rises_next : ∀ (l : List Rw) (m : Int), risesB m l = true → ∀ a, a + 1 < l.length → (l.getD a Rw.none).t < (l.getD (a + 1) Rw.none).f
  | [], _, _, _, h => absurd h (by simp)
  | x :: l, m, h, a, hb => by
    unfold risesB at h
    rw [Bool.and_eq_true, decide_eq_true_eq] at h
    match a with
    | 0 =>
      rw [List.getD_cons_zero, List.getD_cons_succ]
      have := rises_low l (x.t + 1) h.2 0 (by simpa using hb)
      omega
    | a + 1 =>
      rw [List.getD_cons_succ, List.getD_cons_succ]
      exact rises_next l _ h.2 a (by simpa using hb)
theorem row_fwd (i : Int) (h : 0 ≤ i ∧ i < 260) : (rowP i).f ≤ (rowP i).t ∧ (i + 1 < 260 → (rowP i).t < (rowP (i + 1)).f) := by
  have hl := rises_low tab 0 tab_rises i.toNat (by rw [tab_len]; omega)
  have e : rowP i = tab.getD i.toNat Rw.none := if_pos h
  rw [e]
  refine ⟨hl.2, fun h2 => ?_⟩
  have e2 : rowP (i + 1) = tab.getD (i.toNat + 1) Rw.none := by
    unfold rowP
    rw [if_pos (by omega), show (i + 1).toNat = i.toNat + 1 by omega]
  rw [e2]
  exact rises_next tab 0 tab_rises _ (by rw [tab_len]; omega)
theorem row_out (i : Int) (h : i < 0 ∨ 260 ≤ i) : rowP i = Rw.none := if_neg (by omega)
theorem of_end : ofP 1114111 = Pr.rest := by kernel_rfl
end Go.Proofs.Ytfobibijhojhlaa
