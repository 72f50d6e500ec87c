/-
  Mathematics of paragraphs: where they end, that they cover the text, that B stands at their ends alone. No program, no condition.
-/
import Derived.Test.YtneiifjihgbacaaTab
import Derived.KernelRfl
set_option linter.unusedVariables false
set_option linter.unusedSimpArgs false
namespace Go.Proofs.Ytneiifjihgbacaa

def bdC (t : List Int) (i : Nat) : Int := (ofP (t.getD i 0)).bidi
/-- CR before LF -/
def crlf (t : List Int) (i : Nat) : Bool := t.getD i 0 == 13 && decide (i + 1 < t.length) && t.getD (i + 1) 0 == 10
/-- a paragraph ends behind place i -/
def brkP (t : List Int) (i : Nat) : Bool := (bdC t i == 11 && !crlf t i) || i + 1 == t.length
structure Pa where
  out : List (Nat × Nat)
  frm : Nat
def parS (t : List Int) : Nat → Pa
  | 0 => ⟨[], 0⟩
  | i + 1 => if brkP t i = true then ⟨(parS t i).out ++ [((parS t i).frm, i + 1)], i + 1⟩ else parS t i
def parL (t : List Int) : List (Nat × Nat) := (parS t t.length).out
def endAt (l : List (Nat × Nat)) (j : Nat) : Nat := if j = 0 then 0 else (l.getD (j - 1) (0, 0)).2
theorem endAt_succ (l : List (Nat × Nat)) (j : Nat) (c : Nat × Nat) (h : l[j]? = some c) : endAt l (j + 1) = c.2 := by
  unfold endAt
  rw [if_neg (by omega), Nat.add_sub_cancel, List.getD_eq_getElem?_getD, h]; rfl
theorem endAt_snoc (l : List (Nat × Nat)) (c : Nat × Nat) (j : Nat) (h : j ≤ l.length) : endAt (l ++ [c]) j = endAt l j := by
  unfold endAt
  split
  · rfl
  · rw [List.getD_eq_getElem?_getD, List.getD_eq_getElem?_getD, List.getElem?_append_left (by omega)]
structure InvP (t : List Int) (n : Nat) (s : Pa) : Prop where
  le : s.frm ≤ n
  fin : endAt s.out s.out.length = s.frm
  fst : ∀ j c, s.out[j]? = some c → c.1 = endAt s.out j
  cut : ∀ c ∈ s.out, c.1 < c.2 ∧ c.2 ≤ n ∧ brkP t (c.2 - 1) = true ∧ ∀ x, c.1 ≤ x → x < c.2 - 1 → brkP t x = false
  rest : ∀ x, s.frm ≤ x → x < n → brkP t x = false
theorem inv_par (t : List Int) : ∀ n, InvP t n (parS t n)
  | 0 => ⟨Nat.le_refl _, rfl, fun j c h => by simp [parS] at h, fun c h => by simp [parS] at h, fun x h1 h2 => by omega⟩
  | n + 1 => by
    obtain ⟨h1, h2, h3, h4, h5⟩ := inv_par t n
    unfold parS
    split
    · rename_i hb
      refine ⟨Nat.le_refl _, ?_, fun j c hj => ?_, fun c hc => ?_, fun x a b => by (simp only at a; omega)⟩
      · show endAt ((parS t n).out ++ [((parS t n).frm, n + 1)]) ((parS t n).out ++ [((parS t n).frm, n + 1)]).length = n + 1
        rw [List.length_append]
        show endAt _ ((parS t n).out.length + 1) = _
        rw [endAt_succ _ _ ((parS t n).frm, n + 1) (by rw [List.getElem?_append_right (Nat.le_refl _)]; simp)]
      · show c.1 = endAt ((parS t n).out ++ [((parS t n).frm, n + 1)]) j
        replace hj : ((parS t n).out ++ [((parS t n).frm, n + 1)])[j]? = some c := hj
        rcases Nat.lt_or_ge j (parS t n).out.length with h | h
        · rw [List.getElem?_append_left h] at hj
          rw [endAt_snoc _ _ _ (by omega)]
          exact h3 j c hj
        · rw [List.getElem?_append_right h] at hj
          have e : j = (parS t n).out.length := by
            rcases Nat.eq_zero_or_pos (j - (parS t n).out.length) with h0 | h0
            · omega
            · rw [List.getElem?_eq_none (by simp; omega)] at hj; cases hj
          subst e
          simp at hj
          subst hj
          rw [endAt_snoc _ _ _ (Nat.le_refl _), h2]
      · rcases List.mem_append.1 hc with hc | hc
        · obtain ⟨a, b, d, e⟩ := h4 c hc
          exact ⟨a, by omega, d, e⟩
        · simp at hc
          subst hc
          exact ⟨by show (parS t n).frm < n + 1; omega, Nat.le_refl _, hb, fun x a b => h5 x a (by simp at b; omega)⟩
    · rename_i hb
      refine ⟨by omega, h2, h3, fun c hc => ?_, fun x a b => ?_⟩
      · obtain ⟨p, q, r, s⟩ := h4 c hc
        exact ⟨p, by omega, r, s⟩
      · by_cases e : x = n
        · subst e; simpa using hb
        · exact h5 x a (by omega)
theorem par_end (t : List Int) : endAt (parL t) (parL t).length = t.length := by
  have h := inv_par t t.length
  show endAt (parS t t.length).out (parS t t.length).out.length = _
  rw [h.fin]
  rcases Nat.lt_or_ge (parS t t.length).frm t.length with h1 | h1
  · have := h.rest (t.length - 1) (by omega) (by omega)
    unfold brkP at this
    rw [show t.length - 1 + 1 = t.length by omega] at this
    simp at this
  · have := h.le; omega
theorem lf_b : (ofP 10).bidi = 11 := by kernel_rfl
/-- inside a paragraph B stands at its end alone, but a CR ahead of an LF there -/
theorem par_inner (t : List Int) (c : Nat × Nat) (hc : c ∈ parL t) (x : Nat) (h1 : c.1 ≤ x) (h2 : x < c.2 - 1) (hb : bdC t x = 11) : x + 2 = c.2 ∧ t.getD x 0 = 13 ∧ t.getD (x + 1) 0 = 10 := by
  obtain ⟨a, b, d, e⟩ := (inv_par t t.length).cut c hc
  have hx := e x h1 h2
  unfold brkP at hx
  rw [hb] at hx
  simp only [beq_self_eq_true, Bool.true_and, Bool.or_eq_false_iff, Bool.not_eq_false', beq_eq_false_iff_ne] at hx
  have hcr := hx.1
  unfold crlf at hcr
  simp only [Bool.and_eq_true, beq_iff_eq, decide_eq_true_eq] at hcr
  refine ⟨?_, hcr.1.1, hcr.2⟩
  rcases Nat.lt_or_ge (x + 1) (c.2 - 1) with h3 | h3
  · have hy := e (x + 1) (by omega) h3
    unfold brkP bdC crlf at hy
    rw [hcr.2, lf_b] at hy
    simp at hy
  · omega
theorem par_last (t : List Int) (c : Nat × Nat) (hc : c ∈ parL t) : bdC t (c.2 - 1) = 11 ∨ c.2 = t.length := by
  obtain ⟨a, b, d, e⟩ := (inv_par t t.length).cut c hc
  unfold brkP at d
  simp only [Bool.or_eq_true, Bool.and_eq_true, beq_iff_eq] at d
  rcases d with d | d
  · exact .inl d.1
  · exact .inr (by omega)
theorem par_len (t : List Int) : ∀ n, (parS t n).out.length ≤ n
  | 0 => Nat.le_refl _
  | n + 1 => by
    have := par_len t n
    unfold parS
    split
    · simp; omega
    · omega
end Go.Proofs.Ytneiifjihgbacaa
