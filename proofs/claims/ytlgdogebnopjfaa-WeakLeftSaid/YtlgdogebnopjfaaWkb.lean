/-
  Mathematics of lists that are gone through in place: a scan from the left with a state ('scn'), what the list is in the middle of it ('midL'); the rules W1 to W4, W6, W7 as scans; W5 as a scan from the left and one from the right ('bwd'). No program, no condition.
-/
import Derived.Test.YtlgdogebnopjfaaWka
set_option linter.unusedVariables false
set_option linter.unusedSimpArgs false
namespace Go.Proofs.Ytlgdogebnopjfaa

def scn (d q : Int → Int → Int → Int) : Int → List Int → List Int
  | _, [] => []
  | p, c :: l => d p c (l.headD 0) :: scn d q (q p c (l.headD 0)) l
/-- the state before place k -/
def stA (q : Int → Int → Int → Int) : Int → List Int → Nat → Int
  | p, [], _ => p
  | p, _ :: _, 0 => p
  | p, c :: l, k + 1 => stA q (q p c (l.headD 0)) l k
def midL (d q : Int → Int → Int → Int) (p : Int) (l : List Int) (k : Nat) : List Int := (scn d q p l).take k ++ l.drop k

section
variable (d q : Int → Int → Int → Int) (p : Int) (l : List Int)
theorem scn_len : (scn d q p l).length = l.length := by induction l generalizing p with | nil => rfl | cons c l ih => simp [scn, ih]
theorem stA_zero : stA q p l 0 = p := by cases l <;> rfl
theorem headD_getD (l : List Int) : l.headD 0 = l.getD 0 0 := by cases l <;> rfl
theorem scn_at (k : Nat) (c : Int) (h : l[k]? = some c) : (scn d q p l)[k]? = some (d (stA q p l k) c (l.getD (k + 1) 0)) := by
  induction l generalizing p k with
  | nil => simp at h
  | cons x l ih =>
    cases k with
    | zero =>
      simp at h; subst h
      show some _ = some _
      rw [headD_getD]; rfl
    | succ k =>
      have := ih (q p x (l.headD 0)) k (by simpa using h)
      show (scn d q (q p x (l.headD 0)) l)[k]? = _
      rw [this]; rfl
theorem stA_succ (k : Nat) (c : Int) (h : l[k]? = some c) : stA q p l (k + 1) = q (stA q p l k) c (l.getD (k + 1) 0) := by
  induction l generalizing p k with
  | nil => simp at h
  | cons x l ih =>
    cases k with
    | zero =>
      simp at h; subst h
      show stA q _ l 0 = _
      rw [stA_zero, headD_getD]; rfl
    | succ k => exact ih (q p x (l.headD 0)) k (by simpa using h)
theorem mid_zero : midL d q p l 0 = l := by simp [midL]
theorem mid_end : midL d q p l l.length = scn d q p l := by
  unfold midL
  rw [List.drop_length, List.append_nil, ← scn_len d q p l, List.take_length]
theorem mid_len (k : Nat) : (midL d q p l k).length = l.length := by
  simp [midL, scn_len]; omega
theorem mid_at (k : Nat) (c : Int) (h : l[k]? = some c) : (midL d q p l k)[k]? = some c := by
  have hk := (List.getElem?_eq_some_iff.1 h).1
  have e : ((scn d q p l).take k).length = k := by rw [List.length_take, scn_len]; omega
  unfold midL
  rw [List.getElem?_append_right (by omega), e, Nat.sub_self, List.getElem?_drop, Nat.add_zero, h]
theorem mid_next (k : Nat) (c : Int) (h : l[k + 1]? = some c) : (midL d q p l k)[k + 1]? = some c := by
  have hk := (List.getElem?_eq_some_iff.1 h).1
  have e : ((scn d q p l).take k).length = k := by rw [List.length_take, scn_len]; omega
  unfold midL
  rw [List.getElem?_append_right (by omega), e, List.getElem?_drop, show k + (k + 1 - k) = k + 1 by omega, h]
theorem mid_prev (k : Nat) (c : Int) (h : l[k]? = some c) : (midL d q p l (k + 1))[k]? = some (d (stA q p l k) c (l.getD (k + 1) 0)) := by
  have hk := (List.getElem?_eq_some_iff.1 h).1
  have e : ((scn d q p l).take (k + 1)).length = k + 1 := by rw [List.length_take, scn_len]; omega
  unfold midL
  rw [List.getElem?_append_left (by omega), List.getElem?_take, if_pos (by omega), scn_at d q p l k c h]
theorem mid_step (k : Nat) (c : Int) (h : l[k]? = some c) : (midL d q p l k).set k (d (stA q p l k) c (l.getD (k + 1) 0)) = midL d q p l (k + 1) := by
  have hk := (List.getElem?_eq_some_iff.1 h).1
  have hx := scn_at d q p l k c h
  have e : ((scn d q p l).take k).length = k := by rw [List.length_take, scn_len]; omega
  have h1 : l.drop k = c :: l.drop (k + 1) := by
    rw [List.drop_eq_getElem_cons hk]
    rw [List.getElem?_eq_getElem hk] at h
    injection h with h
    rw [h]
  unfold midL
  rw [List.set_append_right _ _ (by omega), e, Nat.sub_self, h1, List.set_cons_zero, List.take_add_one, hx]
  simp
theorem mid_keep (k : Nat) (c : Int) (h : l[k]? = some c) (hd : d (stA q p l k) c (l.getD (k + 1) 0) = c) : midL d q p l (k + 1) = midL d q p l k := by
  have hm := mid_at d q p l k c h
  rw [← mid_step d q p l k c h, hd]
  apply List.ext_getElem?
  intro i
  rw [List.getElem?_set]
  split
  · rename_i e
    subst e
    have hk := (List.getElem?_eq_some_iff.1 hm).1
    rw [if_pos hk, hm]
  · rfl
end

def D1 (p c _n : Int) : Int := d1 p c
def tnD (b i p c _n : Int) : Int := if c = 4 ∧ p = b then i else c
def Q2 (p c _n : Int) : Int := q2 p c
def D3 (_p c _n : Int) : Int := d3 c
def D6 (_p c _n : Int) : Int := d6 c
def Q0 (p _c _n : Int) : Int := p
theorem w1_scn (p : Int) (l : List Int) : w1 p l = scn D1 D1 p l := by induction l generalizing p with | nil => rfl | cons c l ih => rw [w1, scn, ih]; rfl
theorem tn2 (p c n : Int) : tnD 3 7 p c n = d2 p c := by
  unfold tnD d2 q2
  by_cases h : c = 4
  · subst h; simp
  · simp [h]
theorem tn7 (p c n : Int) : tnD 1 1 p c n = d7 p c := by
  unfold tnD d7 q7
  by_cases h : c = 4
  · subst h; simp
  · simp [h]
theorem w2_scn (p : Int) (l : List Int) : w2 p l = scn (tnD 3 7) Q2 p l := by induction l generalizing p with | nil => rfl | cons c l ih => rw [w2, scn, ih, tn2]; rfl
theorem w7_scn (p : Int) (l : List Int) : w7 p l = scn (tnD 1 1) Q2 p l := by induction l generalizing p with | nil => rfl | cons c l ih => rw [w7, scn, ih, tn7]; rfl
theorem w3_scn (p : Int) (l : List Int) : w3 l = scn D3 Q0 p l := by
  induction l with
  | nil => rfl
  | cons c l ih =>
    show d3 c :: w3 l = d3 c :: scn D3 Q0 p l
    rw [ih]
theorem w6_scn (p : Int) (l : List Int) : w6 l = scn D6 Q0 p l := by
  induction l with
  | nil => rfl
  | cons c l ih =>
    show d6 c :: w6 l = d6 c :: scn D6 Q0 p l
    rw [ih]
theorem w4_scn (p : Int) (l : List Int) : w4 p l = scn d4 d4 p l := by induction l generalizing p with | nil => rfl | cons c l ih => rw [w4, scn, ih]

/-- W5: first those behind an EN -/
def E5 (p c _n : Int) : Int := if c = 6 ∧ p = 4 then 4 else c
/-- then those before one -/
def bwd : List Int → List Int
  | [] => []
  | c :: l => (if c = 6 ∧ (bwd l).headD 0 = 4 then 4 else c) :: bwd l
theorem bwd_len (l : List Int) : (bwd l).length = l.length := by induction l with | nil => rfl | cons c l ih => simp [bwd, ih]
theorem w5_cons (p : Bool) (c : Int) (l : List Int) : w5 p (c :: l) = if c = 6 then (if (p || feW l) = true then 4 else 6) :: w5 p l else c :: w5 (c == 4) l := rfl
theorem fe_cons (c : Int) (l : List Int) : feW (c :: l) = if c = 6 then feW l else c == 4 := rfl
theorem w5_head (l : List Int) : (w5 false l).headD 0 = 4 ↔ feW l = true := by
  cases l with
  | nil => simp [w5, feW]
  | cons c l =>
    rw [w5_cons, fe_cons]
    by_cases h : c = 6
    · rw [if_pos h, if_pos h]
      show (if (false || feW l) = true then (4 : Int) else 6) = 4 ↔ _
      cases feW l <;> simp
    · rw [if_neg h, if_neg h]
      show c = 4 ↔ _
      simp
theorem w5_bwd (p : Int) (l : List Int) : bwd (scn E5 E5 p l) = w5 (p == 4) l := by
  induction l generalizing p with
  | nil => rfl
  | cons c l ih =>
    show (if E5 p c _ = 6 ∧ (bwd (scn E5 E5 (E5 p c _) l)).headD 0 = 4 then (4 : Int) else E5 p c _) :: bwd (scn E5 E5 (E5 p c _) l) = w5 (p == 4) (c :: l)
    rw [ih, w5_cons]
    by_cases h : c = 6
    · subst h
      rw [if_pos rfl]
      by_cases hp : p = 4
      · subst hp
        have e : E5 4 6 (l.headD 0) = 4 := rfl
        rw [e]
        simp
      · have e : E5 p 6 (l.headD 0) = 6 := by unfold E5; rw [if_neg fun x => hp x.2]
        have e2 : (p == 4) = false := by simpa using hp
        rw [e, e2]
        have e3 : ((6 : Int) == 4) = false := by decide
        rw [e3]
        congr 1
        have := w5_head l
        cases hf : feW l
        · rw [hf] at this
          rw [if_neg fun x => by simpa using this.1 x.2]
          rfl
        · rw [hf] at this
          rw [if_pos ⟨rfl, this.2 rfl⟩]
          rfl
    · rw [if_neg h]
      have e : E5 p c (l.headD 0) = c := by unfold E5; rw [if_neg fun x => h x.1]
      rw [e, if_neg fun x => h x.1]
theorem w5_two (l : List Int) : w5 false l = bwd (scn E5 E5 0 l) := by rw [w5_bwd]; rfl
/-- the list when the places from m on have been gone through from behind -/
def midB (l : List Int) (m : Nat) : List Int := l.take m ++ (bwd l).drop m
theorem bwd_at (l : List Int) (k : Nat) (c : Int) (h : l[k]? = some c) : (bwd l)[k]? = some (if c = 6 ∧ (bwd l).getD (k + 1) 0 = 4 then 4 else c) := by
  induction l generalizing k with
  | nil => simp at h
  | cons x l ih =>
    cases k with
    | zero =>
      simp at h; subst h
      show some _ = some _
      rw [headD_getD]; rfl
    | succ k =>
      have := ih k (by simpa using h)
      show (bwd l)[k]? = _
      rw [this]; rfl
theorem midB_all (l : List Int) : midB l l.length = l := by
  unfold midB
  rw [List.take_length, ← bwd_len l, List.drop_length, List.append_nil]
theorem midB_zero (l : List Int) : midB l 0 = bwd l := by simp [midB]
theorem midB_len (l : List Int) (m : Nat) : (midB l m).length = l.length := by simp [midB, bwd_len]; omega
theorem midB_at (l : List Int) (m : Nat) (k : Nat) (h : k < m) : (midB l m)[k]? = l[k]? := by
  unfold midB
  by_cases hk : k < l.length
  · rw [List.getElem?_append_left (by rw [List.length_take]; omega), List.getElem?_take, if_pos h]
  · have e := midB_len l m
    unfold midB at e
    rw [List.getElem?_eq_none (by rw [e]; omega), List.getElem?_eq_none (by omega)]
theorem midB_step (l : List Int) (k : Nat) (c : Int) (h : l[k]? = some c) : (midB l (k + 1)).set k (if c = 6 ∧ (bwd l).getD (k + 1) 0 = 4 then 4 else c) = midB l k := by
  have hk := (List.getElem?_eq_some_iff.1 h).1
  have hx := bwd_at l k c h
  have e : (l.take k).length = k := by rw [List.length_take]; omega
  have hb : k < (bwd l).length := by rw [bwd_len]; exact hk
  have h1 : (bwd l).drop k = (if c = 6 ∧ (bwd l).getD (k + 1) 0 = 4 then 4 else c) :: (bwd l).drop (k + 1) := by
    rw [List.drop_eq_getElem_cons hb]
    rw [List.getElem?_eq_getElem hb] at hx
    injection hx with hx
    rw [hx]
  unfold midB
  rw [h1, List.take_add_one, h, List.append_assoc, List.set_append_right _ _ (by omega), e, Nat.sub_self]
  simp
theorem midB_keep (l : List Int) (k : Nat) (c : Int) (h : l[k]? = some c) (hd : (if c = 6 ∧ (bwd l).getD (k + 1) 0 = 4 then 4 else c) = c) : midB l k = midB l (k + 1) := by
  have hm := (midB_at l (k + 1) k (by omega)).trans h
  rw [← midB_step l k c h, hd]
  apply List.ext_getElem?
  intro i
  rw [List.getElem?_set]
  split
  · rename_i e
    subst e
    have hk := (List.getElem?_eq_some_iff.1 hm).1
    rw [if_pos hk, hm]
  · rfl
end Go.Proofs.Ytlgdogebnopjfaa
