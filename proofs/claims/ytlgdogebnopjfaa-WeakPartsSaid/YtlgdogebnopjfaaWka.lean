/-
  Mathematics of the weak rules W1 to W7 as functions of lists: what is left behind them, what stays, that an L or an R parts the work, that doing it once more changes nothing. No program, no condition.
-/
import Derived.ProofKit
set_option linter.unusedVariables false
set_option linter.unusedSimpArgs false
set_option linter.unusedSectionVars false
namespace Go.Proofs.Ytlgdogebnopjfaa

def sideW (sos : Int) : Int := if sos = 2 then 2 else 1
def isoW (c : Int) : Bool := c == 20 || c == 21 || c == 22 || c == 23 || decide (c < 1) || decide (23 < c)
def d1 (p c : Int) : Int := if c = 9 then (if isoW p = true then 14 else p) else c
def w1 (p : Int) : List Int → List Int
  | [] => []
  | c :: l => d1 p c :: w1 (d1 p c) l
def q2 (p c : Int) : Int := if c = 1 ∨ c = 2 ∨ c = 3 then c else p
def d2 (p c : Int) : Int := if c = 4 ∧ q2 p c = 3 then 7 else c
def w2 (p : Int) : List Int → List Int
  | [] => []
  | c :: l => d2 p c :: w2 (q2 p c) l
def d3 (c : Int) : Int := if c = 3 then 2 else c
def w3 (l : List Int) : List Int := l.map d3
def d4 (p c n : Int) : Int := if p = 4 ∧ n = 4 ∧ (c = 5 ∨ c = 8) then 4 else if p = 7 ∧ n = 7 ∧ c = 8 then 7 else c
def w4 (p : Int) : List Int → List Int
  | [] => []
  | c :: l => d4 p c (l.headD 0) :: w4 (d4 p c (l.headD 0)) l
/-- what ends a sequence of ET is an EN -/
def feW : List Int → Bool
  | [] => false
  | c :: l => if c = 6 then feW l else c == 4
def w5 (p : Bool) : List Int → List Int
  | [] => []
  | c :: l => if c = 6 then (if (p || feW l) = true then 4 else 6) :: w5 p l else c :: w5 (c == 4) l
def d6 (c : Int) : Int := if c = 5 ∨ c = 6 ∨ c = 8 then 14 else c
def w6 (l : List Int) : List Int := l.map d6
def q7 (p c : Int) : Int := if c = 1 ∨ c = 2 ∨ c = 3 then c else p
def d7 (p c : Int) : Int := if c = 4 ∧ q7 p c = 1 then 1 else c
def w7 (p : Int) : List Int → List Int
  | [] => []
  | c :: l => d7 p c :: w7 (q7 p c) l
def weakW (sos : Int) (l : List Int) : List Int := w7 (sideW sos) (w6 (w5 false (w4 0 (w3 (w2 (sideW sos) (w1 (sideW sos) l))))))

theorem w1_len (p : Int) (l : List Int) : (w1 p l).length = l.length := by induction l generalizing p with | nil => rfl | cons c l ih => simp [w1, ih]
theorem w2_len (p : Int) (l : List Int) : (w2 p l).length = l.length := by induction l generalizing p with | nil => rfl | cons c l ih => simp [w2, ih]
theorem w3_len (l : List Int) : (w3 l).length = l.length := by simp [w3]
theorem w4_len (p : Int) (l : List Int) : (w4 p l).length = l.length := by induction l generalizing p with | nil => rfl | cons c l ih => simp [w4, ih]
theorem w5_len (p : Bool) (l : List Int) : (w5 p l).length = l.length := by
  induction l generalizing p with
  | nil => rfl
  | cons c l ih => unfold w5; split <;> simp [ih]
theorem w6_len (l : List Int) : (w6 l).length = l.length := by simp [w6]
theorem w7_len (p : Int) (l : List Int) : (w7 p l).length = l.length := by induction l generalizing p with | nil => rfl | cons c l ih => simp [w7, ih]
theorem weak_len (sos : Int) (l : List Int) : (weakW sos l).length = l.length := by unfold weakW; rw [w7_len, w6_len, w5_len, w4_len, w3_len, w2_len, w1_len]
theorem side_cases (sos : Int) : sideW sos = 1 ∨ sideW sos = 2 := by unfold sideW; split <;> simp

/-- what stays -/
def stayW (c : Int) : Bool := c == 1 || c == 2 || c == 7 || c == 11 || c == 12 || c == 13 || c == 14 || c == 20 || c == 21 || c == 22 || c == 23
theorem stay_not {c : Int} (h : stayW c = true) : c ≠ 9 ∧ c ≠ 4 ∧ c ≠ 3 ∧ c ≠ 5 ∧ c ≠ 6 ∧ c ≠ 8 := by
  refine ⟨?_, ?_, ?_, ?_, ?_, ?_⟩ <;> (intro e; subst e; exact absurd h (by decide))
def PwS : List Int → List Int → Prop
  | [], [] => True
  | c :: l, d :: m => (stayW c = true → d = c) ∧ PwS l m
  | _, _ => False
theorem PwS.trans : ∀ {l m k : List Int}, PwS l m → PwS m k → PwS l k
  | [], [], [], _, _ => trivial
  | c :: l, d :: m, e :: k, h1, h2 => ⟨fun h => by have a := h1.1 h; have b := h2.1 (by rw [a]; exact h); rw [b, a], PwS.trans h1.2 h2.2⟩
  | [], _ :: _, _, h1, _ => by cases h1
  | _ :: _, [], _, h1, _ => by cases h1
  | [], [], _ :: _, _, h2 => by cases h2
  | _ :: _, _ :: _, [], _, h2 => by cases h2
theorem PwS.at_ : ∀ {l m : List Int}, PwS l m → ∀ (i : Nat) c d, l[i]? = some c → m[i]? = some d → stayW c = true → d = c
  | c :: l, d :: m, h, 0, c', d', h1, h2, h3 => by simp at h1 h2; subst h1; subst h2; exact h.1 h3
  | c :: l, d :: m, h, i + 1, c', d', h1, h2, h3 => PwS.at_ h.2 i c' d' (by simpa using h1) (by simpa using h2) h3
  | [], _, h, i, c', d', h1, h2, h3 => by simp at h1
  | _ :: _, [], h, i, c', d', h1, h2, h3 => by cases h
theorem w1_stay (p : Int) (l : List Int) : PwS l (w1 p l) := by
  induction l generalizing p with
  | nil => trivial
  | cons c l ih => exact ⟨fun h => by unfold d1; rw [if_neg (stay_not h).1], ih _⟩
theorem w2_stay (p : Int) (l : List Int) : PwS l (w2 p l) := by
  induction l generalizing p with
  | nil => trivial
  | cons c l ih => exact ⟨fun h => by unfold d2; rw [if_neg fun e => (stay_not h).2.1 e.1], ih _⟩
theorem w3_stay (l : List Int) : PwS l (w3 l) := by
  induction l with
  | nil => trivial
  | cons c l ih => exact ⟨fun h => by unfold d3; rw [if_neg (stay_not h).2.2.1], ih⟩
theorem w4_stay (p : Int) (l : List Int) : PwS l (w4 p l) := by
  induction l generalizing p with
  | nil => trivial
  | cons c l ih => exact ⟨fun h => by
      unfold d4
      have := stay_not h
      rw [if_neg fun e => by rcases e.2.2 with e | e; exact this.2.2.2.1 e; exact this.2.2.2.2.2 e, if_neg fun e => this.2.2.2.2.2 e.2.2], ih _⟩
theorem w5_stay (p : Bool) (l : List Int) : PwS l (w5 p l) := by
  induction l generalizing p with
  | nil => trivial
  | cons c l ih =>
    unfold w5
    split
    · rename_i h6
      exact ⟨fun h => absurd h6 (stay_not h).2.2.2.2.1, ih _⟩
    · exact ⟨fun _ => rfl, ih _⟩
theorem w6_stay (l : List Int) : PwS l (w6 l) := by
  induction l with
  | nil => trivial
  | cons c l ih => exact ⟨fun h => by
      unfold d6
      have := stay_not h
      rw [if_neg fun e => by rcases e with e | e | e; exact this.2.2.2.1 e; exact this.2.2.2.2.1 e; exact this.2.2.2.2.2 e], ih⟩
theorem w7_stay (p : Int) (l : List Int) : PwS l (w7 p l) := by
  induction l generalizing p with
  | nil => trivial
  | cons c l ih => exact ⟨fun h => by unfold d7; rw [if_neg fun e => (stay_not h).2.1 e.1], ih _⟩
theorem weak_stay (sos : Int) (l : List Int) : PwS l (weakW sos l) := by
  unfold weakW
  exact (w1_stay _ _).trans ((w2_stay _ _).trans ((w3_stay _).trans ((w4_stay _ _).trans ((w5_stay _ _).trans ((w6_stay _).trans (w7_stay _ _))))))

theorem w1_mem (p : Int) (hp : p ≠ 9) (l : List Int) : ∀ c ∈ w1 p l, c ≠ 9 := by
  induction l generalizing p with
  | nil => intro c h; cases h
  | cons c l ih =>
    have hd : d1 p c ≠ 9 := by
      unfold d1
      split
      · split
        · decide
        · exact hp
      · assumption
    intro d h
    rw [w1, List.mem_cons] at h
    rcases h with rfl | h
    · exact hd
    · exact ih _ hd d h
theorem w2_mem (p : Int) (l : List Int) : ∀ c ∈ w2 p l, c ∈ l ∨ c = 7 := by
  induction l generalizing p with
  | nil => intro c h; cases h
  | cons c l ih =>
    intro d h
    rw [w2, List.mem_cons] at h
    rcases h with rfl | h
    · unfold d2
      split
      · exact .inr rfl
      · exact .inl (by simp)
    · rcases ih _ d h with h | h
      · exact .inl (List.mem_cons_of_mem _ h)
      · exact .inr h
theorem w3_mem (l : List Int) : ∀ c ∈ w3 l, c ≠ 3 ∧ (c ∈ l ∨ c = 2) := by
  intro d h
  obtain ⟨c, hc, rfl⟩ := List.mem_map.1 h
  unfold d3
  split
  · exact ⟨by decide, .inr rfl⟩
  · exact ⟨by assumption, .inl hc⟩
theorem w4_mem (p : Int) (l : List Int) : ∀ c ∈ w4 p l, c ∈ l ∨ c = 4 ∨ c = 7 := by
  induction l generalizing p with
  | nil => intro c h; cases h
  | cons c l ih =>
    intro d h
    rw [w4, List.mem_cons] at h
    rcases h with rfl | h
    · unfold d4
      split
      · exact .inr (.inl rfl)
      · split
        · exact .inr (.inr rfl)
        · exact .inl (by simp)
    · rcases ih _ d h with h | h
      · exact .inl (List.mem_cons_of_mem _ h)
      · exact .inr h
theorem w5_mem (p : Bool) (l : List Int) : ∀ c ∈ w5 p l, c ∈ l ∨ c = 4 := by
  induction l generalizing p with
  | nil => intro c h; cases h
  | cons c l ih =>
    intro d h
    unfold w5 at h
    split at h
    · rename_i h6
      rw [List.mem_cons] at h
      rcases h with rfl | h
      · split
        · exact .inr rfl
        · exact .inl (by rw [h6]; simp)
      · rcases ih _ d h with h | h
        · exact .inl (List.mem_cons_of_mem _ h)
        · exact .inr h
    · rw [List.mem_cons] at h
      rcases h with rfl | h
      · exact .inl (by simp)
      · rcases ih _ d h with h | h
        · exact .inl (List.mem_cons_of_mem _ h)
        · exact .inr h
theorem w6_mem (l : List Int) : ∀ c ∈ w6 l, c ≠ 5 ∧ c ≠ 6 ∧ c ≠ 8 ∧ (c ∈ l ∨ c = 14) := by
  intro d h
  obtain ⟨c, hc, rfl⟩ := List.mem_map.1 h
  unfold d6
  split
  · exact ⟨by decide, by decide, by decide, .inr rfl⟩
  · rename_i h
    exact ⟨fun e => h (.inl e), fun e => h (.inr (.inl e)), fun e => h (.inr (.inr e)), .inl hc⟩
theorem w7_mem (p : Int) (l : List Int) : ∀ c ∈ w7 p l, c ∈ l ∨ c = 1 := by
  induction l generalizing p with
  | nil => intro c h; cases h
  | cons c l ih =>
    intro d h
    rw [w7, List.mem_cons] at h
    rcases h with rfl | h
    · unfold d7
      split
      · exact .inr rfl
      · exact .inl (by simp)
    · rcases ih _ d h with h | h
      · exact .inl (List.mem_cons_of_mem _ h)
      · exact .inr h
/-- what is left -/
def leftW (c : Int) : Prop := c ≠ 9 ∧ c ≠ 3 ∧ c ≠ 5 ∧ c ≠ 6 ∧ c ≠ 8
theorem weak_left (sos : Int) (l : List Int) : ∀ c ∈ weakW sos l, leftW c := by
  intro c h
  have hp : sideW sos ≠ 9 := by rcases side_cases sos with h | h <;> rw [h] <;> decide
  unfold weakW at h
  rcases w7_mem _ _ c h with h | h
  · obtain ⟨a5, a6, a8, h⟩ := w6_mem _ c h
    rcases h with h | h
    · have key : c ≠ 9 ∧ c ≠ 3 := by
        rcases w5_mem _ _ c h with h | h
        · rcases w4_mem _ _ c h with h | h | h
          · obtain ⟨b3, h⟩ := w3_mem _ c h
            rcases h with h | h
            · rcases w2_mem _ _ c h with h | h
              · exact ⟨w1_mem _ hp _ c h, b3⟩
              · subst h; exact ⟨by decide, by decide⟩
            · subst h; exact ⟨by decide, by decide⟩
          · subst h; exact ⟨by decide, by decide⟩
          · subst h; exact ⟨by decide, by decide⟩
        · subst h; exact ⟨by decide, by decide⟩
      exact ⟨key.1, key.2, a5, a6, a8⟩
    · subst h; exact ⟨by decide, by decide, by decide, by decide, by decide⟩
  · subst h; exact ⟨by decide, by decide, by decide, by decide, by decide⟩

/-- lists on which only W7 has something to do -/
theorem w1_id (p : Int) (l : List Int) (h : ∀ c ∈ l, c ≠ 9) : w1 p l = l := by
  induction l generalizing p with
  | nil => rfl
  | cons c l ih =>
    have e : d1 p c = c := by unfold d1; rw [if_neg (h c (by simp))]
    rw [w1, e, ih _ fun d hd => h d (by simp [hd])]
theorem w2_id (p : Int) (hp : p ≠ 3) (l : List Int) (h : ∀ c ∈ l, c ≠ 3) : w2 p l = l := by
  induction l generalizing p with
  | nil => rfl
  | cons c l ih =>
    have hq : q2 p c ≠ 3 := by
      unfold q2
      split
      · exact h c (by simp)
      · exact hp
    have e : d2 p c = c := by unfold d2; rw [if_neg fun e => hq e.2]
    rw [w2, e, ih _ hq fun d hd => h d (by simp [hd])]
theorem w3_id (l : List Int) (h : ∀ c ∈ l, c ≠ 3) : w3 l = l := by
  unfold w3
  conv => rhs; rw [← List.map_id l]
  exact List.map_congr_left fun c hc => by unfold d3; rw [if_neg (h c hc)]; rfl
theorem w4_id (p : Int) (l : List Int) (h : ∀ c ∈ l, c ≠ 5 ∧ c ≠ 8) : w4 p l = l := by
  induction l generalizing p with
  | nil => rfl
  | cons c l ih =>
    have hc := h c (by simp)
    have e : d4 p c (l.headD 0) = c := by
      unfold d4
      rw [if_neg fun e => by rcases e.2.2 with e | e; exact hc.1 e; exact hc.2 e, if_neg fun e => hc.2 e.2.2]
    rw [w4, e, ih _ fun d hd => h d (by simp [hd])]
theorem w5_id (p : Bool) (l : List Int) (h : ∀ c ∈ l, c ≠ 6) : w5 p l = l := by
  induction l generalizing p with
  | nil => rfl
  | cons c l ih =>
    rw [w5, if_neg (h c (by simp)), ih _ fun d hd => h d (by simp [hd])]
theorem w6_id (l : List Int) (h : ∀ c ∈ l, c ≠ 5 ∧ c ≠ 6 ∧ c ≠ 8) : w6 l = l := by
  unfold w6
  conv => rhs; rw [← List.map_id l]
  exact List.map_congr_left fun c hc => by
    have := h c hc
    unfold d6
    rw [if_neg fun e => by rcases e with e | e | e; exact this.1 e; exact this.2.1 e; exact this.2.2 e]; rfl
theorem w7_twice (p : Int) (l : List Int) : w7 p (w7 p l) = w7 p l := by
  induction l generalizing p with
  | nil => rfl
  | cons c l ih =>
    rw [w7, w7]
    have e : q7 p (d7 p c) = q7 p c ∧ d7 p (d7 p c) = d7 p c := by
      by_cases h : c = 4 ∧ q7 p c = 1
      · obtain ⟨h1, h2⟩ := h
        subst h1
        have e : d7 p 4 = 1 := by unfold d7; rw [if_pos ⟨rfl, h2⟩]
        rw [e, h2]
        exact ⟨rfl, rfl⟩
      · have e : d7 p c = c := by unfold d7; rw [if_neg h]
        rw [e, e]
        exact ⟨rfl, rfl⟩
    rw [e.1, e.2, ih]
/-- P13.4: once more changes nothing -/
theorem weak_twice (sos : Int) (l : List Int) : weakW sos (weakW sos l) = weakW sos l := by
  have key : ∀ m : List Int, (∀ c ∈ m, leftW c) → weakW sos m = w7 (sideW sos) m := fun m h => by
    unfold weakW
    rw [w1_id _ _ fun c hc => (h c hc).1, w2_id (sideW sos) (by rcases side_cases sos with e | e <;> rw [e] <;> decide) _ fun c hc => (h c hc).2.1, w3_id _ fun c hc => (h c hc).2.1, w4_id 0 _ fun c hc => ⟨(h c hc).2.2.1, (h c hc).2.2.2.2⟩, w5_id false _ fun c hc => (h c hc).2.2.2.1,
      w6_id _ fun c hc => ⟨(h c hc).2.2.1, (h c hc).2.2.2.1, (h c hc).2.2.2.2⟩]
  rw [key _ (weak_left sos l)]
  unfold weakW
  rw [w7_twice]

section
variable (m : Int) (hm : m = 1 ∨ m = 2)
include hm
theorem w1_part (p : Int) (a b : List Int) : w1 p (a ++ m :: b) = w1 p a ++ m :: w1 m b := by
  induction a generalizing p with
  | nil =>
    have e : d1 p m = m := by unfold d1; rw [if_neg (by rcases hm with h | h <;> rw [h] <;> decide)]
    show d1 p m :: w1 (d1 p m) b = m :: w1 m b
    rw [e]
  | cons c a ih => show _ :: w1 _ (a ++ m :: b) = _; rw [ih]; rfl
theorem w2_last (x y : Int) (hx : x ≠ 3) (hy : y ≠ 3) (l : List Int) : w2 x l = w2 y l := by
  induction l generalizing x y with
  | nil => rfl
  | cons c l ih =>
    rw [w2, w2]
    by_cases h : c = 1 ∨ c = 2 ∨ c = 3
    · have e1 : q2 x c = c := by unfold q2; rw [if_pos h]
      have e2 : q2 y c = c := by unfold q2; rw [if_pos h]
      unfold d2
      rw [e1, e2]
    · have e1 : q2 x c = x := by unfold q2; rw [if_neg h]
      have e2 : q2 y c = y := by unfold q2; rw [if_neg h]
      unfold d2
      rw [e1, e2, if_neg fun e => hx e.2, if_neg fun e => hy e.2, ih x y hx hy]
theorem w2_part (p : Int) (a b : List Int) : w2 p (a ++ m :: b) = w2 p a ++ m :: w2 0 b := by
  induction a generalizing p with
  | nil =>
    have e : d2 p m = m := by unfold d2; rw [if_neg fun e => by rcases hm with h | h <;> rw [h] at e <;> exact absurd e.1 (by decide)]
    have e2 : q2 p m = m := by unfold q2; rw [if_pos (by rcases hm with h | h; exact .inl h; exact .inr (.inl h))]
    show d2 p m :: w2 (q2 p m) b = m :: w2 0 b
    rw [e, e2, w2_last m hm m 0 (by rcases hm with h | h <;> rw [h] <;> decide) (by decide)]
  | cons c a ih => show _ :: w2 _ (a ++ m :: b) = _; rw [ih]; rfl
theorem w3_part (a b : List Int) : w3 (a ++ m :: b) = w3 a ++ m :: w3 b := by
  have e : d3 m = m := by unfold d3; rw [if_neg (by rcases hm with h | h <;> rw [h] <;> decide)]
  unfold w3
  rw [List.map_append, List.map_cons, e]
theorem d4_next (p c x y : Int) (hx : x ≠ 4 ∧ x ≠ 7) (hy : y ≠ 4 ∧ y ≠ 7) : d4 p c x = d4 p c y := by
  unfold d4
  rw [if_neg fun e => hx.1 e.2.1, if_neg fun e => hx.2 e.2.1, if_neg fun e => hy.1 e.2.1, if_neg fun e => hy.2 e.2.1]
theorem w4_first (x y : Int) (hx : x ≠ 4 ∧ x ≠ 7) (hy : y ≠ 4 ∧ y ≠ 7) (l : List Int) : w4 x l = w4 y l := by
  cases l with
  | nil => rfl
  | cons c l =>
    have e1 : d4 x c (l.headD 0) = c := by unfold d4; rw [if_neg fun e => hx.1 e.1, if_neg fun e => hx.2 e.1]
    have e2 : d4 y c (l.headD 0) = c := by unfold d4; rw [if_neg fun e => hy.1 e.1, if_neg fun e => hy.2 e.1]
    rw [w4, w4, e1, e2]
theorem w4_part (p : Int) (a b : List Int) : w4 p (a ++ m :: b) = w4 p a ++ m :: w4 0 b := by
  have hm4 : m ≠ 4 ∧ m ≠ 7 := by rcases hm with h | h <;> rw [h] <;> exact ⟨by decide, by decide⟩
  induction a generalizing p with
  | nil =>
    have e : d4 p m (b.headD 0) = m := by
      unfold d4
      rw [if_neg fun e => by rcases hm with h | h <;> rw [h] at e <;> exact absurd e.2.2 (by decide), if_neg fun e => by rcases hm with h | h <;> rw [h] at e <;> exact absurd e.2.2 (by decide)]
    show d4 p m (b.headD 0) :: w4 (d4 p m (b.headD 0)) b = m :: w4 0 b
    rw [e, w4_first m hm m 0 hm4 ⟨by decide, by decide⟩]
  | cons c a ih =>
    have e : d4 p c ((a ++ m :: b).headD 0) = d4 p c (a.headD 0) := by
      cases a with
      | nil => exact d4_next m hm p c m 0 hm4 ⟨by decide, by decide⟩
      | cons d a => rfl
    show d4 p c ((a ++ m :: b).headD 0) :: w4 (d4 p c ((a ++ m :: b).headD 0)) (a ++ m :: b) = _
    rw [e, ih]; rfl
theorem fe_part (a b : List Int) : feW (a ++ m :: b) = feW a := by
  induction a with
  | nil =>
    show (if m = 6 then feW b else m == 4) = false
    rcases hm with h | h <;> rw [h] <;> rfl
  | cons c a ih =>
    show (if c = 6 then feW (a ++ m :: b) else c == 4) = if c = 6 then feW a else c == 4
    rw [ih]
theorem w5_part (p : Bool) (a b : List Int) : w5 p (a ++ m :: b) = w5 p a ++ m :: w5 false b := by
  induction a generalizing p with
  | nil =>
    show (if m = 6 then _ else m :: w5 (m == 4) b) = m :: w5 false b
    rcases hm with h | h <;> rw [h] <;> rfl
  | cons c a ih =>
    show (if c = 6 then (if (p || feW (a ++ m :: b)) = true then 4 else 6) :: w5 p (a ++ m :: b) else c :: w5 (c == 4) (a ++ m :: b)) = (if c = 6 then (if (p || feW a) = true then 4 else 6) :: w5 p a else c :: w5 (c == 4) a) ++ m :: w5 false b
    rw [fe_part m hm, ih, ih]
    split <;> rfl
theorem w6_part (a b : List Int) : w6 (a ++ m :: b) = w6 a ++ m :: w6 b := by
  have e : d6 m = m := by unfold d6; rw [if_neg (by rcases hm with h | h <;> rw [h] <;> decide)]
  unfold w6
  rw [List.map_append, List.map_cons, e]
theorem w7_part (p : Int) (a b : List Int) : w7 p (a ++ m :: b) = w7 p a ++ m :: w7 m b := by
  induction a generalizing p with
  | nil =>
    have e : d7 p m = m := by unfold d7; rw [if_neg fun e => by rcases hm with h | h <;> rw [h] at e <;> exact absurd e.1 (by decide)]
    have e2 : q7 p m = m := by unfold q7; rw [if_pos (by rcases hm with h | h; exact .inl h; exact .inr (.inl h))]
    show d7 p m :: w7 (q7 p m) b = m :: w7 m b
    rw [e, e2]
  | cons c a ih => show _ :: w7 _ (a ++ m :: b) = _; rw [ih]; rfl
/-- P13.4: an L or an R parts the work -/
theorem weak_part (sos : Int) (a b : List Int) : weakW sos (a ++ m :: b) = weakW sos a ++ m :: weakW m b := by
  have hs : sideW m = m := by rcases hm with h | h <;> rw [h] <;> rfl
  unfold weakW
  rw [w1_part m hm, w2_part m hm, w3_part m hm, w4_part m hm, w5_part m hm, w6_part m hm, w7_part m hm, hs, w2_last m hm 0 m (by decide) (by rcases hm with h | h <;> rw [h] <;> decide)]
end
end Go.Proofs.Ytlgdogebnopjfaa
