/-
  Mathematics of reordering: turning round every stretch of places that reach a level; all rounds from the greatest level to 1 are the rounds to the least odd level; what comes out is a permutation; raised by one it is turned round; neighbours of one level stay neighbours. No program, no condition.
-/
import Derived.ProofKit
set_option linter.unusedVariables false
set_option linter.unusedSimpArgs false
namespace Go.Proofs.Ytnocdminhcpmpaa

/-- every stretch of places with p is turned round; acc is the stretch so far, turned -/
def revG {α : Type} (p : α → Bool) : List α → List α → List α
  | acc, [] => acc
  | acc, x :: l => if p x = true then revG p (x :: acc) l else acc ++ x :: revG p [] l
section
variable {α : Type} {p q : α → Bool}
theorem rev_all : ∀ (s acc : List α), (∀ x ∈ s, p x = true) → revG p acc s = s.reverse ++ acc
  | [], acc, _ => rfl
  | x :: s, acc, h => by
    rw [revG, if_pos (h x (by simp)), rev_all s (x :: acc) fun y hy => h y (by simp [hy]), List.reverse_cons]
    simp
theorem rev_stop : ∀ (s acc : List α) (x : α) (r : List α), (∀ y ∈ s, p y = true) → p x = false → revG p acc (s ++ x :: r) = s.reverse ++ acc ++ x :: revG p [] r
  | [], acc, x, r, _, hx => by
    show revG p acc (x :: r) = _
    rw [revG, if_neg (by rw [hx]; decide)]; rfl
  | y :: s, acc, x, r, h, hx => by
    show revG p acc (y :: (s ++ x :: r)) = _
    rw [revG, if_pos (h y (by simp)), rev_stop s (y :: acc) x r (fun z hz => h z (by simp [hz])) hx, List.reverse_cons]
    simp
theorem rev_split (p : α → Bool) : ∀ l : List α, (∀ x ∈ l, p x = true) ∨ ∃ s x r, l = s ++ x :: r ∧ (∀ y ∈ s, p y = true) ∧ p x = false
  | [] => .inl fun x h => by cases h
  | a :: l => by
    cases ha : p a with
    | false => exact .inr ⟨[], a, l, rfl, (fun y h => by cases h), ha⟩
    | true =>
      rcases rev_split p l with h | ⟨s, x, r, h1, h2, h3⟩
      · left
        intro x hx
        rw [List.mem_cons] at hx
        rcases hx with rfl | hx
        · exact ha
        · exact h x hx
      · refine .inr ⟨a :: s, x, r, by rw [h1]; rfl, fun y hy => ?_, h3⟩
        rw [List.mem_cons] at hy
        rcases hy with rfl | hy
        · exact ha
        · exact h2 y hy
theorem rev_perm : ∀ (l acc : List α), (revG p acc l).Perm (acc ++ l)
  | [], acc => by rw [revG, List.append_nil]
  | x :: l, acc => by
    rw [revG]
    split
    · exact (rev_perm l (x :: acc)).trans (by
        show (x :: (acc ++ l)).Perm (acc ++ x :: l)
        exact List.perm_middle.symm)
    · exact List.Perm.append_left _ (List.Perm.cons _ (rev_perm l []))
theorem rev_congr : ∀ (l acc : List α), (∀ x ∈ l, p x = q x) → revG p acc l = revG q acc l
  | [], acc, _ => rfl
  | x :: l, acc, h => by
    rw [revG, revG, h x (by simp), rev_congr l (x :: acc) fun y hy => h y (by simp [hy]), rev_congr l [] fun y hy => h y (by simp [hy])]
theorem rev_none : ∀ (l : List α), (∀ x ∈ l, p x = false) → revG p [] l = l
  | [], _ => rfl
  | x :: l, h => by
    rw [revG, if_neg (by rw [h x (by simp)]; decide), rev_none l fun y hy => h y (by simp [hy])]
    rfl
/-- twice is nothing -/
theorem rev_twice (p : α → Bool) : ∀ (n : Nat) (l : List α), l.length ≤ n → revG p [] (revG p [] l) = l
  | 0, l, hn => by
    have : l = [] := List.eq_nil_of_length_eq_zero (by omega)
    subst this
    rfl
  | n + 1, l, hn => by
    rcases rev_split p l with h | ⟨s, x, r, rfl, h2, h3⟩
    · rw [rev_all l [] h, List.append_nil, rev_all l.reverse [] fun x hx => h x (List.mem_reverse.1 hx), List.reverse_reverse, List.append_nil]
    · rw [rev_stop s [] x r h2 h3, List.append_nil, rev_stop s.reverse [] x _ (fun y hy => h2 y (List.mem_reverse.1 hy)) h3, List.reverse_reverse, List.append_nil, rev_twice p n r (by simp at hn; omega)]
/-- two neighbours that both have p, or both haven't, stay neighbours -/
def Near (l : List Nat) (a b : Nat) : Prop := ∃ u w, l = u ++ a :: b :: w
theorem near_in {l : List Nat} {a b : Nat} (h : Near l a b) : a ∈ l ∧ b ∈ l := by
  obtain ⟨u, w, rfl⟩ := h
  simp
theorem near_rev {l : List Nat} {a b : Nat} (h : Near l a b) : Near l.reverse b a := by
  obtain ⟨u, w, rfl⟩ := h
  exact ⟨w.reverse, u.reverse, by simp⟩
theorem near_left {l m : List Nat} {a b : Nat} (h : Near l a b) : Near (l ++ m) a b := by
  obtain ⟨u, w, rfl⟩ := h
  exact ⟨u, w ++ m, by simp⟩
theorem near_right {l m : List Nat} {a b : Nat} (h : Near m a b) : Near (l ++ m) a b := by
  obtain ⟨u, w, rfl⟩ := h
  exact ⟨l ++ u, w, by simp⟩
theorem near_cases {s r : List Nat} {x a b : Nat} (h : Near (s ++ x :: r) a b) : Near s a b ∨ (∃ u, s = u ++ [a] ∧ b = x) ∨ (a = x ∧ ∃ w, r = b :: w) ∨ Near r a b := by
  obtain ⟨u, w, h⟩ := h
  rcases Nat.lt_trichotomy (u.length + 1) s.length with h1 | h1 | h1
  · left
    obtain ⟨t, ht⟩ : ∃ t, s = u ++ a :: b :: t := by
      have e : s = (s ++ x :: r).take s.length := by simp
      rw [h, List.take_append] at e
      refine ⟨w.take (s.length - u.length - 2), ?_⟩
      rw [List.take_of_length_le (by omega)] at e
      obtain ⟨k, hk⟩ : ∃ k, s.length - u.length = k + 2 := ⟨s.length - u.length - 2, by omega⟩
      rw [hk] at e ⊢
      exact e
    exact ⟨u, t, ht⟩
  · right; left
    have e := congrArg (List.take (u.length + 1)) h
    rw [h1, List.take_left' rfl, ← h1, List.take_append, List.take_of_length_le (by omega), Nat.add_sub_cancel_left] at e
    have e2 := congrArg (List.drop (u.length + 1)) h
    rw [h1, List.drop_left' rfl, ← h1, List.drop_append, List.drop_eq_nil_of_le (by omega), Nat.add_sub_cancel_left] at e2
    simp at e2
    exact ⟨u, e, e2.1.symm⟩
  · right; right
    rcases Nat.lt_or_ge s.length u.length with h2 | h2
    · right
      have e2 := congrArg (List.drop (s.length + 1)) h
      rw [show s ++ x :: r = (s ++ [x]) ++ r by simp, List.drop_left' (by simp), List.drop_append_of_le_length (by omega)] at e2
      exact ⟨u.drop (s.length + 1), w, e2⟩
    · left
      have hl : u.length = s.length := by omega
      have := List.append_inj h.symm (by omega)
      obtain ⟨e1, e2⟩ := this
      injection e2 with e2 e3
      exact ⟨e2, w, e3.symm⟩
theorem near_head {l : List Nat} {b : Nat} {w : List Nat} (p : Nat → Bool) (hb : p b = false) : ∃ t, revG p [] (b :: w) = b :: t := by
  rw [revG, if_neg (by rw [hb]; decide)]
  exact ⟨_, rfl⟩
theorem near_keep (p : Nat → Bool) (a b : Nat) (ha : p a = p b) : ∀ (n : Nat) (l : List Nat), l.length ≤ n → Near l a b → if p a = true then Near (revG p [] l) b a else Near (revG p [] l) a b
  | 0, l, hn, h => by
    have : l = [] := List.eq_nil_of_length_eq_zero (by omega)
    subst this
    have := (near_in h).1
    cases this
  | n + 1, l, hn, h => by
    rcases rev_split p l with hl | ⟨s, x, r, rfl, h2, h3⟩
    · rw [if_pos (hl a (near_in h).1), rev_all l [] hl, List.append_nil]
      exact near_rev h
    · rw [rev_stop s [] x r h2 h3, List.append_nil]
      rcases near_cases h with h4 | ⟨u, h4, h5⟩ | ⟨h4, w, h5⟩ | h4
      · rw [if_pos (h2 a (near_in h4).1)]
        exact near_left (near_rev h4)
      · exfalso
        have h6 := h2 a (by rw [h4]; simp)
        rw [ha, h5, h3] at h6
        cases h6
      · have hb : p b = false := by rw [← ha, h4]; exact h3
        have hpa : p a = false := by rw [ha]; exact hb
        rw [if_neg (by rw [hpa]; decide)]
        obtain ⟨t, ht⟩ := near_head (l := r) (w := w) p hb
        rw [h5, ht, h4]
        exact near_right ⟨[], t, rfl⟩
      · have ih := near_keep p a b ha n r (by simp at hn; omega) h4
        have hcons : ∀ c d, Near (revG p [] r) c d → Near (s.reverse ++ x :: revG p [] r) c d := fun c d hk => near_right (by
          obtain ⟨u, w, hu⟩ := hk
          exact ⟨x :: u, w, by rw [hu]; rfl⟩)
        by_cases hpa : p a = true
        · rw [if_pos hpa] at ih ⊢
          exact hcons _ _ ih
        · rw [if_neg hpa] at ih ⊢
          exact hcons _ _ ih
end

section
variable (lv : Nat → Nat)
/-- the round of a level -/
def rndG (k : Nat) (out : List Nat) : List Nat := revG (fun x => decide (k ≤ lv x)) [] out
/-- n rounds, down to level j -/
def rdsG (j : Nat) : Nat → List Nat → List Nat
  | 0, out => out
  | n + 1, out => rndG lv j (rdsG (j + 1) n out)
theorem rnd_perm (k : Nat) (out : List Nat) : (rndG lv k out).Perm out := rev_perm out []
theorem rds_perm : ∀ (n j : Nat) (out : List Nat), (rdsG lv j n out).Perm out
  | 0, j, out => List.Perm.refl _
  | n + 1, j, out => (rnd_perm lv j _).trans (rds_perm n (j + 1) out)
theorem rds_more : ∀ (n m j : Nat) (out : List Nat), rdsG lv j (n + m) out = rdsG lv j n (rdsG lv (j + n) m out)
  | 0, m, j, out => by rw [Nat.zero_add]; rfl
  | n + 1, m, j, out => by
    rw [show n + 1 + m = (n + m) + 1 by omega, rdsG, rds_more n m (j + 1) out, rdsG, show j + 1 + n = j + (n + 1) by omega]
/-- rounds above all levels do nothing -/
theorem rds_above : ∀ (n j : Nat) (out : List Nat), (∀ x ∈ out, lv x < j) → rdsG lv j n out = out
  | 0, j, out, h => rfl
  | n + 1, j, out, h => by
    rw [rdsG, rds_above n (j + 1) out fun x hx => by have := h x hx; omega]
    exact rev_none out fun x hx => decide_eq_false (by have := h x hx; omega)
/-- two rounds with no level between them are nothing -/
theorem rnd_pair (k : Nat) (out : List Nat) (h : ∀ x ∈ out, lv x ≠ k) : rndG lv k (rndG lv (k + 1) out) = out := by
  have e : rndG lv k (rndG lv (k + 1) out) = rndG lv (k + 1) (rndG lv (k + 1) out) := by
    unfold rndG
    refine rev_congr _ _ fun x hx => ?_
    have hx2 := (rev_perm out []).mem_iff.1 hx
    have := h x (by simpa using hx2)
    by_cases h1 : k + 1 ≤ lv x
    · rw [decide_eq_true h1, decide_eq_true (by omega)]
    · rw [decide_eq_false h1, decide_eq_false (by omega)]
  rw [e]
  exact rev_twice _ _ out (Nat.le_refl _)
/-- an even number of rounds below the least odd level are nothing -/
theorem rds_below : ∀ (n j : Nat) (out : List Nat), (∀ x ∈ out, ∀ i, i < n → lv x ≠ j + 2 * i) → rdsG lv j (2 * n) out = out
  | 0, j, out, h => rfl
  | n + 1, j, out, h => by
    rw [show 2 * (n + 1) = (2 * n) + 1 + 1 by omega, rdsG, rdsG, show j + 1 + 1 = j + 2 by omega, rds_below n (j + 2) out fun x hx i hi => by have := h x hx (i + 1) (by omega); omega]
    exact rnd_pair lv j out fun x hx => by have := h x hx 0 (by omega); omega
/-- the rounds to the least odd level are all rounds -/
theorem rds_odd (c n : Nat) (out : List Nat) (h : ∀ x ∈ out, ∀ i, i < c → lv x ≠ 1 + 2 * i) : rdsG lv 1 (2 * c + n) out = rdsG lv (2 * c + 1) n out := by
  rw [rds_more lv (2 * c) n 1 out, rds_below lv c 1 _ fun x hx i hi => h x ((rds_perm lv n _ out).mem_iff.1 hx) i hi, Nat.add_comm 1]
/-- all rounds, of levels of at most 126 -/
def visG (out : List Nat) : List Nat := rdsG lv 1 126 out
theorem vis_perm (out : List Nat) : (visG lv out).Perm out := rds_perm lv 126 1 out
end
/-- raised by one, the order is turned round -/
theorem rnd_up (lv : Nat → Nat) (k : Nat) (out : List Nat) : rndG (fun x => lv x + 1) (k + 1) out = rndG lv k out := by
  unfold rndG
  refine rev_congr _ _ fun x _ => ?_
  show decide (k + 1 ≤ lv x + 1) = decide (k ≤ lv x)
  by_cases h : k ≤ lv x
  · rw [decide_eq_true h, decide_eq_true (by omega)]
  · rw [decide_eq_false h, decide_eq_false (by omega)]
theorem rds_up (lv : Nat → Nat) : ∀ (n j : Nat) (out : List Nat), rdsG (fun x => lv x + 1) (j + 1) n out = rdsG lv j n out
  | 0, j, out => rfl
  | n + 1, j, out => by rw [rdsG, rdsG, rds_up lv n (j + 1) out, rnd_up]
theorem vis_up (lv : Nat → Nat) (out : List Nat) (h : ∀ x ∈ out, lv x ≤ 125) : visG (fun x => lv x + 1) out = (visG lv out).reverse := by
  unfold visG
  rw [rds_up lv 126 0 out, rdsG]
  have e : rdsG lv 1 126 out = rdsG lv 1 125 out := by
    rw [rds_more lv 125 1 1 out, rds_above lv 1 (1 + 125) out fun x hx => by have := h x hx; omega]
  rw [e]
  unfold rndG
  rw [rev_all _ [] fun x _ => decide_eq_true (Nat.zero_le _), List.append_nil]
/-- one level alone -/
theorem vis_flat (lv : Nat → Nat) (k : Nat) (out : List Nat) (hk : k ≤ 126) (h : ∀ x ∈ out, lv x = k) : visG lv out = if k % 2 = 0 then out else out.reverse := by
  have key : ∀ (n j : Nat) (l : List Nat), (∀ x ∈ l, lv x = k) → j + n ≤ k + 1 → rdsG lv j n l = if n % 2 = 0 then l else l.reverse := by
    intro n
    induction n with
    | zero => intro j l _ _; rfl
    | succ n ih =>
      intro j l hl hj
      rw [rdsG, ih (j + 1) l hl (by omega)]
      unfold rndG
      have hrev : ∀ m : List Nat, (∀ x ∈ m, lv x = k) → revG (fun x => decide (j ≤ lv x)) [] m = m.reverse := fun m hm => by
        rw [rev_all m [] fun x hx => decide_eq_true (by rw [hm x hx]; omega), List.append_nil]
      by_cases hn : n % 2 = 0
      · rw [if_pos hn, if_neg (by omega), hrev l hl]
      · rw [if_neg hn, if_pos (by omega), hrev _ fun x hx => hl x (List.mem_reverse.1 hx), List.reverse_reverse]
  unfold visG
  rw [show (126 : Nat) = k + (126 - k) by omega, rds_more lv k (126 - k) 1 out, rds_above lv _ _ out fun x hx => by rw [h x hx]; omega]
  exact key k 1 out h (by omega)
/-- neighbours of one level stay neighbours: turned as often as there are rounds down to 1 from that level -/
theorem rds_near (lv : Nat → Nat) (a b v : Nat) (ha : lv a = v) (hb : lv b = v) : ∀ (n j : Nat) (out : List Nat), Near out a b →
    if (min (j + n) (v + 1) - min j (v + 1)) % 2 = 0 then Near (rdsG lv j n out) a b else Near (rdsG lv j n out) b a
  | 0, j, out, h => by
    rw [if_pos (by simp)]
    exact h
  | n + 1, j, out, h => by
    have ih := rds_near lv a b v ha hb n (j + 1) out h
    rw [rdsG]
    unfold rndG
    have hab := near_keep (fun x => decide (j ≤ lv x)) a b (by show decide (j ≤ lv a) = decide (j ≤ lv b); rw [ha, hb]) _ (rdsG lv (j + 1) n out) (Nat.le_refl _)
    have hba := near_keep (fun x => decide (j ≤ lv x)) b a (by show decide (j ≤ lv b) = decide (j ≤ lv a); rw [ha, hb]) _ (rdsG lv (j + 1) n out) (Nat.le_refl _)
    simp only [ha] at hab
    simp only [hb] at hba
    by_cases hj : j ≤ v
    · rw [decide_eq_true hj] at hab hba
      simp only [if_true] at hab hba
      by_cases hm : (min (j + 1 + n) (v + 1) - min (j + 1) (v + 1)) % 2 = 0
      · rw [if_pos hm] at ih
        rw [if_neg (by omega)]
        exact hab ih
      · rw [if_neg hm] at ih
        rw [if_pos (by omega)]
        exact hba ih
    · rw [decide_eq_false hj] at hab hba
      simp only [Bool.false_eq_true, if_false] at hab hba
      by_cases hm : (min (j + 1 + n) (v + 1) - min (j + 1) (v + 1)) % 2 = 0
      · rw [if_pos hm] at ih
        rw [if_pos (by omega)]
        exact hab ih
      · rw [if_neg hm] at ih
        omega
theorem vis_near (lv : Nat → Nat) (a b v : Nat) (ha : lv a = v) (hb : lv b = v) (hv : v ≤ 126) (out : List Nat) (h : Near out a b) : if v % 2 = 0 then Near (visG lv out) a b else Near (visG lv out) b a := by
  have := rds_near lv a b v ha hb 126 1 out h
  have e : (min (1 + 126) (v + 1) - min 1 (v + 1)) % 2 = v % 2 := by omega
  rw [e] at this
  exact this
end Go.Proofs.Ytnocdminhcpmpaa
