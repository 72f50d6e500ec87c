/-
  Mathematics of resolving paired brackets: what a pair becomes, the characters behind a bracket, that only pairs and what follows them change, that both brackets of a pair get the same class. No program, no condition.
-/
import Derived.Test.YtlopddiplmjpfaaBrk
import Derived.KernelRfl
set_option linter.unusedVariables false
set_option linter.unusedSimpArgs false
namespace Go.Proofs.Ytlopddiplmjpfaa

def strongB (c : Int) : Int := if c = 1 then 1 else if c = 2 ∨ c = 4 ∨ c = 7 then 2 else 0
/-- the last strong one before place n, sos if there is none -/
def aheadB (cs : List Int) (sos : Int) : Nat → Int
  | 0 => sos
  | n + 1 => if strongB (cs.getD n 0) ≠ 0 then strongB (cs.getD n 0) else aheadB cs sos n
/-- what a pair becomes, 0: it stays -/
def wayB (cs : List Int) (p : Nat × Nat) (own sos : Int) : Int :=
  let l := (cs.drop (p.1 + 1)).take (p.2 - (p.1 + 1))
  if l.any (fun c => strongB c == own) = true then own
  else if l.any (fun c => strongB c != 0) = true then aheadB cs sos p.1
  else 0

def nsmB (t : List Int) (i : Nat) : Bool := decide (i < t.length) && (ofP (t.getD i 0)).bidi == 9
/-- the characters from place i on that follow a bracket -/
def runSet (t : List Int) (c : Int) : Nat → Nat → List Int → List Int
  | 0, _, cs => cs
  | f + 1, i, cs => if nsmB t i = true then runSet t c f (i + 1) (cs.set i c) else cs
def putC (t : List Int) (c : Int) (i : Nat) (cs : List Int) : List Int := runSet t c (t.length - (i + 1)) (i + 1) (cs.set i c)
theorem runSet_len (t : List Int) (c : Int) : ∀ f i cs, (runSet t c f i cs).length = cs.length
  | 0, _, _ => rfl
  | f + 1, i, cs => by
    unfold runSet
    split
    · rw [runSet_len t c f, List.length_set]
    · rfl
theorem runSet_low (t : List Int) (c : Int) : ∀ f i cs j, j < i → (runSet t c f i cs)[j]? = cs[j]?
  | 0, _, _, _, _ => rfl
  | f + 1, i, cs, j, h => by
    unfold runSet
    split
    · rw [runSet_low t c f (i + 1) _ j (by omega), List.getElem?_set_ne (by omega)]
    · rfl
theorem runSet_not (t : List Int) (c : Int) : ∀ f i cs j, nsmB t j = false → (runSet t c f i cs)[j]? = cs[j]?
  | 0, _, _, _, _ => rfl
  | f + 1, i, cs, j, h => by
    unfold runSet
    split
    · rename_i hi
      rw [runSet_not t c f (i + 1) _ j h, List.getElem?_set_ne (by rintro rfl; rw [h] at hi; cases hi)]
    · rfl
theorem runSet_run (t : List Int) (c : Int) : ∀ f i cs j, (runSet t c f i cs)[j]? ≠ cs[j]? → i ≤ j ∧ ∀ x, i ≤ x → x ≤ j → nsmB t x = true
  | 0, _, _, _, h => absurd rfl h
  | f + 1, i, cs, j, h => by
    unfold runSet at h
    split at h
    · rename_i hi
      by_cases e : (runSet t c f (i + 1) (cs.set i c))[j]? = (cs.set i c)[j]?
      · rw [e] at h
        have hj : j = i := by
          by_cases hj : i = j
          · exact hj.symm
          · rw [List.getElem?_set_ne hj] at h; exact absurd rfl h
        subst hj
        exact ⟨Nat.le_refl _, fun x h1 h2 => by obtain rfl : x = j := by omega
                                                exact hi⟩
      · obtain ⟨h1, h2⟩ := runSet_run t c f (i + 1) _ j e
        refine ⟨by omega, fun x h3 h4 => ?_⟩
        by_cases hx : x = i
        · subst hx; exact hi
        · exact h2 x (by omega) h4
    · exact absurd rfl h
theorem putC_len (t : List Int) (c : Int) (i : Nat) (cs : List Int) : (putC t c i cs).length = cs.length := by unfold putC; rw [runSet_len, List.length_set]
theorem putC_at (t : List Int) (c : Int) (i : Nat) (cs : List Int) (h : i < cs.length) : (putC t c i cs)[i]? = some c := by
  unfold putC
  rw [runSet_low _ _ _ _ _ _ (Nat.lt_succ_self i), List.getElem?_set_self h]
theorem putC_not (t : List Int) (c : Int) (i j : Nat) (cs : List Int) (hj : i ≠ j) (h : nsmB t j = false) : (putC t c i cs)[j]? = cs[j]? := by
  unfold putC
  rw [runSet_not _ _ _ _ _ _ h, List.getElem?_set_ne hj]
/-- what has changed is the bracket, or follows it -/
theorem putC_run (t : List Int) (c : Int) (i j : Nat) (cs : List Int) (h : (putC t c i cs)[j]? ≠ cs[j]?) : i ≤ j ∧ ∀ x, i < x → x ≤ j → nsmB t x = true := by
  unfold putC at h
  by_cases e : (runSet t c (t.length - (i + 1)) (i + 1) (cs.set i c))[j]? = (cs.set i c)[j]?
  · rw [e] at h
    have hj : i = j := by
      by_cases hj : i = j
      · exact hj
      · rw [List.getElem?_set_ne hj] at h; exact absurd rfl h
    subst hj
    exact ⟨Nat.le_refl _, fun x h1 h2 => by omega⟩
  · obtain ⟨h1, h2⟩ := runSet_run _ _ _ _ _ _ e
    exact ⟨by omega, fun x h3 h4 => h2 x h3 h4⟩

/-- one pair -/
def res1 (t : List Int) (own sos : Int) (cs : List Int) (p : Nat × Nat) : List Int :=
  if wayB cs p own sos = 0 then cs else putC t (wayB cs p own sos) p.2 (putC t (wayB cs p own sos) p.1 cs)
/-- all pairs, in their order -/
def resL (t : List Int) (own sos : Int) (l : List (Nat × Nat)) (cs : List Int) : List Int := l.foldl (res1 t own sos) cs
theorem res1_len (t : List Int) (own sos : Int) (cs : List Int) (p : Nat × Nat) : (res1 t own sos cs p).length = cs.length := by
  unfold res1
  split
  · rfl
  · rw [putC_len, putC_len]
theorem resL_len (t : List Int) (own sos : Int) : ∀ l cs, (resL t own sos l cs).length = cs.length
  | [], _ => rfl
  | p :: l, cs => by
    show (resL t own sos l (res1 t own sos cs p)).length = _
    rw [resL_len t own sos l, res1_len]
theorem resL_snoc (t : List Int) (own sos : Int) (l : List (Nat × Nat)) (p : Nat × Nat) (cs : List Int) : resL t own sos (l ++ [p]) cs = res1 t own sos (resL t own sos l cs) p := by
  unfold resL
  rw [List.foldl_append]; rfl
theorem res1_run (t : List Int) (own sos : Int) (cs : List Int) (p : Nat × Nat) (j : Nat) (h : (res1 t own sos cs p)[j]? ≠ cs[j]?) : ∃ i, (i = p.1 ∨ i = p.2) ∧ i ≤ j ∧ ∀ x, i < x → x ≤ j → nsmB t x = true := by
  unfold res1 at h
  split at h
  · exact absurd rfl h
  · by_cases e : (putC t (wayB cs p own sos) p.2 (putC t (wayB cs p own sos) p.1 cs))[j]? = (putC t (wayB cs p own sos) p.1 cs)[j]?
    · rw [e] at h
      obtain ⟨h1, h2⟩ := putC_run _ _ _ _ _ h
      exact ⟨p.1, .inl rfl, h1, h2⟩
    · obtain ⟨h1, h2⟩ := putC_run _ _ _ _ _ e
      exact ⟨p.2, .inr rfl, h1, h2⟩
/-- only brackets of pairs change, and what follows them -/
theorem resL_run (t : List Int) (own sos : Int) : ∀ l cs j, (resL t own sos l cs)[j]? ≠ cs[j]? → ∃ p ∈ l, ∃ i, (i = p.1 ∨ i = p.2) ∧ i ≤ j ∧ ∀ x, i < x → x ≤ j → nsmB t x = true
  | [], _, _, h => absurd rfl h
  | p :: l, cs, j, h => by
    have h' : (resL t own sos l (res1 t own sos cs p))[j]? ≠ cs[j]? := h
    by_cases e : (resL t own sos l (res1 t own sos cs p))[j]? = (res1 t own sos cs p)[j]?
    · rw [e] at h'
      obtain ⟨i, h1⟩ := res1_run t own sos cs p j h'
      exact ⟨p, by simp, i, h1⟩
    · obtain ⟨q, hq, h1⟩ := resL_run t own sos l _ j e
      exact ⟨q, by simp [hq], h1⟩
theorem res1_other (t : List Int) (own sos : Int) (cs : List Int) (p : Nat × Nat) (j : Nat) (h1 : p.1 ≠ j) (h2 : p.2 ≠ j) (h : nsmB t j = false) : (res1 t own sos cs p)[j]? = cs[j]? := by
  unfold res1
  split
  · rfl
  · rw [putC_not _ _ _ _ _ h2 h, putC_not _ _ _ _ _ h1 h]
theorem res1_same (t : List Int) (own sos : Int) (cs : List Int) (p : Nat × Nat) (hne : p.1 ≠ p.2) (h1 : nsmB t p.1 = false) (h2 : nsmB t p.2 = false) (b1 : p.1 < cs.length) (b2 : p.2 < cs.length) (h : cs[p.1]? = cs[p.2]?) : (res1 t own sos cs p)[p.1]? = (res1 t own sos cs p)[p.2]? := by
  unfold res1
  split
  · exact h
  · rw [putC_not _ _ _ _ _ (Ne.symm hne) h1, putC_at _ _ _ _ b1, putC_at _ _ _ _ (by rw [putC_len]; exact b2)]
theorem resL_other (t : List Int) (own sos : Int) (j : Nat) (hn : nsmB t j = false) : ∀ l cs, (∀ p ∈ l, p.1 ≠ j ∧ p.2 ≠ j) → (resL t own sos l cs)[j]? = cs[j]?
  | [], _, _ => rfl
  | p :: l, cs, h => by
    show (resL t own sos l (res1 t own sos cs p))[j]? = _
    obtain ⟨a, b⟩ := h p (by simp)
    rw [resL_other t own sos j hn l _ (fun q hq => h q (by simp [hq])), res1_other _ _ _ _ _ _ a b hn]
/-- both brackets of a pair get the same class -/
theorem resL_same (t : List Int) (own sos : Int) : ∀ l cs, l.Pairwise (fun p q => (p.1 ≠ q.1 ∧ p.2 ≠ q.1) ∧ (p.1 ≠ q.2 ∧ p.2 ≠ q.2)) → (∀ p ∈ l, p.1 ≠ p.2 ∧ nsmB t p.1 = false ∧ nsmB t p.2 = false ∧ p.1 < cs.length ∧ p.2 < cs.length ∧ cs[p.1]? = cs[p.2]?) →
    ∀ p ∈ l, (resL t own sos l cs)[p.1]? = (resL t own sos l cs)[p.2]?
  | [], _, _, _, p, hp => by simp at hp
  | q :: l, cs, hd, hg, p, hp => by
    rw [List.pairwise_cons] at hd
    obtain ⟨q1, q2, q3, q4, q5, q6⟩ := hg q (by simp)
    show (resL t own sos l (res1 t own sos cs q))[p.1]? = (resL t own sos l (res1 t own sos cs q))[p.2]?
    rw [List.mem_cons] at hp
    rcases hp with rfl | hp
    · rw [resL_other t own sos p.1 q2 l _ (fun r hr => ⟨(hd.1 r hr).1.1.symm, (hd.1 r hr).2.1.symm⟩), resL_other t own sos p.2 q3 l _ (fun r hr => ⟨(hd.1 r hr).1.2.symm, (hd.1 r hr).2.2.symm⟩)]
      exact res1_same t own sos cs p q1 q2 q3 q4 q5 q6
    · refine resL_same t own sos l _ hd.2 (fun r hr => ?_) p hp
      obtain ⟨r1, r2, r3, r4, r5, r6⟩ := hg r (by simp [hr])
      obtain ⟨⟨d1, d2⟩, d3, d4⟩ := hd.1 r hr
      refine ⟨r1, r2, r3, by rw [res1_len]; exact r4, by rw [res1_len]; exact r5, ?_⟩
      rw [res1_other _ _ _ _ _ _ d1 d2 r2, res1_other _ _ _ _ _ _ d3 d4 r3, r6]
/-- nothing strong: nothing changes -/
theorem way_quiet (cs : List Int) (p : Nat × Nat) (own sos : Int) (ho : own = 1 ∨ own = 2) (h : ∀ c ∈ cs, strongB c = 0) : wayB cs p own sos = 0 := by
  unfold wayB
  have hm : ∀ c ∈ (cs.drop (p.1 + 1)).take (p.2 - (p.1 + 1)), strongB c = 0 := fun c hc => h c (List.mem_of_mem_drop (List.mem_of_mem_take hc))
  have h1 : ((cs.drop (p.1 + 1)).take (p.2 - (p.1 + 1))).any (fun c => strongB c == own) = false := by
    rw [List.any_eq_false]
    intro c hc
    rw [hm c hc]
    rcases ho with rfl | rfl <;> decide
  have h2 : ((cs.drop (p.1 + 1)).take (p.2 - (p.1 + 1))).any (fun c => strongB c != 0) = false := by
    rw [List.any_eq_false]
    intro c hc
    rw [hm c hc]
    decide
  simp only [h1, h2]
  rfl
theorem resL_quiet (t : List Int) (own sos : Int) (cs : List Int) (ho : own = 1 ∨ own = 2) (h : ∀ c ∈ cs, strongB c = 0) : ∀ l, resL t own sos l cs = cs
  | [] => rfl
  | p :: l => by
    show resL t own sos l (res1 t own sos cs p) = cs
    have : res1 t own sos cs p = cs := by unfold res1; rw [if_pos (way_quiet cs p own sos ho h)]
    rw [this]
    exact resL_quiet t own sos cs ho h l

theorem findR_mem : ∀ (l : List Rw) (r : Int) (p : Pr), findR l r = some p → ∃ x ∈ l, x.p = p
  | [], _, _, h => by simp [findR] at h
  | x :: l, r, p, h => by
    by_cases hx : x.f ≤ r ∧ r ≤ x.t
    · rw [findR_yes x l r hx] at h
      injection h with h
      exact ⟨x, by simp, h⟩
    · rw [findR_no x l r hx] at h
      obtain ⟨y, hy, he⟩ := findR_mem l r p h
      exact ⟨y, by simp [hy], he⟩
/-- what holds of every row, and of the rest, holds of every code -/
theorem ofP_all (f : Pr → Bool) (h1 : tab.all (fun x => f x.p) = true) (h2 : f Pr.rest = true) (h3 : ∀ p : Pr, f { p with cl := 12, br := 33 } = f p) (r : Int) : f (ofP r) = true := by
  unfold ofP
  cases hc : findR tab r with
  | none => exact h2
  | some p =>
    obtain ⟨x, hx, rfl⟩ := findR_mem _ _ _ hc
    rw [List.all_eq_true] at h1
    simp only
    split
    · rw [h3]; exact h1 x hx
    · exact h1 x hx
/-- a code with a pair is of the class ON, and so no NSM -/
theorem pair_on (r : Int) (h : (ofP r).pa ≠ 0) : (ofP r).bidi = 14 := by
  have := ofP_all (fun p => p.pa == 0 || p.bidi == 14) (by kernel_rfl) (by kernel_rfl) (fun p => rfl) r
  simp only [Bool.or_eq_true, beq_iff_eq] at this
  rcases this with h1 | h1
  · exact absurd h1 h
  · exact h1
theorem pair_nsm (t : List Int) (i : Nat) (h : (ofP (t.getD i 0)).pa ≠ 0) : nsmB t i = false := by
  unfold nsmB
  rw [pair_on _ h]
  simp
theorem opn_nsm (t cs : List Int) (i : Nat) (h : opnB t cs i = true) : nsmB t i = false ∧ cs.getD i 0 = 14 := by
  unfold opnB at h
  simp only [Bool.and_eq_true, beq_iff_eq, bne_iff_ne] at h
  exact ⟨pair_nsm t i h.1.2, h.1.1⟩
theorem cls_nsm (t cs : List Int) (i : Nat) (h : clsB t cs i = true) : nsmB t i = false ∧ cs.getD i 0 = 14 := by
  unfold clsB at h
  simp only [Bool.and_eq_true, beq_iff_eq, bne_iff_ne] at h
  exact ⟨pair_nsm t i h.1.2, h.1.1⟩
theorem opn_not_cls (t cs : List Int) (i : Nat) (h : opnB t cs i = true) : clsB t cs i = false := by
  unfold opnB at h
  unfold clsB
  simp only [Bool.and_eq_true] at h
  rw [h.2]
  simp
theorem getD_some (cs : List Int) (i : Nat) (h : i < cs.length) : cs[i]? = some (cs.getD i 0) := by
  rw [List.getD_eq_getElem?_getD, List.getElem?_eq_getElem h]; rfl
/-- P9.4 of any list of pairs -/
theorem PairsV.same {t cs : List Int} {l : List (Nat × Nat)} (h : PairsV t cs l) (own sos : Int) (p : Nat × Nat) (hp : p ∈ l) : (resL t own sos l cs)[p.1]? = (resL t own sos l cs)[p.2]? := by
  refine resL_same t own sos l cs ?_ (fun q hq => ?_) p hp
  · rw [List.pairwise_iff_getElem]
    intro i j hi hj hij
    obtain ⟨h1, h2⟩ := h.nest i j hij hj
    obtain ⟨_, a1, a2, a3, a4⟩ := h.at _ (List.getElem_mem hi)
    obtain ⟨_, b1, b2, b3, b4⟩ := h.at _ (List.getElem_mem hj)
    refine ⟨⟨by omega, fun e => ?_⟩, by omega, by omega⟩
    rw [e, opn_not_cls _ _ _ b3] at a4
    cases a4
  · obtain ⟨e, a1, a2, a3, a4⟩ := h.at q hq
    obtain ⟨c1, c2⟩ := opn_nsm _ _ _ a3
    obtain ⟨d1, d2⟩ := cls_nsm _ _ _ a4
    refine ⟨by omega, c1, d1, by omega, by omega, ?_⟩
    rw [getD_some cs q.1 (by omega), getD_some cs q.2 (by omega), c2, d2]
end Go.Proofs.Ytlopddiplmjpfaa
