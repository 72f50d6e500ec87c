/-
  Hyphenation patterns, mathematics alone: a text taken apart into letters and digits, a pattern written, and that the one undoes the other. No program, no condition.
-/
import Derived.WalkKit
set_option linter.unusedVariables false
namespace Go.Proofs.YtekjejbcdnghjaaDoor

/-- a digit -/
def isD (c : Int) : Prop := 48 ≤ c ∧ c ≤ 57
instance (c : Int) : Decidable (isD c) := by unfold isD; exact inferInstance

/-- letters and digits of a text, a digit waiting -/
def pz (now : Int) (wr : Bool) : List Int → Option (List Int × List Int)
  | [] => some ([], [now])
  | c :: t => if isD c then (if wr then none else pz (c - 48) true t) else (pz 0 false t).map fun z => (c :: z.1, now :: z.2)

/-- letters that are no dots -/
def ownN (l : List Int) : Nat := (l.filter fun c => c ≠ 46).length
/-- letters of a pattern: 1 to 16 that are no dots, and dots at the ends alone -/
def mayB (l : List Int) : Bool := decide (1 ≤ ownN l) && decide (ownN l ≤ 16) && (List.range l.length).all fun i => decide (l.getD i 0 ≠ 46 ∨ i = 0 ∨ i + 1 = l.length)
/-- some digit that is not 0 -/
def anyP (d : List Int) : Bool := d.any fun x => decide (0 < x)

/-- a pattern's letters and digits -/
def parseS (t : List Int) : Option (List Int × List Int) :=
  match pz 0 false t with
  | some z => if anyP z.2 && mayB z.1 then some z else none
  | none => none

theorem pz_length : ∀ (t : List Int) (now : Int) (wr : Bool) {l d : List Int}, pz now wr t = some (l, d) → d.length = l.length + 1
  | [], now, wr, l, d, h => by simp [pz] at h; obtain ⟨rfl, rfl⟩ := h; rfl
  | c :: t, now, wr, l, d, h => by
    unfold pz at h
    split at h
    · split at h
      · cases h
      · exact pz_length t _ _ h
    · cases e : pz 0 false t with
      | none => rw [e] at h; cases h
      | some z =>
        rw [e] at h
        simp only [Option.map_some, Option.some.injEq, Prod.mk.injEq] at h
        obtain ⟨rfl, rfl⟩ := h
        have := pz_length t _ _ (l := z.1) (d := z.2) e
        simp [this]

theorem pz_digits : ∀ (t : List Int) (now : Int) (wr : Bool) {l d : List Int}, 0 ≤ now ∧ now ≤ 9 → pz now wr t = some (l, d) → ∀ x ∈ d, 0 ≤ x ∧ x ≤ 9
  | [], now, wr, l, d, hn, h => by simp [pz] at h; obtain ⟨rfl, rfl⟩ := h; intro x hx; rw [List.mem_singleton.1 hx]; exact hn
  | c :: t, now, wr, l, d, hn, h => by
    unfold pz at h
    split at h
    · rename_i hc
      split at h
      · cases h
      · exact pz_digits t _ _ (by unfold isD at hc; omega) h
    · cases e : pz 0 false t with
      | none => rw [e] at h; cases h
      | some z =>
        rw [e] at h
        simp only [Option.map_some, Option.some.injEq, Prod.mk.injEq] at h
        obtain ⟨rfl, rfl⟩ := h
        have := pz_digits t 0 false (l := z.1) (d := z.2) (by omega) e
        intro x hx
        rcases List.mem_cons.1 hx with rfl | hx
        · exact hn
        · exact this x hx

theorem pz_letters : ∀ (t : List Int) (now : Int) (wr : Bool) {l d : List Int}, pz now wr t = some (l, d) → ∀ c ∈ l, c ∈ t ∧ ¬ isD c
  | [], now, wr, l, d, h => by simp [pz] at h; obtain ⟨rfl, rfl⟩ := h; simp
  | c :: t, now, wr, l, d, h => by
    unfold pz at h
    split at h
    · split at h
      · cases h
      · exact fun x hx => ⟨List.mem_cons_of_mem _ (pz_letters t _ _ h x hx).1, (pz_letters t _ _ h x hx).2⟩
    · rename_i hc
      cases e : pz 0 false t with
      | none => rw [e] at h; cases h
      | some z =>
        rw [e] at h
        simp only [Option.map_some, Option.some.injEq, Prod.mk.injEq] at h
        obtain ⟨rfl, rfl⟩ := h
        intro x hx
        rcases List.mem_cons.1 hx with rfl | hx
        · exact ⟨List.mem_cons_self .., hc⟩
        · exact ⟨List.mem_cons_of_mem _ (pz_letters t 0 false (l := z.1) (d := z.2) e x hx).1, (pz_letters t 0 false (l := z.1) (d := z.2) e x hx).2⟩

/-- one round of the reading: what is left to be read tells the rest -/
theorem pz_digit {c now : Int} {t : List Int} (hc : isD c) : pz now false (c :: t) = pz (c - 48) true t := by rw [pz, if_pos hc]; rfl
theorem pz_twice {c now : Int} {t : List Int} (hc : isD c) : pz now true (c :: t) = none := by rw [pz, if_pos hc]; rfl
theorem pz_letter {c now : Int} {wr : Bool} {t : List Int} (hc : ¬ isD c) : pz now wr (c :: t) = (pz 0 false t).map fun z => (c :: z.1, now :: z.2) := by rw [pz, if_neg hc]

/-- a pattern written -/
def prS : List Int → List Int → List Int
  | l, [] => l
  | [], d :: _ => if 0 < d then [48 + d] else []
  | c :: l, d :: ds => (if 0 < d then [48 + d] else []) ++ c :: prS l ds

/-- letters and digits that are those of a pattern -/
structure OkP (l d : List Int) : Prop where
  len : d.length = l.length + 1
  may : mayB l = true
  digits : ∀ x ∈ d, 0 ≤ x ∧ x ≤ 9
  letters : ∀ c ∈ l, ¬ isD c
  some_ : anyP d = true

theorem pz_prS : ∀ (l d : List Int), d.length = l.length + 1 → (∀ x ∈ d, 0 ≤ x ∧ x ≤ 9) → (∀ c ∈ l, ¬ isD c) → pz 0 false (prS l d) = some (l, d)
  | [], [d0], _, hd, _ => by
    have h0 := hd d0 (by simp)
    unfold prS
    split
    · rw [pz_digit (by unfold isD; omega)]
      simp [pz]; omega
    · have : d0 = 0 := by omega
      subst this
      rfl
  | c :: l, d0 :: ds, h, hd, hl => by
    have h0 := hd d0 (by simp)
    have ih := pz_prS l ds (by simpa using h) (fun x hx => hd x (by simp [hx])) (fun x hx => hl x (by simp [hx]))
    have hc := hl c (by simp)
    unfold prS
    split
    · rw [List.singleton_append, pz_digit (by unfold isD; omega), pz_letter hc, ih]
      simp; omega
    · rw [List.nil_append, pz_letter hc, ih]
      simp; omega
  | [], [], h, _, _ => by simp at h
  | _ :: _, [], h, _, _ => by simp at h
  | [], _ :: _ :: _, h, _, _ => by simp at h

theorem parse_print {l d : List Int} (h : OkP l d) : parseS (prS l d) = some (l, d) := by
  unfold parseS
  rw [pz_prS l d h.len h.digits h.letters]
  simp [h.some_, h.may]

theorem parse_ok {t l d : List Int} (h : parseS t = some (l, d)) : OkP l d := by
  unfold parseS at h
  cases e : pz 0 false t with
  | none => rw [e] at h; cases h
  | some z =>
    rw [e] at h
    simp only at h
    split at h
    · rename_i hc
      injection h with h
      subst h
      simp only [Bool.and_eq_true] at hc
      exact ⟨pz_length t 0 false e, hc.2, pz_digits t 0 false (by omega) e, fun c hx => (pz_letters t 0 false e c hx).2, hc.1⟩
    · cases h

/-- what is written ahead of a letter, and what is written in all, round by round -/
def putD (d : Int) : List Int := if 0 < d then [48 + d] else []
theorem prS_cons (c : Int) (l : List Int) (d : Int) (ds : List Int) : prS (c :: l) (d :: ds) = putD d ++ c :: prS l ds := rfl
theorem prS_last (d : Int) : prS [] [d] = putD d := rfl

/-- the text as far as i digits and as many letters -/
def prN (l d : List Int) : Nat → List Int
  | 0 => []
  | i + 1 => prN l d i ++ putD (d.getD i 0) ++ (if i < l.length then [l.getD i 0] else [])

theorem prN_is : ∀ (l d : List Int), d.length = l.length + 1 → prN l d d.length = prS l d := by
  have key : ∀ (l d : List Int) (i : Nat), d.length = l.length + 1 → i ≤ l.length → prN l d i ++ prS (l.drop i) (d.drop i) = prS l d := by
    intro l d i hd
    induction i with
    | zero => intro _; simp [prN]
    | succ i ih =>
      intro hi
      rw [← ih (by omega)]
      have h1 : l.drop i = l.getD i 0 :: l.drop (i + 1) := by
        rw [List.drop_eq_getElem_cons (by omega)]; simp [List.getD, List.getElem?_eq_getElem (show i < l.length by omega)]
      have h2 : d.drop i = d.getD i 0 :: d.drop (i + 1) := by
        rw [List.drop_eq_getElem_cons (by omega)]; simp [List.getD, List.getElem?_eq_getElem (show i < d.length by omega)]
      rw [h1, h2, prS_cons, prN, if_pos (by omega)]
      simp [List.append_assoc]
  intro l d hd
  rw [hd, prN, if_neg (by omega), List.append_nil, ← key l d l.length hd (Nat.le_refl _)]
  have h2 : d.drop l.length = [d.getD l.length 0] := by
    rw [List.drop_eq_getElem_cons (by omega), List.drop_of_length_le (by omega)]; simp [List.getD, List.getElem?_eq_getElem (show l.length < d.length by omega)]
  rw [h2, List.drop_length, prS_last]

/-- how many letters that are no dots among the first i -/
theorem ownN_snoc (l : List Int) (c : Int) : ownN (l ++ [c]) = ownN l + (if c = 46 then 0 else 1) := by
  unfold ownN
  rw [List.filter_append, List.length_append]
  by_cases h : c = 46 <;> simp [h]
theorem ownN_le (l : List Int) : ownN l ≤ l.length := List.length_filter_le ..
theorem mayB_iff (l : List Int) : mayB l = true ↔ 1 ≤ ownN l ∧ ownN l ≤ 16 ∧ ∀ i, i < l.length → l.getD i 0 = 46 → i = 0 ∨ i + 1 = l.length := by
  unfold mayB
  simp only [Bool.and_eq_true, decide_eq_true_eq, List.all_eq_true, List.mem_range]
  constructor
  · rintro ⟨⟨h1, h2⟩, h3⟩
    exact ⟨h1, h2, fun i hi e => (h3 i hi).resolve_left (fun n => n e)⟩
  · rintro ⟨h1, h2, h3⟩
    exact ⟨⟨h1, h2⟩, fun i hi => by
      by_cases e : l.getD i 0 = 46
      · exact Or.inr (h3 i hi e)
      · exact Or.inl e⟩
theorem mayB_length {l : List Int} (h : mayB l = true) : 1 ≤ l.length ∧ l.length ≤ 18 := by
  obtain ⟨h1, h2, h3⟩ := (mayB_iff l).1 h
  refine ⟨Nat.le_trans h1 (ownN_le l), ?_⟩
  -- at most two dots: the first element and the last one
  have : ∀ (m : List Int), m.length ≤ ownN m + (m.filter fun c => c = 46).length := fun m => by
    unfold ownN
    induction m with
    | nil => simp
    | cons c m ih => by_cases e : c = 46 <;> simp [e] at ih ⊢ <;> omega
  rcases l with _ | ⟨a, l⟩
  · simp
  rcases List.eq_nil_or_concat l with rfl | ⟨m, z, rfl⟩
  · simp
  have hm : m.filter (fun c => c = 46) = [] := by
    rw [List.filter_eq_nil_iff]
    intro c hc e
    simp only [decide_eq_true_eq] at e
    obtain ⟨i, hi, rfl⟩ := List.mem_iff_getElem.1 hc
    have := h3 (i + 1) (by simp; omega) (by simp [List.getD, List.getElem?_append_left hi, List.getElem?_eq_getElem hi, e])
    simp at this
    omega
  have e1 := this m
  rw [hm] at e1
  have e2 : ownN m ≤ ownN (a :: m.concat z) := by
    unfold ownN
    rw [List.concat_eq_append]
    by_cases ha : a = 46 <;> by_cases hz : z = 46 <;> simp [ha, hz] <;> omega
  simp at e1 ⊢
  omega
end Go.Proofs.YtekjejbcdnghjaaDoor

/-
  Weights of a word's positions, mathematics alone: the greatest digit that is contributed, told by the contributions in whatever order; the points. No program, no condition.
-/
set_option linter.unusedVariables false
namespace Go.Proofs.YtekjejbcdnghjaaDoor

/-- every number of b is the greatest one that C gives for its index, or 0 -/
def BestOf (C : Nat → Int → Prop) (b : List Int) : Prop := ∀ j x, b[j]? = some x → 0 ≤ x ∧ (∀ c, C j c → c ≤ x) ∧ (x = 0 ∨ C j x)

theorem BestOf.congr {C C' : Nat → Int → Prop} {b : List Int} (h : BestOf C b) (e : ∀ j c, C j c ↔ C' j c) : BestOf C' b := fun j x hx => by
  obtain ⟨h1, h2, h3⟩ := h j x hx
  exact ⟨h1, fun c hc => h2 c ((e j c).2 hc), h3.imp id (e j x).1⟩
theorem BestOf.zeros {C : Nat → Int → Prop} (e : ∀ j c, ¬ C j c) (n : Nat) : BestOf C (List.replicate n 0) := fun j x hx => by
  rw [List.getElem?_replicate] at hx
  split at hx
  · injection hx with hx; subst hx
    exact ⟨by omega, fun c hc => absurd hc (e j c), Or.inl rfl⟩
  · cases hx
theorem BestOf.one {C : Nat → Int → Prop} {b b' : List Int} (h : BestOf C b) (h' : BestOf C b') (hn : b.length = b'.length) : b = b' := by
  apply List.ext_getElem hn
  intro j h1 h2
  obtain ⟨a1, a2, a3⟩ := h j _ (List.getElem?_eq_getElem h1)
  obtain ⟨c1, c2, c3⟩ := h' j _ (List.getElem?_eq_getElem h2)
  rcases a3 with a3 | a3
  · rcases c3 with c3 | c3
    · omega
    · have := a2 _ c3; omega
  · have := c2 _ a3
    rcases c3 with c3 | c3
    · omega
    · have := a2 _ c3; omega
/-- one contribution more -/
theorem BestOf.put {C : Nat → Int → Prop} {b : List Int} (h : BestOf C b) (j : Nat) {d : Int} (hd : 0 ≤ d) :
    BestOf (fun j' c => C j' c ∨ j' = j ∧ c = d) (b.set j (max (b.getD j 0) d)) := fun j' x hx => by
  rw [List.getElem?_set] at hx
  split at hx
  · rename_i e
    subst e
    split at hx
    · rename_i hj
      injection hx with hx
      subst hx
      obtain ⟨h1, h2, h3⟩ := h j _ (List.getElem?_eq_getElem hj)
      have e1 : b.getD j 0 = b[j] := by simp [List.getD, List.getElem?_eq_getElem hj]
      rw [e1]
      refine ⟨by omega, fun c hc => ?_, ?_⟩
      · rcases hc with hc | ⟨_, rfl⟩
        · have := h2 c hc; omega
        · omega
      · rcases Int.le_total (b[j]) d with e | e
        · rw [show max b[j] d = d by omega]; exact Or.inr (Or.inr ⟨rfl, rfl⟩)
        · rw [show max b[j] d = b[j] by omega]
          exact h3.imp id Or.inl
    · cases hx
  · rename_i e
    obtain ⟨h1, h2, h3⟩ := h j' x hx
    refine ⟨h1, fun c hc => ?_, h3.imp id Or.inl⟩
    rcases hc with hc | ⟨rfl, _⟩
    · exact h2 c hc
    · exact absurd rfl e

/-- digits laid over weights, from a place on -/
def raiseL (b : List Int) (a : Nat) (ds : List Int) (i : Nat) : List Int :=
  match i with
  | 0 => b
  | i + 1 => (raiseL b a ds i).set (a + i) (max ((raiseL b a ds i).getD (a + i) 0) (ds.getD i 0))
theorem raiseL_length (b : List Int) (a : Nat) (ds : List Int) : ∀ i, (raiseL b a ds i).length = b.length
  | 0 => rfl
  | i + 1 => by rw [raiseL, List.length_set, raiseL_length b a ds i]
theorem raise_best {C : Nat → Int → Prop} {b : List Int} (h : BestOf C b) (a : Nat) {ds : List Int} (hd : ∀ x ∈ ds, 0 ≤ x) : ∀ i, i ≤ ds.length →
    BestOf (fun j c => C j c ∨ ∃ k, k < i ∧ j = a + k ∧ ds[k]? = some c) (raiseL b a ds i)
  | 0, _ => h.congr fun j c => ⟨Or.inl, fun h => h.elim id fun ⟨k, hk, _⟩ => absurd hk (by omega)⟩
  | i + 1, hi => by
    have hx : ds.getD i 0 ∈ ds := by
      simp only [List.getD, List.getElem?_eq_getElem (show i < ds.length by omega), Option.getD_some]
      exact List.getElem_mem _
    refine ((raise_best h a hd i (by omega)).put (a + i) (hd _ hx)).congr fun j c => ?_
    constructor
    · rintro ((h | ⟨k, hk, e1, e2⟩) | ⟨rfl, rfl⟩)
      · exact Or.inl h
      · exact Or.inr ⟨k, by omega, e1, e2⟩
      · exact Or.inr ⟨i, by omega, rfl, by simp [List.getD, List.getElem?_eq_getElem (show i < ds.length by omega)]⟩
    · rintro (h | ⟨k, hk, e1, e2⟩)
      · exact Or.inl (Or.inl h)
      · by_cases e : k = i
        · subst e
          exact Or.inr ⟨e1, by simp [List.getD, e2]⟩
        · exact Or.inl (Or.inr ⟨k, by omega, e1, e2⟩)
theorem raise_wf {b : List Int} {a : Nat} {ds : List Int} {m : Int} (hm : 0 ≤ m) (hb : ∀ x ∈ b, 0 ≤ x ∧ x ≤ m) (hd : ∀ x ∈ ds, 0 ≤ x ∧ x ≤ m) : ∀ i, ∀ x ∈ raiseL b a ds i, 0 ≤ x ∧ x ≤ m
  | 0 => hb
  | i + 1 => fun x hx => by
    have ih := raise_wf hm hb hd (a := a) i
    rw [raiseL] at hx
    rcases List.mem_or_eq_of_mem_set hx with hx | rfl
    · exact ih x hx
    · have e1 : 0 ≤ (raiseL b a ds i).getD (a + i) 0 ∧ (raiseL b a ds i).getD (a + i) 0 ≤ m := by
        by_cases e : a + i < (raiseL b a ds i).length
        · simp only [List.getD, List.getElem?_eq_getElem e, Option.getD_some]; exact ih _ (List.getElem_mem _)
        · simp only [List.getD, List.getElem?_eq_none (show (raiseL b a ds i).length ≤ a + i by omega), Option.getD_none]; omega
      have e2 : 0 ≤ ds.getD i 0 ∧ ds.getD i 0 ≤ m := by
        by_cases e : i < ds.length
        · simp only [List.getD, List.getElem?_eq_getElem e, Option.getD_some]; exact hd _ (List.getElem_mem _)
        · simp only [List.getD, List.getElem?_eq_none (show ds.length ≤ i by omega), Option.getD_none]; omega
      omega

/-- what patterns contribute: letters and digits, laid over a text at every place at which the letters stand -/
def Contr (x : List (List Int × List Int)) (t : List Int) (j : Nat) (c : Int) : Prop :=
  ∃ p ∈ x, ∃ a k, a < t.length ∧ p.1 <+: t.drop a ∧ p.2[k]? = some c ∧ j = a + k

/-- a letter as it counts; a word between dots -/
def smallZ (c : Int) : Int := if 65 ≤ c ∧ c ≤ 90 then c + 32 else c
def dotsW (w : List Int) : List Int := 46 :: w.map smallZ ++ [46]
theorem dotsW_length (w : List Int) : (dotsW w).length = w.length + 2 := by simp [dotsW]

/-- the points by the weights -/
def pts (n : Nat) (b : List Int) : List Int := ((List.range (n - 2)).filter fun i => decide (2 ≤ i) && decide (b.getD (i + 1) 0 % 2 = 1)).map fun (i : Nat) => (i : Int)
/-- .. as far as below i -/
def ptsN (b : List Int) (i : Nat) : List Int := ((List.range i).filter fun i => decide (2 ≤ i) && decide (b.getD (i + 1) 0 % 2 = 1)).map fun (i : Nat) => (i : Int)
theorem pts_is (n : Nat) (b : List Int) : pts n b = ptsN b (n - 2) := rfl
theorem ptsN_two (b : List Int) : ptsN b 2 = [] := by simp [ptsN, List.range_succ]
theorem ptsN_small (b : List Int) {i : Nat} (hi : i ≤ 2) : ptsN b i = [] := by
  unfold ptsN
  rw [List.map_eq_nil_iff, List.filter_eq_nil_iff]
  intro k hk
  have := List.mem_range.1 hk
  simp; omega
theorem ptsN_succ (b : List Int) {i : Nat} (hi : 2 ≤ i) : ptsN b (i + 1) = ptsN b i ++ (if b.getD (i + 1) 0 % 2 = 1 then [(i : Int)] else []) := by
  unfold ptsN
  rw [List.range_succ, List.filter_append, List.map_append]
  by_cases h : b.getD (i + 1) 0 % 2 = 1
  · rw [if_pos h, List.filter_cons_of_pos (by rw [decide_eq_true hi, decide_eq_true h]; rfl)]; rfl
  · rw [if_neg h, List.filter_cons_of_neg (by rw [decide_eq_false h, Bool.and_false]; exact Bool.false_ne_true)]; rfl
theorem pts_mem {n : Nat} {b : List Int} {z : Int} : z ∈ pts n b ↔ ∃ i : Nat, z = i ∧ 2 ≤ i ∧ i + 3 ≤ n ∧ b.getD (i + 1) 0 % 2 = 1 := by
  unfold pts
  simp only [List.mem_map, List.mem_filter, List.mem_range, Bool.and_eq_true, decide_eq_true_eq]
  constructor
  · rintro ⟨i, ⟨h1, h2, h3⟩, rfl⟩; exact ⟨i, rfl, h2, by omega, h3⟩
  · rintro ⟨i, rfl, h1, h2, h3⟩; exact ⟨i, ⟨by omega, h1, h3⟩, rfl⟩
theorem pts_rise (n : Nat) (b : List Int) : (pts n b).Pairwise (· < ·) := by
  unfold pts
  rw [List.pairwise_map]
  refine (List.Pairwise.filter _ List.pairwise_lt_range).imp fun h => by omega
theorem pts_length (n : Nat) (b : List Int) : (pts n b).length ≤ n := by
  unfold pts
  rw [List.length_map]
  have := List.length_filter_le (fun i => decide (2 ≤ i) && decide (b.getD (i + 1) 0 % 2 = 1)) (List.range (n - 2))
  rw [List.length_range] at this
  omega

/-- the points of a word: those of the weights that the patterns give; none of a long word -/
def PointsS (x : List (List Int × List Int)) (w r : List Int) : Prop :=
  if 64 < w.length then r = [] else ∃ b, b.length = w.length + 3 ∧ BestOf (Contr x (dotsW w)) b ∧ r = pts w.length b
theorem PointsS.one {x : List (List Int × List Int)} {w r r' : List Int} (h : PointsS x w r) (h' : PointsS x w r') : r = r' := by
  unfold PointsS at h h'
  split at h
  · rw [if_pos (by assumption)] at h'; rw [h, h']
  · rw [if_neg (by assumption)] at h'
    obtain ⟨b, hb, h1, rfl⟩ := h
    obtain ⟨b', hb', h1', rfl⟩ := h'
    rw [h1.one h1' (by omega)]
theorem PointsS.rise {x : List (List Int × List Int)} {w r : List Int} (h : PointsS x w r) : r.Pairwise (· < ·) ∧ ∀ z ∈ r, 2 ≤ z ∧ z + 3 ≤ w.length := by
  unfold PointsS at h
  split at h
  · subst h; exact ⟨List.Pairwise.nil, by simp⟩
  · obtain ⟨b, hb, h1, rfl⟩ := h
    refine ⟨pts_rise _ _, fun z hz => ?_⟩
    obtain ⟨i, rfl, h2, h3, _⟩ := pts_mem.1 hz
    omega
theorem PointsS.length {x : List (List Int × List Int)} {w r : List Int} (h : PointsS x w r) : r.length ≤ 64 := by
  unfold PointsS at h
  split at h
  · subst h; simp
  · obtain ⟨b, hb, h1, rfl⟩ := h
    have := pts_length w.length b; omega

/-- capital letters -/
def greatZ (c : Int) : Int := if 97 ≤ c ∧ c ≤ 122 then c - 32 else c
theorem small_great (c : Int) : smallZ (greatZ c) = smallZ c := by
  unfold smallZ greatZ
  repeat' split
  all_goals omega
theorem dots_great (w : List Int) : dotsW (w.map greatZ) = dotsW w := by
  unfold dotsW
  rw [List.map_map]
  congr 3
  funext c
  exact small_great c
theorem PointsS.great {x : List (List Int × List Int)} {w r : List Int} (h : PointsS x (w.map greatZ) r) : PointsS x w r := by
  unfold PointsS at h ⊢
  rw [dots_great, List.length_map] at h
  exact h

/-- a pattern more whose digits are all even: no point is new -/
theorem PointsS.even {x : List (List Int × List Int)} {p : List Int × List Int} {w r r' : List Int} (h : PointsS x w r) (h' : PointsS (x ++ [p]) w r') (hx : ∀ q ∈ x, ∀ d ∈ q.2, 0 ≤ d)
    (hp : ∀ d ∈ p.2, d % 2 = 0) : ∀ z ∈ r', z ∈ r := by
  unfold PointsS at h h'
  split at h
  · rw [if_pos (by assumption)] at h'; rw [h, h']; simp
  · rw [if_neg (by assumption)] at h'
    obtain ⟨b, hb, h1, rfl⟩ := h
    obtain ⟨b', hb', h1', rfl⟩ := h'
    intro z hz
    obtain ⟨i, rfl, h2, h3, h4⟩ := pts_mem.1 hz
    refine pts_mem.2 ⟨i, rfl, h2, h3, ?_⟩
    have l1 : i + 1 < b.length := by omega
    have l2 : i + 1 < b'.length := by omega
    have e1 : b.getD (i + 1) 0 = b[i + 1] := by simp [List.getD, List.getElem?_eq_getElem l1]
    have e2 : b'.getD (i + 1) 0 = b'[i + 1] := by simp [List.getD, List.getElem?_eq_getElem l2]
    rw [e2] at h4
    rw [e1]
    obtain ⟨a1, a2, a3⟩ := h1 _ _ (List.getElem?_eq_getElem l1)
    obtain ⟨c1, c2, c3⟩ := h1' _ _ (List.getElem?_eq_getElem l2)
    rcases c3 with c3 | ⟨q, hq, a, k, k1, k2, k3, k4⟩
    · rw [c3] at h4; simp at h4
    · rcases List.mem_append.1 hq with hq | hq
      · have g1 := a2 _ ⟨q, hq, a, k, k1, k2, k3, k4⟩
        have g2 : b[i + 1] ≤ b'[i + 1] := by
          rcases a3 with a3 | ⟨q', hq', r⟩
          · omega
          · exact c2 _ ⟨q', List.mem_append_left _ hq', r⟩
        rw [show b[i + 1] = b'[i + 1] by omega]
        exact h4
      · rw [List.mem_singleton.1 hq] at k3
        have := hp _ (List.mem_of_getElem? k3)
        omega
end Go.Proofs.YtekjejbcdnghjaaDoor

/-
  Places of a text at which it may be parted, mathematics alone: behind soft hyphens, and the points of every range of letters. No program, no condition.
-/
set_option linter.unusedVariables false
namespace Go.Proofs.YtekjejbcdnghjaaDoor

/-- two lists that rise and have the same elements are one -/
theorem rise_one : ∀ (l l' : List Int), l.Pairwise (· < ·) → l'.Pairwise (· < ·) → (∀ z, z ∈ l ↔ z ∈ l') → l = l'
  | [], [], _, _, _ => rfl
  | [], y :: l', _, _, h => absurd ((h y).2 (List.mem_cons_self ..)) (by simp)
  | x :: l, [], _, _, h => absurd ((h x).1 (List.mem_cons_self ..)) (by simp)
  | x :: l, y :: l', h1, h2, h => by
    have a1 := List.pairwise_cons.1 h1
    have a2 := List.pairwise_cons.1 h2
    have e : x = y := by
      rcases List.mem_cons.1 ((h x).1 (List.mem_cons_self ..)) with e | e
      · exact e
      · rcases List.mem_cons.1 ((h y).2 (List.mem_cons_self ..)) with e' | e'
        · exact e'.symm
        · have := a2.1 x e; have := a1.1 y e'; omega
    subst e
    rw [rise_one l l' a1.2 a2.2 fun z => ⟨fun hz => ?_, fun hz => ?_⟩]
    · rcases List.mem_cons.1 ((h z).1 (List.mem_cons_of_mem _ hz)) with e | e
      · subst e; have := a1.1 z hz; omega
      · exact e
    · rcases List.mem_cons.1 ((h z).2 (List.mem_cons_of_mem _ hz)) with e | e
      · subst e; have := a2.1 z hz; omega
      · exact e

/-- a range of letters, as long as it goes on both sides -/
structure RangeL (L : Int → Prop) (t : List Int) (a b : Nat) : Prop where
  le : a ≤ b
  fits : b ≤ t.length
  all : ∀ k, a ≤ k → k < b → L (t.getD k 0)
  left : a = 0 ∨ ¬ L (t.getD (a - 1) 0)
  right : b = t.length ∨ ¬ L (t.getD b 0)
theorem RangeL.same {L : Int → Prop} {t : List Int} {a b a' b' k : Nat} (h : RangeL L t a b) (h' : RangeL L t a' b') (h1 : a ≤ k) (h2 : k < b) (h3 : a' ≤ k) (h4 : k < b') : a = a' ∧ b = b' := by
  constructor
  · rcases Nat.lt_trichotomy a a' with e | e | e
    · exact absurd (h.all (a' - 1) (by omega) (by omega)) (h'.left.resolve_left (by omega))
    · exact e
    · exact absurd (h'.all (a - 1) (by omega) (by omega)) (h.left.resolve_left (by omega))
  · rcases Nat.lt_trichotomy b b' with e | e | e
    · exact absurd (h'.all b (by omega) e) (h.right.resolve_left (by have := h'.fits; omega))
    · exact e
    · exact absurd (h.all b' (by omega) e) (h'.right.resolve_left (by have := h.fits; omega))

/-- behind a soft hyphen -/
def SoftH (t : List Int) (i : Nat) : Prop := 1 ≤ i ∧ i < t.length ∧ t.getD (i - 1) 0 = 173
/-- a point of a range of letters: z a point of the word by W -/
def PointH (L : Int → Prop) (W : List Int → Int → Prop) (t : List Int) (a b i : Nat) : Prop := RangeL L t a b ∧ a ≤ i ∧ W ((t.drop a).take (b - a)) ((i : Int) - a)
def HitH (L : Int → Prop) (W : List Int → Int → Prop) (t : List Int) (i : Nat) : Prop := SoftH t i ∨ ∃ a b, PointH L W t a b i
/-- points lie inside -/
def InsideW (W : List Int → Int → Prop) : Prop := ∀ w z, W w z → 2 ≤ z ∧ z + 3 ≤ w.length
theorem PointH.in_ {L : Int → Prop} {W : List Int → Int → Prop} {t : List Int} {a b i : Nat} (hW : InsideW W) (h : PointH L W t a b i) : a + 2 ≤ i ∧ i + 3 ≤ b := by
  obtain ⟨h1, h2, h3⟩ := h
  have := hW _ _ h3
  rw [List.length_take, List.length_drop] at this
  have := h1.fits
  have := h1.le
  omega

/-- the ranges that end ahead of a place -/
def DoneH (L : Int → Prop) (W : List Int → Int → Prop) (t : List Int) (p i : Nat) : Prop := ∃ a b, b < p ∧ PointH L W t a b i
theorem DoneH.zero {L : Int → Prop} {W : List Int → Int → Prop} {t : List Int} {i : Nat} : ¬ DoneH L W t 0 i := fun ⟨_, _, h, _⟩ => by omega
theorem DoneH.end_ {L : Int → Prop} {W : List Int → Int → Prop} {t : List Int} {p i : Nat} (hW : InsideW W) (hp : t.length ≤ p) (hl : p = 0 ∨ t.length < p ∨ ¬ L (t.getD (p - 1) 0)) : DoneH L W t p i ↔ ∃ a b, PointH L W t a b i := by
  constructor
  · rintro ⟨a, b, _, h⟩; exact ⟨a, b, h⟩
  · rintro ⟨a, b, h⟩
    have h1 := h.1.fits
    have h2 := h.in_ hW
    rcases Nat.lt_or_ge b p with e | e
    · exact ⟨a, b, e, h⟩
    · have : b = p := by omega
      subst this
      exact absurd (h.1.all (b - 1) (by omega) (by omega)) (by rcases hl with h | h | h <;> first | omega | exact h)
/-- one range more -/
theorem DoneH.step {L : Int → Prop} {W : List Int → Int → Prop} {t : List Int} {p q i : Nat} (hW : InsideW W) (h : RangeL L t p q) (r : List Int) (hr : ∀ z, z ∈ r ↔ W ((t.drop p).take (q - p)) z) :
    DoneH L W t (q + 1) i ↔ DoneH L W t p i ∨ ∃ z ∈ r, (i : Int) = p + z := by
  constructor
  · rintro ⟨a, b, hb, hp⟩
    rcases Nat.lt_or_ge b p with e | e
    · exact Or.inl ⟨a, b, e, hp⟩
    · have g := hp.in_ hW
      have hle := h.left
      have : p < b := by
        rcases Nat.lt_or_ge p b with e1 | e1
        · exact e1
        · have : b = p := by omega
          subst this
          exact absurd (hp.1.all (b - 1) (by omega) (by omega)) (hle.resolve_left (by omega))
      have hap : a ≤ p := by
        rcases Nat.lt_or_ge p a with e1 | e1
        · rcases Nat.lt_or_ge (a - 1) q with e2 | e2
          · exact absurd (h.all (a - 1) (by omega) e2) (hp.1.left.resolve_left (by omega))
          · omega
        · exact e1
      have : b ≤ q := by omega
      have e3 := RangeL.same (k := p) hp.1 h hap ‹p < b› (Nat.le_refl _) (by omega)
      obtain ⟨rfl, rfl⟩ := e3
      exact Or.inr ⟨(i : Int) - a, (hr _).2 hp.2.2, by omega⟩
  · rintro (⟨a, b, hb, hp⟩ | ⟨z, hz, e⟩)
    · exact ⟨a, b, by have := h.le; omega, hp⟩
    · have h1 := (hr z).1 hz
      have := hW _ _ h1
      refine ⟨p, q, Nat.lt_succ_self _, h, by omega, ?_⟩
      rw [e, show (p : Int) + z - p = z by omega]
      exact h1

/-- what In gives: of the clusters' bounds those that are hit -/
def InS (L : Int → Prop) (W : List Int → Int → Prop) (bnd t r : List Int) : Prop := r.Pairwise (· < ·) ∧ ∀ z, z ∈ r ↔ z ∈ bnd ∧ ∃ i : Nat, z = i ∧ HitH L W t i
theorem InS.one {L : Int → Prop} {W : List Int → Int → Prop} {bnd t r r' : List Int} (h : InS L W bnd t r) (h' : InS L W bnd t r') : r = r' := rise_one r r' h.1 h'.1 fun z => (h.2 z).trans (h'.2 z).symm
/-- .. out of the bounds gone through -/
theorem InS.of_filter {L : Int → Prop} {W : List Int → Int → Prop} {bnd t : List Int} (hs : List Bool) (hb : bnd.Pairwise (· < ·)) (hn : ∀ z ∈ bnd, 0 ≤ z ∧ z < hs.length) (hh : ∀ i b, hs[i]? = some b → (b = true ↔ HitH L W t i)) :
    InS L W bnd t (bnd.filter fun z => hs.getD z.toNat false) := by
  refine ⟨hb.filter _, fun z => ?_⟩
  rw [List.mem_filter]
  constructor
  · rintro ⟨h1, h2⟩
    have := hn z h1
    refine ⟨h1, z.toNat, by omega, (hh z.toNat _ (List.getElem?_eq_getElem (by omega))).1 ?_⟩
    rw [List.getD, List.getElem?_eq_getElem (by omega)] at h2
    exact h2
  · rintro ⟨h1, i, rfl, h2⟩
    have := hn _ h1
    refine ⟨h1, ?_⟩
    rw [Int.toNat_natCast, List.getD, List.getElem?_eq_getElem (by omega)]
    exact (hh i _ (List.getElem?_eq_getElem (by omega))).2 h2

/-- the points by patterns x, as a relation -/
def PtW (x : List (List Int × List Int)) (w : List Int) (z : Int) : Prop := ∃ r, PointsS x w r ∧ z ∈ r
theorem PtW.inside (x : List (List Int × List Int)) : InsideW (PtW x) := fun w z ⟨r, h, hz⟩ => h.rise.2 z hz
theorem PtW.iff {x : List (List Int × List Int)} {w r : List Int} (h : PointsS x w r) (z : Int) : z ∈ r ↔ PtW x w z := ⟨fun hz => ⟨r, h, hz⟩, fun ⟨r', h', hz⟩ => by rwa [h.one h']⟩
/-- without patterns there are no points -/
theorem points_none (w : List Int) : PointsS [] w [] := by
  unfold PointsS
  split
  · rfl
  · refine ⟨List.replicate (w.length + 3) 0, by simp, BestOf.zeros (fun j c ⟨p, hp, _⟩ => by cases hp) _, ?_⟩
    symm
    rw [List.eq_nil_iff_forall_not_mem]
    intro z hz
    obtain ⟨i, _, _, h3, h4⟩ := pts_mem.1 hz
    rw [List.getD, List.getElem?_replicate] at h4
    split at h4 <;> simp at h4
end Go.Proofs.YtekjejbcdnghjaaDoor
