/-
  Hyphenation patterns, mathematics alone: a text taken apart into letters and digits, a pattern written, and that the one undoes the other. No program, no condition.
-/
import Derived.WalkKit
set_option linter.unusedVariables false
namespace Go.Proofs.YtekjejbcdnghjaaDoor

/-- a digit -/
def isD (c : Int) : Prop := 48 ≤ c ∧ c ≤ 57
instance (c : Int) : Decidable (isD c) := by unfold isD; exact inferInstance

/-- letters and digits of a text, a digit waiting -/
def pz (now : Int) (wr : Bool) : List Int → Option (List Int × List Int)
  | [] => some ([], [now])
  | c :: t => if isD c then (if wr then none else pz (c - 48) true t) else (pz 0 false t).map fun z => (c :: z.1, now :: z.2)

/-- letters that are no dots -/
def ownN (l : List Int) : Nat := (l.filter fun c => c ≠ 46).length
/-- letters of a pattern: 1 to 16 that are no dots, and dots at the ends alone -/
def mayB (l : List Int) : Bool := decide (1 ≤ ownN l) && decide (ownN l ≤ 16) && (List.range l.length).all fun i => decide (l.getD i 0 ≠ 46 ∨ i = 0 ∨ i + 1 = l.length)
/-- some digit that is not 0 -/
def anyP (d : List Int) : Bool := d.any fun x => decide (0 < x)

/-- a pattern's letters and digits -/
def parseS (t : List Int) : Option (List Int × List Int) :=
  match pz 0 false t with
  | some z => if anyP z.2 && mayB z.1 then some z else none
  | none => none

theorem pz_length : ∀ (t : List Int) (now : Int) (wr : Bool) {l d : List Int}, pz now wr t = some (l, d) → d.length = l.length + 1
  | [], now, wr, l, d, h => by simp [pz] at h; obtain ⟨rfl, rfl⟩ := h; rfl
  | c :: t, now, wr, l, d, h => by
    unfold pz at h
    split at h
    · split at h
      · cases h
      · exact pz_length t _ _ h
    · cases e : pz 0 false t with
      | none => rw [e] at h; cases h
      | some z =>
        rw [e] at h
        simp only [Option.map_some, Option.some.injEq, Prod.mk.injEq] at h
        obtain ⟨rfl, rfl⟩ := h
        have := pz_length t _ _ (l := z.1) (d := z.2) e
        simp [this]

theorem pz_digits : ∀ (t : List Int) (now : Int) (wr : Bool) {l d : List Int}, 0 ≤ now ∧ now ≤ 9 → pz now wr t = some (l, d) → ∀ x ∈ d, 0 ≤ x ∧ x ≤ 9
  | [], now, wr, l, d, hn, h => by simp [pz] at h; obtain ⟨rfl, rfl⟩ := h; intro x hx; rw [List.mem_singleton.1 hx]; exact hn
  | c :: t, now, wr, l, d, hn, h => by
    unfold pz at h
    split at h
    · rename_i hc
      split at h
      · cases h
      · exact pz_digits t _ _ (by unfold isD at hc; omega) h
    · cases e : pz 0 false t with
      | none => rw [e] at h; cases h
      | some z =>
        rw [e] at h
        simp only [Option.map_some, Option.some.injEq, Prod.mk.injEq] at h
        obtain ⟨rfl, rfl⟩ := h
        have := pz_digits t 0 false (l := z.1) (d := z.2) (by omega) e
        intro x hx
        rcases List.mem_cons.1 hx with rfl | hx
        · exact hn
        · exact this x hx

theorem pz_letters : ∀ (t : List Int) (now : Int) (wr : Bool) {l d : List Int}, pz now wr t = some (l, d) → ∀ c ∈ l, c ∈ t ∧ ¬ isD c
  | [], now, wr, l, d, h => by simp [pz] at h; obtain ⟨rfl, rfl⟩ := h; simp
  | c :: t, now, wr, l, d, h => by
    unfold pz at h
    split at h
    · split at h
      · cases h
      · exact fun x hx => ⟨List.mem_cons_of_mem _ (pz_letters t _ _ h x hx).1, (pz_letters t _ _ h x hx).2⟩
    · rename_i hc
      cases e : pz 0 false t with
      | none => rw [e] at h; cases h
      | some z =>
        rw [e] at h
        simp only [Option.map_some, Option.some.injEq, Prod.mk.injEq] at h
        obtain ⟨rfl, rfl⟩ := h
        intro x hx
        rcases List.mem_cons.1 hx with rfl | hx
        · exact ⟨List.mem_cons_self .., hc⟩
        · exact ⟨List.mem_cons_of_mem _ (pz_letters t 0 false (l := z.1) (d := z.2) e x hx).1, (pz_letters t 0 false (l := z.1) (d := z.2) e x hx).2⟩

/-- one round of the reading: what is left to be read tells the rest -/
theorem pz_digit {c now : Int} {t : List Int} (hc : isD c) : pz now false (c :: t) = pz (c - 48) true t := by rw [pz, if_pos hc]; rfl
theorem pz_twice {c now : Int} {t : List Int} (hc : isD c) : pz now true (c :: t) = none := by rw [pz, if_pos hc]; rfl
theorem pz_letter {c now : Int} {wr : Bool} {t : List Int} (hc : ¬ isD c) : pz now wr (c :: t) = (pz 0 false t).map fun z => (c :: z.1, now :: z.2) := by rw [pz, if_neg hc]

/-- a pattern written -/
def prS : List Int → List Int → List Int
  | l, [] => l
  | [], d :: _ => if 0 < d then [48 + d] else []
  | c :: l, d :: ds => (if 0 < d then [48 + d] else []) ++ c :: prS l ds

/-- letters and digits that are those of a pattern -/
structure OkP (l d : List Int) : Prop where
  len : d.length = l.length + 1
  may : mayB l = true
  digits : ∀ x ∈ d, 0 ≤ x ∧ x ≤ 9
  letters : ∀ c ∈ l, ¬ isD c
  some_ : anyP d = true

theorem pz_prS : ∀ (l d : List Int), d.length = l.length + 1 → (∀ x ∈ d, 0 ≤ x ∧ x ≤ 9) → (∀ c ∈ l, ¬ isD c) → pz 0 false (prS l d) = some (l, d)
  | [], [d0], _, hd, _ => by
    have h0 := hd d0 (by simp)
    unfold prS
    split
    · rw [pz_digit (by unfold isD; omega)]
      simp [pz]; omega
    · have : d0 = 0 := by omega
      subst this
      rfl
  | c :: l, d0 :: ds, h, hd, hl => by
    have h0 := hd d0 (by simp)
    have ih := pz_prS l ds (by simpa using h) (fun x hx => hd x (by simp [hx])) (fun x hx => hl x (by simp [hx]))
    have hc := hl c (by simp)
    unfold prS
    split
    · rw [List.singleton_append, pz_digit (by unfold isD; omega), pz_letter hc, ih]
      simp; omega
    · rw [List.nil_append, pz_letter hc, ih]
      simp; omega
  | [], [], h, _, _ => by simp at h
  | _ :: _, [], h, _, _ => by simp at h
  | [], _ :: _ :: _, h, _, _ => by simp at h

theorem parse_print {l d : List Int} (h : OkP l d) : parseS (prS l d) = some (l, d) := by
  unfold parseS
  rw [pz_prS l d h.len h.digits h.letters]
  simp [h.some_, h.may]

theorem parse_ok {t l d : List Int} (h : parseS t = some (l, d)) : OkP l d := by
  unfold parseS at h
  cases e : pz 0 false t with
  | none => rw [e] at h; cases h
  | some z =>
    rw [e] at h
    simp only at h
    split at h
    · rename_i hc
      injection h with h
      subst h
      simp only [Bool.and_eq_true] at hc
      exact ⟨pz_length t 0 false e, hc.2, pz_digits t 0 false (by omega) e, fun c hx => (pz_letters t 0 false e c hx).2, hc.1⟩
    · cases h

/-- what is written ahead of a letter, and what is written in all, round by round -/
def putD (d : Int) : List Int := if 0 < d then [48 + d] else []
theorem prS_cons (c : Int) (l : List Int) (d : Int) (ds : List Int) : prS (c :: l) (d :: ds) = putD d ++ c :: prS l ds := rfl
theorem prS_last (d : Int) : prS [] [d] = putD d := rfl

/-- the text as far as i digits and as many letters -/
def prN (l d : List Int) : Nat → List Int
  | 0 => []
  | i + 1 => prN l d i ++ putD (d.getD i 0) ++ (if i < l.length then [l.getD i 0] else [])

theorem prN_is : ∀ (l d : List Int), d.length = l.length + 1 → prN l d d.length = prS l d := by
  have key : ∀ (l d : List Int) (i : Nat), d.length = l.length + 1 → i ≤ l.length → prN l d i ++ prS (l.drop i) (d.drop i) = prS l d := by
    intro l d i hd
    induction i with
    | zero => intro _; simp [prN]
    | succ i ih =>
      intro hi
      rw [← ih (by omega)]
      have h1 : l.drop i = l.getD i 0 :: l.drop (i + 1) := by
        rw [List.drop_eq_getElem_cons (by omega)]; simp [List.getD, List.getElem?_eq_getElem (show i < l.length by omega)]
      have h2 : d.drop i = d.getD i 0 :: d.drop (i + 1) := by
        rw [List.drop_eq_getElem_cons (by omega)]; simp [List.getD, List.getElem?_eq_getElem (show i < d.length by omega)]
      rw [h1, h2, prS_cons, prN, if_pos (by omega)]
      simp [List.append_assoc]
  intro l d hd
  rw [hd, prN, if_neg (by omega), List.append_nil, ← key l d l.length hd (Nat.le_refl _)]
  have h2 : d.drop l.length = [d.getD l.length 0] := by
    rw [List.drop_eq_getElem_cons (by omega), List.drop_of_length_le (by omega)]; simp [List.getD, List.getElem?_eq_getElem (show l.length < d.length by omega)]
  rw [h2, List.drop_length, prS_last]

/-- how many letters that are no dots among the first i -/
theorem ownN_snoc (l : List Int) (c : Int) : ownN (l ++ [c]) = ownN l + (if c = 46 then 0 else 1) := by
  unfold ownN
  rw [List.filter_append, List.length_append]
  by_cases h : c = 46 <;> simp [h]
theorem ownN_le (l : List Int) : ownN l ≤ l.length := List.length_filter_le ..
theorem mayB_iff (l : List Int) : mayB l = true ↔ 1 ≤ ownN l ∧ ownN l ≤ 16 ∧ ∀ i, i < l.length → l.getD i 0 = 46 → i = 0 ∨ i + 1 = l.length := by
  unfold mayB
  simp only [Bool.and_eq_true, decide_eq_true_eq, List.all_eq_true, List.mem_range]
  constructor
  · rintro ⟨⟨h1, h2⟩, h3⟩
    exact ⟨h1, h2, fun i hi e => (h3 i hi).resolve_left (fun n => n e)⟩
  · rintro ⟨h1, h2, h3⟩
    exact ⟨⟨h1, h2⟩, fun i hi => by
      by_cases e : l.getD i 0 = 46
      · exact Or.inr (h3 i hi e)
      · exact Or.inl e⟩
theorem mayB_length {l : List Int} (h : mayB l = true) : 1 ≤ l.length ∧ l.length ≤ 18 := by
  obtain ⟨h1, h2, h3⟩ := (mayB_iff l).1 h
  refine ⟨Nat.le_trans h1 (ownN_le l), ?_⟩
  -- at most two dots: the first element and the last one
  have : ∀ (m : List Int), m.length ≤ ownN m + (m.filter fun c => c = 46).length := fun m => by
    unfold ownN
    induction m with
    | nil => simp
    | cons c m ih => by_cases e : c = 46 <;> simp [e] at ih ⊢ <;> omega
  rcases l with _ | ⟨a, l⟩
  · simp
  rcases List.eq_nil_or_concat l with rfl | ⟨m, z, rfl⟩
  · simp
  have hm : m.filter (fun c => c = 46) = [] := by
    rw [List.filter_eq_nil_iff]
    intro c hc e
    simp only [decide_eq_true_eq] at e
    obtain ⟨i, hi, rfl⟩ := List.mem_iff_getElem.1 hc
    have := h3 (i + 1) (by simp; omega) (by simp [List.getD, List.getElem?_append_left hi, List.getElem?_eq_getElem hi, e])
    simp at this
    omega
  have e1 := this m
  rw [hm] at e1
  have e2 : ownN m ≤ ownN (a :: m.concat z) := by
    unfold ownN
    rw [List.concat_eq_append]
    by_cases ha : a = 46 <;> by_cases hz : z = 46 <;> simp [ha, hz] <;> omega
  simp at e1 ⊢
  omega
end Go.Proofs.YtekjejbcdnghjaaDoor
