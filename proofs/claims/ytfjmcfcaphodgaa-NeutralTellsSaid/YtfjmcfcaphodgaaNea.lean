/-
  Mathematics of neutral signs: what becomes of them by what stands on either side; that nothing neutral is left and once more changes nothing; the same from behind; levels. No program, no condition.
-/
import Derived.ProofKit
set_option linter.unusedVariables false
set_option linter.unusedSimpArgs false
namespace Go.Proofs.Ytfjmcfcaphodgaa

def neuC (c : Int) : Bool := c == 11 || c == 12 || c == 13 || c == 14 || c == 20 || c == 21 || c == 22 || c == 23
def wayN (c : Int) : Int := if c = 2 ∨ c = 3 ∨ c = 4 ∨ c = 7 then 2 else 1
def edgeN (c : Int) : Int := if c = 2 then 2 else 1
/-- the class of a level (it may be below 0) -/
def embN (level : Int) : Int := if level.tmod 2 ≠ 0 then 2 else 1
/-- the way of the nearest one before, and behind -/
def lastN (d : Int) (l : List Int) : Int := l.foldl (fun a c => if neuC c = true then a else wayN c) d
def firstN (d : Int) (l : List Int) : Int := l.foldr (fun c a => if neuC c = true then a else wayN c) d
def oneN (level a b c : Int) : Int := if neuC c = true then (if a = b then a else embN level) else c
def nuAt (cs : List Int) (level s e : Int) (i : Nat) : Int := oneN level (lastN (edgeN s) (cs.take i)) (firstN (edgeN e) (cs.drop (i + 1))) (cs.getD i 0)
def nuL (cs : List Int) (level s e : Int) : List Int := (List.range cs.length).map (nuAt cs level s e)
theorem nu_len (cs : List Int) (level s e : Int) : (nuL cs level s e).length = cs.length := by simp [nuL]
theorem nu_get (cs : List Int) (level s e : Int) (i : Nat) (h : i < (nuL cs level s e).length) : (nuL cs level s e)[i] = nuAt cs level s e i := by simp [nuL]
theorem last_snoc (d : Int) (l : List Int) (c : Int) : lastN d (l ++ [c]) = if neuC c = true then lastN d l else wayN c := by unfold lastN; rw [List.foldl_append]; rfl
theorem first_cons (d : Int) (l : List Int) (c : Int) : firstN d (c :: l) = if neuC c = true then firstN d l else wayN c := rfl
theorem first_rev (d : Int) (l : List Int) : firstN d l.reverse = lastN d l := by unfold firstN lastN; rw [List.foldr_reverse]
theorem last_rev (d : Int) (l : List Int) : lastN d l.reverse = firstN d l := by unfold firstN lastN; rw [List.foldl_reverse]
theorem two_way (c : Int) : wayN c = 1 ∨ wayN c = 2 := by unfold wayN; split <;> simp
theorem two_edge (c : Int) : edgeN c = 1 ∨ edgeN c = 2 := by unfold edgeN; split <;> simp
theorem two_emb (c : Int) : embN c = 1 ∨ embN c = 2 := by unfold embN; split <;> simp
theorem two_last (d : Int) (hd : d = 1 ∨ d = 2) (l : List Int) : lastN d l = 1 ∨ lastN d l = 2 := by
  unfold lastN
  induction l generalizing d with
  | nil => exact hd
  | cons c l ih =>
    rw [List.foldl_cons]
    refine ih _ ?_
    split
    · exact hd
    · exact two_way c
/-- what a place becomes: as it was, or L or R -/
theorem one_cases (level a b c : Int) (ha : a = 1 ∨ a = 2) : (neuC c = true ∧ (oneN level a b c = 1 ∨ oneN level a b c = 2)) ∨ (neuC c = false ∧ oneN level a b c = c) := by
  unfold oneN
  cases h : neuC c with
  | true =>
    left
    refine ⟨rfl, ?_⟩
    rw [if_pos rfl]
    split
    · exact ha
    · exact two_emb level
  | false => right; exact ⟨rfl, by rw [if_neg (by decide)]⟩
theorem nu_cases (cs : List Int) (level s e : Int) (i : Nat) : (neuC (cs.getD i 0) = true ∧ (nuAt cs level s e i = 1 ∨ nuAt cs level s e i = 2)) ∨ (neuC (cs.getD i 0) = false ∧ nuAt cs level s e i = cs.getD i 0) :=
  one_cases _ _ _ _ (two_last _ (two_edge s) _)
/-- P15.3: nothing neutral is left -/
theorem nu_none (cs : List Int) (level s e : Int) (i : Nat) : neuC (nuAt cs level s e i) = false := by
  rcases nu_cases cs level s e i with ⟨_, h | h⟩ | ⟨h1, h⟩
  · rw [h]; rfl
  · rw [h]; rfl
  · rw [h]; exact h1
/-- P15.3: once more nothing changes -/
theorem nu_id (l : List Int) (level s e : Int) (h : ∀ c ∈ l, neuC c = false) : nuL l level s e = l := by
  apply List.ext_getElem?
  intro i
  unfold nuL
  rw [List.getElem?_map]
  rcases Nat.lt_or_ge i l.length with hi | hi
  · rw [List.getElem?_range hi, List.getElem?_eq_getElem hi]
    show some (nuAt l level s e i) = some l[i]
    have hg : l.getD i 0 = l[i] := by rw [List.getD_eq_getElem?_getD, List.getElem?_eq_getElem hi]; rfl
    unfold nuAt oneN
    rw [hg, h _ (List.getElem_mem hi), if_neg (by decide)]
  · rw [List.getElem?_eq_none (by simpa using hi), List.getElem?_eq_none hi]; rfl
theorem nu_twice (cs : List Int) (level s e : Int) : nuL (nuL cs level s e) level s e = nuL cs level s e := by
  refine nu_id _ _ _ _ fun c hc => ?_
  obtain ⟨i, hi, rfl⟩ := List.getElem_of_mem hc
  rw [nu_get]
  exact nu_none cs level s e i
/-- the same from behind -/
theorem nu_back (cs : List Int) (level s e : Int) (i : Nat) (hi : i < cs.length) : nuAt cs level s e i = nuAt cs.reverse level e s (cs.length - 1 - i) := by
  have hg : cs.reverse.getD (cs.length - 1 - i) 0 = cs.getD i 0 := by
    rw [List.getD_eq_getElem?_getD, List.getD_eq_getElem?_getD, List.getElem?_reverse (by omega)]
    congr 2
    omega
  have h1 : cs.reverse.take (cs.length - 1 - i) = (cs.drop (i + 1)).reverse := by
    rw [List.take_reverse]
    congr 2
    omega
  have h2 : cs.reverse.drop (cs.length - 1 - i + 1) = (cs.take i).reverse := by
    rw [List.drop_reverse]
    congr 2
    omega
  unfold nuAt
  rw [hg, h1, h2, last_rev, first_rev]
  unfold oneN
  split
  · by_cases h : lastN (edgeN s) (cs.take i) = firstN (edgeN e) (cs.drop (i + 1))
    · rw [if_pos h, if_pos h.symm, h]
    · rw [if_neg h, if_neg fun e => h e.symm]
  · rfl
/-- levels -/
def impN (level c : Int) : Int :=
  if level.tmod 2 ≠ 0 then (if c = 1 ∨ c = 4 ∨ c = 7 then level + 1 else level)
  else if c = 2 then level + 1 else if c = 4 ∨ c = 7 then level + 2 else level
theorem imp_bnd (level c : Int) : level ≤ impN level c ∧ impN level c ≤ level + 2 := by
  unfold impN
  split
  · split <;> omega
  · split
    · omega
    · split <;> omega
end Go.Proofs.Ytfjmcfcaphodgaa
