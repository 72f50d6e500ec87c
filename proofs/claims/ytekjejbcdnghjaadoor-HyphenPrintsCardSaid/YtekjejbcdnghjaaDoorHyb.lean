/-
  Weights of a word's positions, mathematics alone: the greatest digit that is contributed, told by the contributions in whatever order; the points. No program, no condition.
-/
import Derived.Test.YtekjejbcdnghjaaDoorHya
set_option linter.unusedVariables false
namespace Go.Proofs.YtekjejbcdnghjaaDoor

/-- every number of b is the greatest one that C gives for its index, or 0 -/
def BestOf (C : Nat → Int → Prop) (b : List Int) : Prop := ∀ j x, b[j]? = some x → 0 ≤ x ∧ (∀ c, C j c → c ≤ x) ∧ (x = 0 ∨ C j x)

theorem BestOf.congr {C C' : Nat → Int → Prop} {b : List Int} (h : BestOf C b) (e : ∀ j c, C j c ↔ C' j c) : BestOf C' b := fun j x hx => by
  obtain ⟨h1, h2, h3⟩ := h j x hx
  exact ⟨h1, fun c hc => h2 c ((e j c).2 hc), h3.imp id (e j x).1⟩
theorem BestOf.zeros {C : Nat → Int → Prop} (e : ∀ j c, ¬ C j c) (n : Nat) : BestOf C (List.replicate n 0) := fun j x hx => by
  rw [List.getElem?_replicate] at hx
  split at hx
  · injection hx with hx; subst hx
    exact ⟨by omega, fun c hc => absurd hc (e j c), Or.inl rfl⟩
  · cases hx
theorem BestOf.one {C : Nat → Int → Prop} {b b' : List Int} (h : BestOf C b) (h' : BestOf C b') (hn : b.length = b'.length) : b = b' := by
  apply List.ext_getElem hn
  intro j h1 h2
  obtain ⟨a1, a2, a3⟩ := h j _ (List.getElem?_eq_getElem h1)
  obtain ⟨c1, c2, c3⟩ := h' j _ (List.getElem?_eq_getElem h2)
  rcases a3 with a3 | a3
  · rcases c3 with c3 | c3
    · omega
    · have := a2 _ c3; omega
  · have := c2 _ a3
    rcases c3 with c3 | c3
    · omega
    · have := a2 _ c3; omega
/-- one contribution more -/
theorem BestOf.put {C : Nat → Int → Prop} {b : List Int} (h : BestOf C b) (j : Nat) {d : Int} (hd : 0 ≤ d) :
    BestOf (fun j' c => C j' c ∨ j' = j ∧ c = d) (b.set j (max (b.getD j 0) d)) := fun j' x hx => by
  rw [List.getElem?_set] at hx
  split at hx
  · rename_i e
    subst e
    split at hx
    · rename_i hj
      injection hx with hx
      subst hx
      obtain ⟨h1, h2, h3⟩ := h j _ (List.getElem?_eq_getElem hj)
      have e1 : b.getD j 0 = b[j] := by simp [List.getD, List.getElem?_eq_getElem hj]
      rw [e1]
      refine ⟨by omega, fun c hc => ?_, ?_⟩
      · rcases hc with hc | ⟨_, rfl⟩
        · have := h2 c hc; omega
        · omega
      · rcases Int.le_total (b[j]) d with e | e
        · rw [show max b[j] d = d by omega]; exact Or.inr (Or.inr ⟨rfl, rfl⟩)
        · rw [show max b[j] d = b[j] by omega]
          exact h3.imp id Or.inl
    · cases hx
  · rename_i e
    obtain ⟨h1, h2, h3⟩ := h j' x hx
    refine ⟨h1, fun c hc => ?_, h3.imp id Or.inl⟩
    rcases hc with hc | ⟨rfl, _⟩
    · exact h2 c hc
    · exact absurd rfl e

/-- digits laid over weights, from a place on -/
def raiseL (b : List Int) (a : Nat) (ds : List Int) (i : Nat) : List Int :=
  match i with
  | 0 => b
  | i + 1 => (raiseL b a ds i).set (a + i) (max ((raiseL b a ds i).getD (a + i) 0) (ds.getD i 0))
theorem raiseL_length (b : List Int) (a : Nat) (ds : List Int) : ∀ i, (raiseL b a ds i).length = b.length
  | 0 => rfl
  | i + 1 => by rw [raiseL, List.length_set, raiseL_length b a ds i]
theorem raise_best {C : Nat → Int → Prop} {b : List Int} (h : BestOf C b) (a : Nat) {ds : List Int} (hd : ∀ x ∈ ds, 0 ≤ x) : ∀ i, i ≤ ds.length →
    BestOf (fun j c => C j c ∨ ∃ k, k < i ∧ j = a + k ∧ ds[k]? = some c) (raiseL b a ds i)
  | 0, _ => h.congr fun j c => ⟨Or.inl, fun h => h.elim id fun ⟨k, hk, _⟩ => absurd hk (by omega)⟩
  | i + 1, hi => by
    have hx : ds.getD i 0 ∈ ds := by
      simp only [List.getD, List.getElem?_eq_getElem (show i < ds.length by omega), Option.getD_some]
      exact List.getElem_mem _
    refine ((raise_best h a hd i (by omega)).put (a + i) (hd _ hx)).congr fun j c => ?_
    constructor
    · rintro ((h | ⟨k, hk, e1, e2⟩) | ⟨rfl, rfl⟩)
      · exact Or.inl h
      · exact Or.inr ⟨k, by omega, e1, e2⟩
      · exact Or.inr ⟨i, by omega, rfl, by simp [List.getD, List.getElem?_eq_getElem (show i < ds.length by omega)]⟩
    · rintro (h | ⟨k, hk, e1, e2⟩)
      · exact Or.inl (Or.inl h)
      · by_cases e : k = i
        · subst e
          exact Or.inr ⟨e1, by simp [List.getD, e2]⟩
        · exact Or.inl (Or.inr ⟨k, by omega, e1, e2⟩)
theorem raise_wf {b : List Int} {a : Nat} {ds : List Int} {m : Int} (hm : 0 ≤ m) (hb : ∀ x ∈ b, 0 ≤ x ∧ x ≤ m) (hd : ∀ x ∈ ds, 0 ≤ x ∧ x ≤ m) : ∀ i, ∀ x ∈ raiseL b a ds i, 0 ≤ x ∧ x ≤ m
  | 0 => hb
  | i + 1 => fun x hx => by
    have ih := raise_wf hm hb hd (a := a) i
    rw [raiseL] at hx
    rcases List.mem_or_eq_of_mem_set hx with hx | rfl
    · exact ih x hx
    · have e1 : 0 ≤ (raiseL b a ds i).getD (a + i) 0 ∧ (raiseL b a ds i).getD (a + i) 0 ≤ m := by
        by_cases e : a + i < (raiseL b a ds i).length
        · simp only [List.getD, List.getElem?_eq_getElem e, Option.getD_some]; exact ih _ (List.getElem_mem _)
        · simp only [List.getD, List.getElem?_eq_none (show (raiseL b a ds i).length ≤ a + i by omega), Option.getD_none]; omega
      have e2 : 0 ≤ ds.getD i 0 ∧ ds.getD i 0 ≤ m := by
        by_cases e : i < ds.length
        · simp only [List.getD, List.getElem?_eq_getElem e, Option.getD_some]; exact hd _ (List.getElem_mem _)
        · simp only [List.getD, List.getElem?_eq_none (show ds.length ≤ i by omega), Option.getD_none]; omega
      omega

/-- what patterns contribute: letters and digits, laid over a text at every place at which the letters stand -/
def Contr (x : List (List Int × List Int)) (t : List Int) (j : Nat) (c : Int) : Prop :=
  ∃ p ∈ x, ∃ a k, a < t.length ∧ p.1 <+: t.drop a ∧ p.2[k]? = some c ∧ j = a + k

/-- a letter as it counts; a word between dots -/
def smallZ (c : Int) : Int := if 65 ≤ c ∧ c ≤ 90 then c + 32 else c
def dotsW (w : List Int) : List Int := 46 :: w.map smallZ ++ [46]
theorem dotsW_length (w : List Int) : (dotsW w).length = w.length + 2 := by simp [dotsW]

/-- the points by the weights -/
def pts (n : Nat) (b : List Int) : List Int := ((List.range (n - 2)).filter fun i => decide (2 ≤ i) && decide (b.getD (i + 1) 0 % 2 = 1)).map fun (i : Nat) => (i : Int)
/-- .. as far as below i -/
def ptsN (b : List Int) (i : Nat) : List Int := ((List.range i).filter fun i => decide (2 ≤ i) && decide (b.getD (i + 1) 0 % 2 = 1)).map fun (i : Nat) => (i : Int)
theorem pts_is (n : Nat) (b : List Int) : pts n b = ptsN b (n - 2) := rfl
theorem ptsN_two (b : List Int) : ptsN b 2 = [] := by simp [ptsN, List.range_succ]
theorem ptsN_small (b : List Int) {i : Nat} (hi : i ≤ 2) : ptsN b i = [] := by
  unfold ptsN
  rw [List.map_eq_nil_iff, List.filter_eq_nil_iff]
  intro k hk
  have := List.mem_range.1 hk
  simp; omega
theorem ptsN_succ (b : List Int) {i : Nat} (hi : 2 ≤ i) : ptsN b (i + 1) = ptsN b i ++ (if b.getD (i + 1) 0 % 2 = 1 then [(i : Int)] else []) := by
  unfold ptsN
  rw [List.range_succ, List.filter_append, List.map_append]
  by_cases h : b.getD (i + 1) 0 % 2 = 1
  · rw [if_pos h, List.filter_cons_of_pos (by rw [decide_eq_true hi, decide_eq_true h]; rfl)]; rfl
  · rw [if_neg h, List.filter_cons_of_neg (by rw [decide_eq_false h, Bool.and_false]; exact Bool.false_ne_true)]; rfl
theorem pts_mem {n : Nat} {b : List Int} {z : Int} : z ∈ pts n b ↔ ∃ i : Nat, z = i ∧ 2 ≤ i ∧ i + 3 ≤ n ∧ b.getD (i + 1) 0 % 2 = 1 := by
  unfold pts
  simp only [List.mem_map, List.mem_filter, List.mem_range, Bool.and_eq_true, decide_eq_true_eq]
  constructor
  · rintro ⟨i, ⟨h1, h2, h3⟩, rfl⟩; exact ⟨i, rfl, h2, by omega, h3⟩
  · rintro ⟨i, rfl, h1, h2, h3⟩; exact ⟨i, ⟨by omega, h1, h3⟩, rfl⟩
theorem pts_rise (n : Nat) (b : List Int) : (pts n b).Pairwise (· < ·) := by
  unfold pts
  rw [List.pairwise_map]
  refine (List.Pairwise.filter _ List.pairwise_lt_range).imp fun h => by omega
theorem pts_length (n : Nat) (b : List Int) : (pts n b).length ≤ n := by
  unfold pts
  rw [List.length_map]
  have := List.length_filter_le (fun i => decide (2 ≤ i) && decide (b.getD (i + 1) 0 % 2 = 1)) (List.range (n - 2))
  rw [List.length_range] at this
  omega

/-- the points of a word: those of the weights that the patterns give; none of a long word -/
def PointsS (x : List (List Int × List Int)) (w r : List Int) : Prop :=
  if 64 < w.length then r = [] else ∃ b, b.length = w.length + 3 ∧ BestOf (Contr x (dotsW w)) b ∧ r = pts w.length b
theorem PointsS.one {x : List (List Int × List Int)} {w r r' : List Int} (h : PointsS x w r) (h' : PointsS x w r') : r = r' := by
  unfold PointsS at h h'
  split at h
  · rw [if_pos (by assumption)] at h'; rw [h, h']
  · rw [if_neg (by assumption)] at h'
    obtain ⟨b, hb, h1, rfl⟩ := h
    obtain ⟨b', hb', h1', rfl⟩ := h'
    rw [h1.one h1' (by omega)]
theorem PointsS.rise {x : List (List Int × List Int)} {w r : List Int} (h : PointsS x w r) : r.Pairwise (· < ·) ∧ ∀ z ∈ r, 2 ≤ z ∧ z + 3 ≤ w.length := by
  unfold PointsS at h
  split at h
  · subst h; exact ⟨List.Pairwise.nil, by simp⟩
  · obtain ⟨b, hb, h1, rfl⟩ := h
    refine ⟨pts_rise _ _, fun z hz => ?_⟩
    obtain ⟨i, rfl, h2, h3, _⟩ := pts_mem.1 hz
    omega
theorem PointsS.length {x : List (List Int × List Int)} {w r : List Int} (h : PointsS x w r) : r.length ≤ 64 := by
  unfold PointsS at h
  split at h
  · subst h; simp
  · obtain ⟨b, hb, h1, rfl⟩ := h
    have := pts_length w.length b; omega

/-- capital letters -/
def greatZ (c : Int) : Int := if 97 ≤ c ∧ c ≤ 122 then c - 32 else c
theorem small_great (c : Int) : smallZ (greatZ c) = smallZ c := by
  unfold smallZ greatZ
  repeat' split
  all_goals omega
theorem dots_great (w : List Int) : dotsW (w.map greatZ) = dotsW w := by
  unfold dotsW
  rw [List.map_map]
  congr 3
  funext c
  exact small_great c
theorem PointsS.great {x : List (List Int × List Int)} {w r : List Int} (h : PointsS x (w.map greatZ) r) : PointsS x w r := by
  unfold PointsS at h ⊢
  rw [dots_great, List.length_map] at h
  exact h

/-- a pattern more whose digits are all even: no point is new -/
theorem PointsS.even {x : List (List Int × List Int)} {p : List Int × List Int} {w r r' : List Int} (h : PointsS x w r) (h' : PointsS (x ++ [p]) w r') (hx : ∀ q ∈ x, ∀ d ∈ q.2, 0 ≤ d)
    (hp : ∀ d ∈ p.2, d % 2 = 0) : ∀ z ∈ r', z ∈ r := by
  unfold PointsS at h h'
  split at h
  · rw [if_pos (by assumption)] at h'; rw [h, h']; simp
  · rw [if_neg (by assumption)] at h'
    obtain ⟨b, hb, h1, rfl⟩ := h
    obtain ⟨b', hb', h1', rfl⟩ := h'
    intro z hz
    obtain ⟨i, rfl, h2, h3, h4⟩ := pts_mem.1 hz
    refine pts_mem.2 ⟨i, rfl, h2, h3, ?_⟩
    have l1 : i + 1 < b.length := by omega
    have l2 : i + 1 < b'.length := by omega
    have e1 : b.getD (i + 1) 0 = b[i + 1] := by simp [List.getD, List.getElem?_eq_getElem l1]
    have e2 : b'.getD (i + 1) 0 = b'[i + 1] := by simp [List.getD, List.getElem?_eq_getElem l2]
    rw [e2] at h4
    rw [e1]
    obtain ⟨a1, a2, a3⟩ := h1 _ _ (List.getElem?_eq_getElem l1)
    obtain ⟨c1, c2, c3⟩ := h1' _ _ (List.getElem?_eq_getElem l2)
    rcases c3 with c3 | ⟨q, hq, a, k, k1, k2, k3, k4⟩
    · rw [c3] at h4; simp at h4
    · rcases List.mem_append.1 hq with hq | hq
      · have g1 := a2 _ ⟨q, hq, a, k, k1, k2, k3, k4⟩
        have g2 : b[i + 1] ≤ b'[i + 1] := by
          rcases a3 with a3 | ⟨q', hq', r⟩
          · omega
          · exact c2 _ ⟨q', List.mem_append_left _ hq', r⟩
        rw [show b[i + 1] = b'[i + 1] by omega]
        exact h4
      · rw [List.mem_singleton.1 hq] at k3
        have := hp _ (List.mem_of_getElem? k3)
        omega
end Go.Proofs.YtekjejbcdnghjaaDoor
