/-
  Mathematics of paired brackets: the scan with its stack, that pairs do not cross and share no place, the sorted list of pairs. No program, no condition.
-/
import Derived.Test.YtlopddiplmjpfaaTab
set_option linter.unusedVariables false
set_option linter.unusedSimpArgs false
namespace Go.Proofs.Ytlopddiplmjpfaa

def canonB (r : Int) : Int := if r = 9001 then 12296 else if r = 9002 then 12297 else r
/-- the topmost of the first k that goes with a pair -/
def fndN (l : List (Nat × Int)) (pair : Int) : Nat → Option Nat
  | 0 => none
  | k + 1 => if canonB (l.getD k (0, 0)).2 = canonB pair then some k else fndN l pair k
theorem fndN_lt (l : List (Nat × Int)) (pair : Int) : ∀ n k, fndN l pair n = some k → k < n ∧ canonB (l.getD k (0, 0)).2 = canonB pair ∧ ∀ j, k < j → j < n → canonB (l.getD j (0, 0)).2 ≠ canonB pair
  | 0, k, h => by cases h
  | n + 1, k, h => by
    unfold fndN at h
    split at h
    · rename_i hc
      injection h with h
      subst h
      exact ⟨Nat.lt_succ_self _, hc, fun j h1 h2 => by omega⟩
    · rename_i hc
      obtain ⟨h1, h2, h3⟩ := fndN_lt l pair n k h
      refine ⟨by omega, h2, fun j h4 h5 => ?_⟩
      by_cases e : j = n
      · subst e; exact hc
      · exact h3 j h4 (by omega)
theorem fndN_none (l : List (Nat × Int)) (pair : Int) : ∀ n, fndN l pair n = none → ∀ j, j < n → canonB (l.getD j (0, 0)).2 ≠ canonB pair
  | 0, _, j, h => absurd h (by omega)
  | n + 1, h, j, hj => by
    unfold fndN at h
    split at h
    · cases h
    · rename_i hc
      by_cases e : j = n
      · subst e; exact hc
      · exact fndN_none l pair n h j (by omega)

/-- the scan: pairs found, the stack (its top at the end), whether it has ended -/
structure Sc where
  out : List (Nat × Nat)
  stk : List (Nat × Int)
  halt : Bool
def opnB (t cs : List Int) (i : Nat) : Bool := cs.getD i 0 == 14 && (ofP (t.getD i 0)).pa != 0 && (ofP (t.getD i 0)).op
def clsB (t cs : List Int) (i : Nat) : Bool := cs.getD i 0 == 14 && (ofP (t.getD i 0)).pa != 0 && !(ofP (t.getD i 0)).op
def stepS (t cs : List Int) (s : Sc) (i : Nat) : Sc :=
  if s.halt = true then s
  else if opnB t cs i = true then (if s.stk.length = 63 then { s with halt := true } else { s with stk := s.stk ++ [(i, t.getD i 0)] })
  else if clsB t cs i = true then (match fndN s.stk (ofP (t.getD i 0)).pa s.stk.length with | some k => { s with out := s.out ++ [((s.stk.getD k (0, 0)).1, i)], stk := s.stk.take k } | none => s)
  else s
def scanS (t cs : List Int) : Nat → Sc
  | 0 => ⟨[], [], false⟩
  | n + 1 => stepS t cs (scanS t cs n) n

/-- what holds of the scan behind n places -/
structure Inv (t cs : List Int) (n : Nat) (s : Sc) : Prop where
  stk_lt : ∀ x ∈ s.stk, x.1 < n ∧ opnB t cs x.1 = true ∧ x.2 = t.getD x.1 0
  stk_up : s.stk.Pairwise (fun x y => x.1 < y.1)
  out_ok : ∀ p ∈ s.out, p.1 < p.2 ∧ p.2 < n ∧ opnB t cs p.1 = true ∧ clsB t cs p.2 = true
  out_up : s.out.Pairwise (fun p q => p.2 < q.2 ∧ (q.1 < p.1 ∨ p.2 < q.1))
  apart : ∀ p ∈ s.out, ∀ x ∈ s.stk, x.1 < p.1 ∨ p.2 < x.1
theorem Inv.next {t cs : List Int} {n : Nat} {s : Sc} (h : Inv t cs n s) : Inv t cs (n + 1) s :=
  ⟨fun x hx => ⟨by have := (h.stk_lt x hx).1; omega, (h.stk_lt x hx).2⟩, h.stk_up, fun p hp => by obtain ⟨a, b, c, d⟩ := h.out_ok p hp; exact ⟨a, by omega, c, d⟩, h.out_up, h.apart⟩
theorem inv_step (t cs : List Int) (n : Nat) (s : Sc) (h : Inv t cs n s) : Inv t cs (n + 1) (stepS t cs s n) := by
  unfold stepS
  split
  · exact h.next
  split
  · rename_i ho
    split
    · exact ⟨h.next.stk_lt, h.stk_up, h.next.out_ok, h.out_up, h.apart⟩
    · refine ⟨fun x hx => ?_, ?_, h.next.out_ok, h.out_up, fun p hp x hx => ?_⟩
      · rw [List.mem_append, List.mem_singleton] at hx
        rcases hx with hx | rfl
        · exact h.next.stk_lt x hx
        · exact ⟨Nat.lt_succ_self _, ho, rfl⟩
      · rw [List.pairwise_append]
        exact ⟨h.stk_up, List.pairwise_singleton _ _, fun x hx y hy => by rw [List.mem_singleton] at hy; subst hy; exact (h.stk_lt x hx).1⟩
      · rw [List.mem_append, List.mem_singleton] at hx
        rcases hx with hx | rfl
        · exact h.apart p hp x hx
        · exact .inr (h.out_ok p hp).2.1
  split
  · rename_i hc
    split
    · rename_i k hk
      obtain ⟨k1, k2, k3⟩ := fndN_lt _ _ _ _ hk
      have hg : s.stk.getD k (0, 0) = s.stk[k] := by rw [List.getD_eq_getElem?_getD, List.getElem?_eq_getElem k1]; rfl
      have hm : s.stk[k] ∈ s.stk := List.getElem_mem k1
      obtain ⟨m1, m2, m3⟩ := h.stk_lt _ hm
      rw [hg]
      refine ⟨fun x hx => h.next.stk_lt x (List.mem_of_mem_take hx), h.stk_up.sublist (List.take_sublist _ _), fun p hp => ?_, ?_, fun p hp x hx => ?_⟩
      · rw [List.mem_append, List.mem_singleton] at hp
        rcases hp with hp | rfl
        · exact h.next.out_ok p hp
        · exact ⟨m1, Nat.lt_succ_self _, m2, hc⟩
      · rw [List.pairwise_append]
        refine ⟨h.out_up, List.pairwise_singleton _ _, fun p hp q hq => ?_⟩
        rw [List.mem_singleton] at hq
        subst hq
        exact ⟨(h.out_ok p hp).2.1, h.apart p hp _ hm⟩
      · rw [List.mem_append, List.mem_singleton] at hp
        rcases hp with hp | rfl
        · exact h.apart p hp x (List.mem_of_mem_take hx)
        · left
          obtain ⟨j, hj, he⟩ := List.getElem_of_mem hx
          rw [List.length_take] at hj
          rw [List.getElem_take] at he
          have := List.pairwise_iff_getElem.1 h.stk_up j k (by omega) k1 (by omega)
          rw [he] at this
          exact this
    · exact h.next
  · exact h.next
theorem inv_scan (t cs : List Int) : ∀ n, Inv t cs n (scanS t cs n)
  | 0 => ⟨fun x hx => by simp [scanS] at hx, by simp [scanS], fun p hp => by simp [scanS] at hp, by simp [scanS], fun p hp => by simp [scanS] at hp⟩
  | n + 1 => inv_step t cs n _ (inv_scan t cs n)
theorem stk_le (t cs : List Int) : ∀ n, (scanS t cs n).stk.length ≤ 63
  | 0 => Nat.zero_le _
  | n + 1 => by
    have ih := stk_le t cs n
    unfold scanS stepS
    split
    · exact ih
    split
    · split
      · exact ih
      · rw [List.length_append]
        simp
        omega
    split
    · split
      · rw [List.length_take]; omega
      · exact ih
    · exact ih
theorem out_le (t cs : List Int) : ∀ n, (scanS t cs n).out.length ≤ n
  | 0 => Nat.le_refl _
  | n + 1 => by
    have ih := out_le t cs n
    unfold scanS stepS
    split
    · omega
    split
    · split <;> exact Nat.le_succ_of_le ih
    split
    · split
      · rw [List.length_append]; simp; omega
      · omega
    · omega

/-- the pairs, rising by their first places -/
def PairsV (t cs : List Int) (l : List (Nat × Nat)) : Prop := (t.length ≠ cs.length → l = []) ∧ (t.length = cs.length → l.Pairwise (fun p q => p.1 < q.1) ∧ ∀ p, p ∈ l ↔ p ∈ (scanS t cs t.length).out)
theorem pairs_ext : ∀ l m : List (Nat × Nat), l.Pairwise (fun p q => p.1 < q.1) → m.Pairwise (fun p q => p.1 < q.1) → (∀ x, x ∈ l ↔ x ∈ m) → l = m
  | [], [], _, _, _ => rfl
  | [], b :: m, _, _, h => by have := (h b).2 (by simp); simp at this
  | a :: l, [], _, _, h => by have := (h a).1 (by simp); simp at this
  | a :: l, b :: m, hl, hm, h => by
    rw [List.pairwise_cons] at hl hm
    have hab : a = b := by
      have h1 := (h a).1 (by simp)
      have h2 := (h b).2 (by simp)
      rw [List.mem_cons] at h1 h2
      rcases h1 with h1 | h1
      · exact h1
      · rcases h2 with h2 | h2
        · exact h2.symm
        · have := hm.1 a h1
          have := hl.1 b h2
          omega
    subst hab
    rw [pairs_ext l m hl.2 hm.2 fun x => ?_]
    have hx := h x
    rw [List.mem_cons, List.mem_cons] at hx
    constructor
    · intro h1
      have := hl.1 x h1
      rcases hx.1 (.inr h1) with h2 | h2
      · subst h2; omega
      · exact h2
    · intro h1
      have := hm.1 x h1
      rcases hx.2 (.inr h1) with h2 | h2
      · subst h2; omega
      · exact h2
theorem PairsV.unique {t cs : List Int} {l m : List (Nat × Nat)} (h : PairsV t cs l) (k : PairsV t cs m) : l = m := by
  by_cases e : t.length = cs.length
  · obtain ⟨h1, h2⟩ := h.2 e
    obtain ⟨k1, k2⟩ := k.2 e
    exact pairs_ext l m h1 k1 fun x => (h2 x).trans (k2 x).symm
  · rw [h.1 e, k.1 e]
/-- pairs do not cross and share no place -/
theorem out_cross (t cs : List Int) (n : Nat) (p q : Nat × Nat) (hp : p ∈ (scanS t cs n).out) (hq : q ∈ (scanS t cs n).out) (h : p.1 < q.1) : p.2 < q.1 ∨ q.2 < p.2 := by
  have hI := inv_scan t cs n
  obtain ⟨i, hi, rfl⟩ := List.getElem_of_mem hp
  obtain ⟨j, hj, rfl⟩ := List.getElem_of_mem hq
  rcases Nat.lt_trichotomy i j with hl | hl | hl
  · have := List.pairwise_iff_getElem.1 hI.out_up i j hi hj hl
    omega
  · subst hl; omega
  · have := List.pairwise_iff_getElem.1 hI.out_up j i hj hi hl
    omega
theorem PairsV.at {t cs : List Int} {l : List (Nat × Nat)} (h : PairsV t cs l) (p : Nat × Nat) (hp : p ∈ l) : t.length = cs.length ∧ p.1 < p.2 ∧ p.2 < t.length ∧ opnB t cs p.1 = true ∧ clsB t cs p.2 = true := by
  by_cases e : t.length = cs.length
  · obtain ⟨a, b, c, d⟩ := (inv_scan t cs t.length).out_ok p (((h.2 e).2 p).1 hp)
    exact ⟨e, a, b, c, d⟩
  · rw [h.1 e] at hp; cases hp
theorem PairsV.nest {t cs : List Int} {l : List (Nat × Nat)} (h : PairsV t cs l) (i j : Nat) (hij : i < j) (hj : j < l.length) :
    (l[i]'(by omega)).1 < l[j].1 ∧ ((l[i]'(by omega)).2 < l[j].1 ∨ l[j].2 < (l[i]'(by omega)).2) := by
  by_cases e : t.length = cs.length
  · obtain ⟨h1, h2⟩ := h.2 e
    have hlt := List.pairwise_iff_getElem.1 h1 i j (by omega) hj hij
    exact ⟨hlt, out_cross t cs t.length _ _ ((h2 _).1 (List.getElem_mem _)) ((h2 _).1 (List.getElem_mem _)) hlt⟩
  · have := h.1 e
    subst this
    simp at hj
end Go.Proofs.Ytlopddiplmjpfaa
