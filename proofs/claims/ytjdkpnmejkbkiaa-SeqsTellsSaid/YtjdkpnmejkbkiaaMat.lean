/-
  Mathematics of isolates: matching by a stack, that it is mutual and does not cross; the first strong class as an automaton that counts its depth. No program, no condition.
-/
import Derived.Test.YtjdkpnmejkbkiaaTab
set_option linter.unusedVariables false
set_option linter.unusedSimpArgs false
namespace Go.Proofs.Ytjdkpnmejkbkiaa

def opnC (c : Int) : Bool := c == 20 || c == 21 || c == 22
/-- what is matched so far, and the initiators that wait (the last at the end) -/
structure Ms where
  out : List Int
  opn : List Nat
def stepM (cs : List Int) (s : Ms) (i : Nat) : Ms :=
  if opnC (cs.getD i 0) = true then ⟨s.out ++ [-1], s.opn ++ [i]⟩
  else if cs.getD i 0 = 11 then ⟨s.out ++ [-1], []⟩
  else if cs.getD i 0 = 23 ∧ s.opn ≠ [] then ⟨((s.out ++ [-1]).set i (s.opn.getLastD 0 : Nat)).set (s.opn.getLastD 0) (i : Int), s.opn.dropLast⟩
  else ⟨s.out ++ [-1], s.opn⟩
def matS (cs : List Int) : Nat → Ms
  | 0 => ⟨[], []⟩
  | n + 1 => stepM cs (matS cs n) n
def matL (cs : List Int) : List Int := (matS cs cs.length).out

/-- what lies between an initiator and its PDI -/
def PairM (cs out : List Int) (i k : Nat) : Prop := ∀ x, i < x → x < k → cs.getD x 0 ≠ 11 ∧ ((out.getD x 0 = -1 ∧ cs.getD x 0 ≠ 23 ∧ opnC (cs.getD x 0) = false) ∨ ∃ y : Nat, out.getD x 0 = y ∧ i < y ∧ y < k)
/-- what lies behind an initiator without a PDI, up to b -/
def LoneM (cs out : List Int) (i b : Nat) : Prop := ∀ x, i < x → x < b → cs.getD x 0 ≠ 11 ∧ ((out.getD x 0 = -1 ∧ cs.getD x 0 ≠ 23) ∨ ∃ y : Nat, out.getD x 0 = y ∧ i < y ∧ y < b)
def ValsM (cs out : List Int) (n : Nat) : Prop := ∀ i : Nat, i < n → out.getD i 0 = (-1 : Int) ∨ ∃ k : Nat, out.getD i 0 = (k : Int) ∧ k < n ∧ out.getD k 0 = (i : Int) ∧ (i < k → opnC (cs.getD i 0) = true ∧ cs.getD k 0 = 23 ∧ PairM cs out i k) ∧ (k < i → opnC (cs.getD k 0) = true ∧ cs.getD i 0 = 23) ∧ i ≠ k
structure InvM (cs : List Int) (n : Nat) (s : Ms) : Prop where
  len : s.out.length = n
  stk_lt : ∀ j ∈ s.opn, j < n ∧ opnC (cs.getD j 0) = true ∧ s.out.getD j 0 = -1 ∧ LoneM cs s.out j n
  stk_up : s.opn.Pairwise (· < ·)
  lone : ∀ i, i < n → opnC (cs.getD i 0) = true → s.out.getD i 0 = -1 → i ∈ s.opn ∨ ∃ b, i < b ∧ b < n ∧ cs.getD b 0 = 11 ∧ LoneM cs s.out i b
  vals : ValsM cs s.out n
theorem getD_snoc_lt (l : List Int) (v : Int) (x : Nat) (h : x < l.length) : (l ++ [v]).getD x 0 = l.getD x 0 := by
  rw [List.getD_eq_getElem?_getD, List.getD_eq_getElem?_getD, List.getElem?_append_left h]
theorem getD_snoc_eq (l : List Int) (v : Int) : (l ++ [v]).getD l.length 0 = v := by
  rw [List.getD_eq_getElem?_getD, List.getElem?_append_right (Nat.le_refl _)]; simp
theorem getD_set (l : List Int) (i : Nat) (v : Int) (x : Nat) (h : i < l.length) : (l.set i v).getD x 0 = if x = i then v else l.getD x 0 := by
  rw [List.getD_eq_getElem?_getD, List.getD_eq_getElem?_getD]
  by_cases e : i = x
  · subst e; rw [List.getElem?_set_self h, if_pos rfl]; rfl
  · rw [List.getElem?_set_ne e, if_neg (fun h => e h.symm)]
/-- a step that only adds a place without a match -/
theorem LoneM.keep {cs out : List Int} {i b n : Nat} (h : LoneM cs out i b) (hn : out.length = n) (hb : b ≤ n) : LoneM cs (out ++ [-1]) i b := fun x h1 h2 => by
  rw [getD_snoc_lt _ _ _ (by omega)]; exact h x h1 h2
theorem PairM.keep {cs out : List Int} {i b n : Nat} (h : PairM cs out i b) (hn : out.length = n) (hb : b ≤ n) : PairM cs (out ++ [-1]) i b := fun x h1 h2 => by
  rw [getD_snoc_lt _ _ _ (by omega)]; exact h x h1 h2
theorem LoneM.more {cs out : List Int} {i n : Nat} (h : LoneM cs out i n) (hn : out.length = n) (hc : cs.getD n 0 ≠ 11) (hc2 : cs.getD n 0 ≠ 23) : LoneM cs (out ++ [-1]) i (n + 1) := fun x h1 h2 => by
  by_cases e : x = n
  · subst e
    refine ⟨hc, .inl ⟨?_, hc2⟩⟩
    rw [← hn, getD_snoc_eq]
  · obtain ⟨a, b⟩ := h x h1 (by omega)
    rw [getD_snoc_lt _ _ _ (by omega)]
    refine ⟨a, ?_⟩
    rcases b with b | ⟨y, b1, b2, b3⟩
    · exact .inl b
    · exact .inr ⟨y, b1, b2, by omega⟩
theorem vals_keep {cs out : List Int} {n : Nat} (hn : out.length = n)
    (h : ValsM cs out n) : ValsM cs (out ++ [-1]) (n + 1) := fun i hi => by
  by_cases e : i = n
  · subst e
    left
    rw [← hn, getD_snoc_eq]
  · rw [getD_snoc_lt _ _ _ (by omega)]
    rcases h i (by omega) with h0 | ⟨k, k1, k2, k3, k4, k5, k6⟩
    · exact .inl h0
    · refine .inr ⟨k, k1, by omega, by rw [getD_snoc_lt _ _ _ (by omega)]; exact k3, fun hik => ?_, k5, k6⟩
      obtain ⟨a, b, c⟩ := k4 hik
      exact ⟨a, b, c.keep hn (by omega)⟩
theorem inv_stepM (cs : List Int) (n : Nat) (s : Ms) (h : InvM cs n s) : InvM cs (n + 1) (stepM cs s n) := by
  obtain ⟨hlen, hstk, hup, hlone, hvals⟩ := h
  unfold stepM
  split
  · rename_i ho
    have c11 : cs.getD n 0 ≠ 11 := fun e => by rw [e] at ho; cases ho
    have c23 : cs.getD n 0 ≠ 23 := fun e => by rw [e] at ho; cases ho
    refine ⟨by simp [hlen], fun j hj => ?_, ?_, fun i hi h1 h2 => ?_, vals_keep hlen hvals⟩
    · rcases List.mem_append.1 hj with hj | hj
      · obtain ⟨a, b, c, d⟩ := hstk j hj
        exact ⟨by omega, b, by rw [getD_snoc_lt _ _ _ (by omega)]; exact c, d.more hlen c11 c23⟩
      · simp at hj
        subst hj
        exact ⟨by omega, ho, by rw [← hlen, getD_snoc_eq], fun x h1 h2 => by omega⟩
    · rw [List.pairwise_append]
      exact ⟨hup, by simp, fun a ha b hb => by simp at hb; subst hb; exact (hstk a ha).1⟩
    · by_cases e : i = n
      · subst e; exact .inl (by simp)
      · rw [getD_snoc_lt _ _ _ (by omega)] at h2
        rcases hlone i (by omega) h1 h2 with hm | ⟨b, b1, b2, b3, b4⟩
        · exact .inl (by simp [hm])
        · exact .inr ⟨b, b1, by omega, b3, b4.keep hlen (by omega)⟩
  split
  · rename_i ho hb
    refine ⟨by simp [hlen], fun j hj => by simp at hj, by simp, fun i hi h1 h2 => ?_, vals_keep hlen hvals⟩
    have e : i ≠ n := fun e => by subst e; exact ho h1
    rw [getD_snoc_lt _ _ _ (by omega)] at h2
    right
    rcases hlone i (by omega) h1 h2 with hm | ⟨b, b1, b2, b3, b4⟩
    · exact ⟨n, by omega, by omega, hb, (hstk i hm).2.2.2.keep hlen (Nat.le_refl _)⟩
    · exact ⟨b, b1, by omega, b3, b4.keep hlen (by omega)⟩
  split
  · rename_i ho hb hp
    obtain ⟨hp1, hp2⟩ := hp
    obtain ⟨j, rest, hj⟩ : ∃ j rest, s.opn = rest ++ [j] := ⟨s.opn.getLast hp2, s.opn.dropLast, (List.dropLast_concat_getLast hp2).symm⟩
    have hl : s.opn.getLastD 0 = j := by rw [hj]; simp
    have hd : s.opn.dropLast = rest := by rw [hj]; simp
    rw [hl, hd]
    obtain ⟨j1, j2, j3, j4⟩ := hstk j (by rw [hj]; simp)
    have hrest : ∀ r ∈ rest, r < j := fun r hr => by
      rw [hj, List.pairwise_append] at hup
      exact hup.2.2 r hr j (by simp)
    obtain ⟨o, ho'⟩ : ∃ o, ((s.out ++ [-1]).set n (j : Int)).set j (n : Int) = o := ⟨_, rfl⟩
    have hg : ∀ x, o.getD x 0 = if x = j then (n : Int) else if x = n then (j : Int) else (s.out ++ [-1]).getD x 0 := fun x => by
      rw [← ho', getD_set _ _ _ _ (by simp [hlen]; omega), getD_set _ _ _ _ (by simp [hlen])]
    have hgo : ∀ x, x ≠ j → x < n → o.getD x 0 = s.out.getD x 0 := fun x hx1 hx2 => by
      rw [hg, if_neg hx1, if_neg (by omega), getD_snoc_lt _ _ _ (by omega)]
    have hgj : o.getD j 0 = n := by rw [hg, if_pos rfl]
    have hgn : o.getD n 0 = j := by rw [hg, if_neg (by omega), if_pos rfl]
    have hnopn : ∀ x, j < x → x < n → s.out.getD x 0 = -1 → opnC (cs.getD x 0) = false := fun x hx1 hx2 hx3 => by
      cases hq : opnC (cs.getD x 0) with
      | false => rfl
      | true =>
        rcases hlone x hx2 hq hx3 with hm | ⟨b, b1, b2, b3, _⟩
        · rw [hj, List.mem_append] at hm
          rcases hm with hm | hm
          · have := hrest x hm; omega
          · simp at hm; omega
        · exact absurd b3 (j4 b (by omega) b2).1
    have hpair : PairM cs o j n := fun x h1 h2 => by
      obtain ⟨a, b⟩ := j4 x h1 h2
      rw [hgo x (by omega) h2]
      refine ⟨a, ?_⟩
      rcases b with ⟨b1, b2⟩ | b
      · exact .inl ⟨b1, b2, hnopn x h1 h2 b1⟩
      · exact .inr b
    have hvj : ∀ x, x < n → x ≠ j → s.out.getD x 0 ≠ j := fun x hx hxj e => by
      rcases hvals x hx with h0 | ⟨k, k1, k2, k3, _⟩
      · rw [h0] at e; omega
      · have : k = j := by rw [k1] at e; omega
        subst this
        rw [j3] at k3
        omega
    have hlk : ∀ i b, b ≤ n → (i < j → j < b → False) → LoneM cs s.out i b → LoneM cs o i b := fun i b hbn hij hL x h1 h2 => by
      have hxj : x ≠ j := fun e => by subst e; exact hij h1 h2
      rw [hgo x hxj (by omega)]
      exact hL x h1 h2
    rw [ho']
    refine ⟨by rw [← ho']; simp [hlen], fun r hr => ?_, ?_, fun i hi h1 h2 => ?_, fun i hi => ?_⟩
    · obtain ⟨a, b, c, d⟩ := hstk r (by rw [hj]; simp [hr])
      have hrj := hrest r hr
      refine ⟨by omega, b, by rw [hgo r (by omega) (by omega)]; exact c, fun x h1 h2 => ?_⟩
      by_cases e : x = n
      · subst e
        exact ⟨hb, .inr ⟨j, hgn, hrj, by omega⟩⟩
      · obtain ⟨d1, d2⟩ := d x h1 (by omega)
        refine ⟨d1, ?_⟩
        by_cases e2 : x = j
        · subst e2
          exact .inr ⟨n, hgj, by omega, by omega⟩
        · rw [hgo x e2 (by omega)]
          rcases d2 with d2 | ⟨y, y1, y2, y3⟩
          · exact .inl d2
          · exact .inr ⟨y, y1, y2, by omega⟩
    · show rest.Pairwise _
      rw [hj, List.pairwise_append] at hup
      exact hup.1
    · have e : i ≠ n := fun e => by subst e; exact ho h1
      have e2 : i ≠ j := fun e => by subst e; rw [hgj] at h2; omega
      rw [hgo i e2 (by omega)] at h2
      rcases hlone i (by omega) h1 h2 with hm | ⟨b, b1, b2, b3, b4⟩
      · left
        rw [hj, List.mem_append] at hm
        rcases hm with hm | hm
        · exact hm
        · simp at hm; exact absurd hm e2
      · refine .inr ⟨b, b1, by omega, b3, hlk i b (by omega) (fun h3 h4 => ?_) b4⟩
        exact absurd b3 (j4 b h4 (by omega)).1
    · by_cases e : i = n
      · subst e
        exact .inr ⟨j, hgn, by omega, hgj, fun h => by omega, fun _ => ⟨j2, hp1⟩, by omega⟩
      · by_cases e2 : i = j
        · subst e2
          exact .inr ⟨n, hgj, by omega, hgn, fun _ => ⟨j2, hp1, hpair⟩, fun h => by omega, by omega⟩
        · rw [hgo i e2 (by omega)]
          rcases hvals i (by omega) with h0 | ⟨k, k1, k2, k3, k4, k5, k6⟩
          · exact .inl h0
          · have hkj : k ≠ j := fun e3 => by
              subst e3
              exact hvj i (by omega) e2 k1
            refine .inr ⟨k, k1, by omega, by rw [hgo k hkj k2]; exact k3, fun hik => ?_, k5, k6⟩
            obtain ⟨a, b, c⟩ := k4 hik
            refine ⟨a, b, fun x h1 h2 => ?_⟩
            obtain ⟨c1, c2⟩ := c x h1 h2
            refine ⟨c1, ?_⟩
            by_cases e3 : x = j
            · subst e3
              rcases c2 with ⟨_, _, c4⟩ | ⟨y, y1, _⟩
              · rw [j2] at c4; cases c4
              · rw [j3] at y1; omega
            · rw [hgo x e3 (by omega)]
              exact c2
  · rename_i ho hb hp
    refine ⟨by simp [hlen], fun j hj => ?_, hup, fun i hi h1 h2 => ?_, vals_keep hlen hvals⟩
    · have c23 : cs.getD n 0 ≠ 23 := fun e => hp ⟨e, fun e2 => by rw [e2] at hj; simp at hj⟩
      obtain ⟨a, b, c, d⟩ := hstk j hj
      exact ⟨by omega, b, by rw [getD_snoc_lt _ _ _ (by omega)]; exact c, d.more hlen hb c23⟩
    · have e : i ≠ n := fun e => by subst e; exact ho h1
      rw [getD_snoc_lt _ _ _ (by omega)] at h2
      rcases hlone i (by omega) h1 h2 with hm | ⟨b, b1, b2, b3, b4⟩
      · exact .inl hm
      · exact .inr ⟨b, b1, by omega, b3, b4.keep hlen (by omega)⟩
theorem inv_mat (cs : List Int) : ∀ n, InvM cs n (matS cs n)
  | 0 => ⟨rfl, fun j hj => by simp [matS] at hj, by simp [matS], fun i hi => by omega, fun i hi => by omega⟩
  | n + 1 => inv_stepM cs n _ (inv_mat cs n)
theorem mat_len (cs : List Int) : (matL cs).length = cs.length := (inv_mat cs cs.length).len
end Go.Proofs.Ytjdkpnmejkbkiaa
