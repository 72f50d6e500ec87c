/-
  Where a boundary stands in the list of all, the one behind it and the one before it; neighbours. No condition.
-/
import Derived.Test.YtcplhbafbjpnlaaBnd
set_option linter.unusedVariables false
namespace Go.Proofs.Ytcplhbafbjpnlaa

theorem Bs_prefix (L : List Int) (m : Nat) : ∀ k, ∃ r, Bs L (m + k) = Bs L m ++ r
  | 0 => ⟨[], by simp⟩
  | k + 1 => by
    obtain ⟨r, h⟩ := Bs_prefix L m k
    rw [← Nat.add_assoc, Bs_succ, h]
    exact ⟨_, List.append_assoc _ _ _⟩
theorem at_get (L : List Int) (i : Nat) (hi : i ≤ L.length) (hb : bP L i = true) : (bnds L)[(Bs L i).length]? = some i := by
  obtain ⟨r, h⟩ := Bs_prefix L (i + 1) (L.length - i)
  unfold bnds
  rw [show L.length + 1 = i + 1 + (L.length - i) by omega, h, Bs_yes L i hb]
  simp
theorem at_not (L : List Int) (i : Nat) (hb : bP L i = false) (k y : Nat) (h : (bnds L)[k]? = some y) : y ≠ i := by
  intro e
  subst e
  have := (mem_bnds.1 (List.mem_of_getElem? h)).2
  rw [hb] at this; cases this
theorem Bs_len_yes (L : List Int) (i : Nat) (h : bP L i = true) : (Bs L (i + 1)).length = (Bs L i).length + 1 := by rw [Bs_yes L i h, List.length_append]; rfl
theorem Bs_len_no (L : List Int) (i : Nat) (h : bP L i = false) : (Bs L (i + 1)).length = (Bs L i).length := by rw [Bs_no L i h]
theorem Bs_len_pos (L : List Int) (hn : 0 < L.length) : ∀ i, 0 < i → 0 < (Bs L i).length
  | 0, h => absurd h (by omega)
  | i + 1, _ => List.length_pos_of_mem (mem_Bs.2 ⟨Nat.succ_pos _, bP_zero L hn⟩)
theorem ex_next (L : List Int) : ∀ d i, L.length = i + d + 1 → ∃ r, IsNext L i r
  | 0, i, h => ⟨i + 1, by omega, by omega, by rw [show i + 1 = L.length by omega]; exact bP_end L (by omega), fun j h1 h2 => by omega⟩
  | d + 1, i, h => by
    cases hb : bP L (i + 1) with
    | true => exact ⟨i + 1, by omega, by omega, hb, fun j h1 h2 => by omega⟩
    | false =>
      obtain ⟨r, h1, h2, h3, h4⟩ := ex_next L d (i + 1) (by omega)
      refine ⟨r, by omega, h2, h3, fun j hj1 hj2 => ?_⟩
      by_cases hj : j = i + 1
      · subst hj; exact hb
      · exact h4 j (by omega) hj2
theorem ex_prev (L : List Int) (hn : 0 < L.length) : ∀ i, 0 < i → ∃ r, IsPrev L i r
  | 0, h => absurd h (by omega)
  | k + 1, _ => by
    cases hb : bP L k with
    | true => exact ⟨k, by omega, hb, fun j h1 h2 => by omega⟩
    | false =>
      have hk : 0 < k := by
        rcases Nat.eq_zero_or_pos k with rfl | h
        · rw [bP_zero L hn] at hb; cases hb
        · exact h
      obtain ⟨r, h1, h3, h4⟩ := ex_prev L hn k hk
      refine ⟨r, by omega, h3, fun j hj1 hj2 => ?_⟩
      by_cases hj : j = k
      · subst hj; exact hb
      · exact h4 j hj1 (by omega)
theorem next_at (L : List Int) (i r : Nat) (hb : bP L i = true) (h : IsNext L i r) : (bnds L)[(Bs L i).length + 1]? = some r := by
  obtain ⟨h1, h2, h3, h4⟩ := h
  have hg := Bs_gap L (i + 1) (r - (i + 1)) (fun j hj1 hj2 => h4 j (by omega) (by omega))
  rw [show i + 1 + (r - (i + 1)) = r by omega] at hg
  have := at_get L r h2 h3
  rwa [hg, Bs_len_yes L i hb] at this
theorem prev_at (L : List Int) (i r : Nat) (hi : i ≤ L.length) (h : IsPrev L i r) : 1 ≤ (Bs L i).length ∧ (bnds L)[(Bs L i).length - 1]? = some r := by
  obtain ⟨h1, h3, h4⟩ := h
  have hg := Bs_gap L (r + 1) (i - (r + 1)) (fun j hj1 hj2 => h4 j (by omega) (by omega))
  rw [show r + 1 + (i - (r + 1)) = i by omega] at hg
  rw [hg, Bs_len_yes L r h3]
  exact ⟨by omega, by rw [Nat.add_sub_cancel]; exact at_get L r (by omega) h3⟩
theorem IsNext.val {L : List Int} {i r : Nat} (h : IsNext L i r) (hi : i < L.length) : NextV L i r :=
  ⟨fun _ => by omega, fun _ => by omega, fun m hm _ => by
    obtain rfl : i = m := by omega
    exact h⟩
theorem IsPrev.val {L : List Int} {i r : Nat} (h : IsPrev L i r) (h0 : 0 < i) (hi : i ≤ L.length) : PrevV L i r :=
  ⟨fun _ => by omega, fun _ => by omega, fun m hm _ _ => by
    obtain rfl : i = m := by omega
    exact h⟩
/-- the last of all is the text's length -/
theorem bnds_last (L : List Int) (hn : 0 < L.length) : (bnds L)[(bnds L).length - 1]? = some L.length := by
  have e : bnds L = Bs L L.length ++ [L.length] := by unfold bnds; exact Bs_yes L _ (bP_end L hn)
  rw [e]
  simp
theorem bnds_zero (L : List Int) (hn : 0 < L.length) : (bnds L)[0]? = some 0 := at_get L 0 (by omega) (bP_zero L hn)
theorem cuts_get (L : List Int) (k : Nat) (h : k < (cutsL L).length) : ∃ x y, (cutsL L)[k] = (x, y) ∧ (bnds L)[k]? = some x ∧ (bnds L)[k + 1]? = some y ∧ x < y := by
  have hl : (cutsL L).length = (bnds L).length - 1 := pairs_len _
  have h2 : k + 1 < (bnds L).length := by omega
  refine ⟨(bnds L)[k], (bnds L)[k + 1], pairs_get (bnds L) k h2, List.getElem?_eq_getElem _, List.getElem?_eq_getElem _, ?_⟩
  exact Bs_lt L _ k (k + 1) (by omega) h2
theorem cuts_get' (L : List Int) (k : Nat) (p : Nat × Nat) (h : (cutsL L)[k]? = some p) : (bnds L)[k]? = some p.1 ∧ (bnds L)[k + 1]? = some p.2 ∧ p.1 < p.2 := by
  obtain ⟨h1, h2⟩ := List.getElem?_eq_some_iff.1 h
  obtain ⟨x, y, h3, h4, h5, h6⟩ := cuts_get L k h1
  have e : p = (x, y) := h2.symm.trans h3
  subst e
  exact ⟨h4, h5, h6⟩
end Go.Proofs.Ytcplhbafbjpnlaa
