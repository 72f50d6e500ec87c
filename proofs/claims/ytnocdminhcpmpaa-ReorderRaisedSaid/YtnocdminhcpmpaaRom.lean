/-
  Mathematics of raised levels, of levels that are all alike, and of the places of neighbours of one level. No program, no condition.
-/
import Derived.Test.YtnocdminhcpmpaaRol
set_option linter.unusedVariables false
set_option linter.unusedSimpArgs false
namespace Go.Proofs.Ytnocdminhcpmpaa

theorem rds_congr {lv lv' : Nat → Nat} : ∀ (n j : Nat) (out : List Nat), (∀ x ∈ out, lv x = lv' x) → rdsG lv j n out = rdsG lv' j n out
  | 0, j, out, _ => rfl
  | n + 1, j, out, h => by
    rw [rdsG, rdsG, rds_congr n (j + 1) out h]
    unfold rndG
    exact rev_congr _ [] fun x hx => by rw [h x ((rds_perm lv' _ _ _).mem_iff.1 hx)]
/-- levels as a list of integers -/
theorem lvX_inN (L : List Nat) (i : Nat) (h : ∀ x ∈ L, x ≤ 126) (hi : i < L.length) : lvX (inN L) i = L.getD i 0 := by
  have hg : L[i]? = some (L.getD i 0) := by rw [List.getD_eq_getElem?_getD, List.getElem?_eq_getElem hi]; rfl
  have hm := h _ (List.mem_of_getElem? hg)
  unfold lvX
  rw [List.getD_eq_getElem?_getD, inN_get L i _ hg]
  unfold clP
  simp only [Option.getD_some]
  rw [if_neg (by omega), if_neg (by omega)]
  omega
theorem ord_up (L M : List Nat) (h : ∀ x ∈ L, x ≤ 125) (hM : M = L.map (· + 1)) : ordX (lvX (inN M)) L.length = (ordX (lvX (inN L)) L.length).reverse := by
  rw [ord_vis _ _ fun i => lv_le _ i, ord_vis _ _ fun i => lv_le _ i]
  have hl : ∀ x ∈ List.range L.length, lvX (inN M) x = lvX (inN L) x + 1 := fun x hx => by
    have hx2 := List.mem_range.1 hx
    have hML : M.length = L.length := by rw [hM]; simp
    rw [lvX_inN M x (fun y hy => by
      rw [hM] at hy
      obtain ⟨z, hz, rfl⟩ := List.mem_map.1 hy
      have := h z hz; omega) (by omega), lvX_inN L x (fun y hy => by have := h y hy; omega) hx2, hM]
    rw [List.getD_eq_getElem?_getD, List.getD_eq_getElem?_getD, List.getElem?_map, List.getElem?_eq_getElem hx2]
    rfl
  unfold visG
  rw [rds_congr 126 1 (List.range L.length) hl]
  refine vis_up (lvX (inN L)) (List.range L.length) fun x hx => ?_
  have hx2 := List.mem_range.1 hx
  have hg : L[x]? = some (L.getD x 0) := by rw [List.getD_eq_getElem?_getD, List.getElem?_eq_getElem hx2]; rfl
  rw [lvX_inN L x (fun y hy => by have := h y hy; omega) hx2]
  exact h _ (List.mem_of_getElem? hg)
theorem near_range (n i : Nat) (h : i + 1 < n) : Near (List.range n) i (i + 1) := by
  refine ⟨List.range i, List.range' (i + 2) (n - (i + 2)), ?_⟩
  rw [List.range_eq_range', List.range_eq_range']
  have e1 : List.range' 0 n = List.range' 0 i ++ List.range' i (n - i) := by
    have := List.range'_append_1 (s := 0) (m := i) (n := n - i)
    rw [Nat.zero_add, show i + (n - i) = n by omega] at this
    exact this.symm
  rw [e1, show n - i = (n - (i + 2)) + 1 + 1 by omega, List.range'_succ, List.range'_succ]
theorem put_at (lv : Nat → Nat) (n k x : Nat) (h : (ordX lv n)[k]? = some x) : (putK n (ordX lv n) n)[x]? = some (k : Int) := by
  have hk : k < n := by have := (List.getElem?_eq_some_iff.1 h).1; rwa [ord_len] at this
  have := put_get n (ordX lv n) (fun x hx => ord_lt lv n hx) (ord_nodup lv n) n k hk (by rw [ord_len]; exact Nat.le_refl _)
  rwa [List.getD_eq_getElem?_getD, h] at this
theorem put_near (lv : Nat → Nat) (n i : Nat) (hlv : ∀ i, lv i ≤ 126) (h : i + 1 < n) (he : lv i = lv (i + 1)) :
    ∃ q : Nat, q + 1 < n ∧ if lv i % 2 = 0 then (putK n (ordX lv n) n)[i]? = some (q : Int) ∧ (putK n (ordX lv n) n)[i + 1]? = some ((q + 1 : Nat) : Int) else (putK n (ordX lv n) n)[i]? = some ((q + 1 : Nat) : Int) ∧ (putK n (ordX lv n) n)[i + 1]? = some (q : Int) := by
  have key : ∀ a b, Near (ordX lv n) a b → ∃ q : Nat, q + 1 < n ∧ (putK n (ordX lv n) n)[a]? = some (q : Int) ∧ (putK n (ordX lv n) n)[b]? = some ((q + 1 : Nat) : Int) := fun a b hn => by
    obtain ⟨u, w, e⟩ := hn
    have hl := ord_len lv n
    have h1 : (ordX lv n)[u.length]? = some a := by rw [e]; simp
    have h2 : (ordX lv n)[u.length + 1]? = some b := by rw [e]; simp
    refine ⟨u.length, ?_, put_at lv n _ _ h1, put_at lv n _ _ h2⟩
    rw [e] at hl
    simp at hl
    omega
  have hv := vis_near lv i (i + 1) (lv i) rfl he.symm (hlv i) (List.range n) (near_range n i h)
  rw [← ord_vis lv n hlv] at hv
  by_cases h2 : lv i % 2 = 0
  · rw [if_pos h2] at hv
    obtain ⟨q, h3, h4, h5⟩ := key _ _ hv
    exact ⟨q, h3, by rw [if_pos h2]; exact ⟨h4, h5⟩⟩
  · rw [if_neg h2] at hv
    obtain ⟨q, h3, h4, h5⟩ := key _ _ hv
    exact ⟨q, h3, by rw [if_neg h2]; exact ⟨h5, h4⟩⟩
/-- all levels alike -/
theorem lv_rep (m k i : Nat) (hk : k ≤ 126) (hi : i < m) : lvX (inN (List.replicate m k)) i = k := by
  rw [lvX_inN _ i (fun x hx => by rw [List.mem_replicate] at hx; omega) (by simpa using hi)]
  rw [List.getD_eq_getElem?_getD, List.getElem?_replicate, if_pos hi]; rfl
theorem ord_rep (m k : Nat) (hk : k ≤ 126) : ordX (lvX (inN (List.replicate m k))) m = if k % 2 = 0 then List.range m else (List.range m).reverse := by
  rw [ord_vis _ _ fun i => lv_le _ i]
  exact vis_flat _ k _ hk fun x hx => lv_rep m k x hk (List.mem_range.1 hx)
theorem trn_rep (m k : Nat) (hk : k ≤ 126) : trnX (lvX (inN (List.replicate m k))) m = if k % 2 = 0 then 0 else min 1 m := by
  rw [trn_all _ _ fun i => lv_le _ i]
  have hl : ∀ i, i < m → lvX (inN (List.replicate m k)) i = k := fun i hi => lv_rep m k i hk hi
  generalize lvX (inN (List.replicate m k)) = lv at *
  by_cases h2 : k % 2 = 0
  · rw [if_pos h2]
    have hlow : ∀ q, q ≤ m → lowK lv q = 127 := by
      intro q
      induction q with
      | zero => intro _; rfl
      | succ q ih => intro hq; rw [lowK, hl q (by omega), if_neg (by omega)]; exact ih (by omega)
    rw [hlow m (Nat.le_refl _)]
    have : ∀ q, q ≤ m → tS lv 127 q = 0 := by
      intro q
      induction q with
      | zero => intro _; rfl
      | succ q ih =>
        intro hq
        have hb : befK lv 127 q = 126 := by
          cases q with
          | zero => rfl
          | succ p => rw [befK, hl p (by omega)]; omega
        rw [tS, ih (by omega), hl q (by omega), hb]
        omega
    exact this m (Nat.le_refl _)
  · rw [if_neg h2]
    rcases Nat.eq_zero_or_pos m with hm | hm
    · subst hm; rfl
    · have hlow : ∀ q, 0 < q → q ≤ m → lowK lv q = k := by
        intro q
        induction q with
        | zero => intro h; omega
        | succ q ih =>
          intro _ hq
          rw [lowK, hl q (by omega), if_pos (by omega)]
          rcases Nat.eq_zero_or_pos q with h0 | h0
          · subst h0; show min 127 k = k; omega
          · rw [ih h0 (by omega)]; omega
      rw [hlow m hm (Nat.le_refl _)]
      have : ∀ q, 0 < q → q ≤ m → tS lv k q = 1 := by
        intro q
        induction q with
        | zero => intro h; omega
        | succ q ih =>
          intro _ hq
          rcases Nat.eq_zero_or_pos q with h0 | h0
          · subst h0
            rw [tS, hl 0 (by omega)]
            show 0 + (max k (k - 1) - (k - 1)) = 1
            omega
          · obtain ⟨p, rfl⟩ : ∃ p, q = p + 1 := ⟨q - 1, by omega⟩
            have hb : befK lv k (p + 1) = k := by rw [befK, hl p (by omega)]; omega
            rw [tS, ih h0 (by omega), hb, hl (p + 1) (by omega)]
            omega
      rw [this m hm (Nat.le_refl _)]
      omega
end Go.Proofs.Ytnocdminhcpmpaa
