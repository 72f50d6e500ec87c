/-
  Mathematics of chains: numbers that are linked to a later one each at most; gathered one by one, or followed from each that nothing is linked to. No program, no condition.
-/
import Derived.Test.YtjdkpnmejkbkiaaSqa
set_option linter.unusedVariables false
set_option linter.unusedSimpArgs false
namespace Go.Proofs.Ytjdkpnmejkbkiaa

/-- links among the numbers below n: nx to the next one, pv back -/
structure Links (n : Nat) (nx pv : Nat → Option Nat) : Prop where
  link : ∀ k k', nx k = some k' ↔ pv k' = some k
  up : ∀ k k', pv k' = some k → k < k' ∧ k' < n
/-- gathered one by one: a number that nothing is linked to begins a list, another one goes behind the one that is linked to it -/
def stepG (pv : Nat → Option Nat) (out : List (List Nat)) (m : Nat) : List (List Nat) :=
  match pv m with
  | none => out ++ [[m]]
  | some k => out.map fun c => if c.getLast? = some k then c ++ [m] else c
def grp (pv : Nat → Option Nat) : Nat → List (List Nat)
  | 0 => []
  | m + 1 => stepG pv (grp pv m) m
/-- followed from one, so many at most -/
def chainG (nx : Nat → Option Nat) : Nat → Nat → List Nat
  | 0, _ => []
  | f + 1, s => s :: (match nx s with | none => [] | some k => chainG nx f k)
def startsG (pv : Nat → Option Nat) (m : Nat) : List Nat := (List.range m).filter fun k => (pv k).isNone

section
variable {nx pv : Nat → Option Nat}
theorem chain_snoc : ∀ (L s k k' : Nat), (chainG nx L s).length = L → (chainG nx L s).getLast? = some k → nx k = some k' → chainG nx (L + 1) s = chainG nx L s ++ [k']
  | 0, s, k, k', h1, h2, h3 => by simp [chainG] at h2
  | 1, s, k, k', h1, h2, h3 => by
    have e : s = k := by
      cases hn : nx s with
      | none => simpa [chainG, hn] using h2
      | some q => simpa [chainG, hn] using h2
    subst e
    cases hq : nx k' <;> simp [chainG, h3, hq]
  | L + 2, s, k, k', h1, h2, h3 => by
    cases hn : nx s with
    | none => rw [chainG, hn] at h1; simp at h1
    | some q =>
      rw [chainG, hn] at h1 h2
      simp only [List.length_cons] at h1
      have hne : chainG nx (L + 1) q ≠ [] := fun e => by rw [e] at h1; simp at h1
      have h2' : (chainG nx (L + 1) q).getLast? = some k := by
        rw [List.getLast?_cons] at h2
        obtain ⟨z, hz⟩ : ∃ z, (chainG nx (L + 1) q).getLast? = some z := by
          cases hg : (chainG nx (L + 1) q).getLast? with
          | none => exact absurd (List.getLast?_eq_none_iff.1 hg) hne
          | some z => exact ⟨z, rfl⟩
        rw [hz] at h2 ⊢
        simpa using h2
      have := chain_snoc (L + 1) q k k' (by omega) h2' h3
      rw [chainG, hn, chainG, hn]
      simp only [List.cons_append]
      rw [← this]
theorem chain_stop : ∀ (L F s : Nat), (chainG nx L s).length = L → 0 < L → (∀ k, (chainG nx L s).getLast? = some k → nx k = none) → L ≤ F → chainG nx F s = chainG nx L s
  | 0, F, s, h1, h0, h2, h3 => by omega
  | L + 1, 0, s, h1, h0, h2, h3 => by omega
  | L + 1, F + 1, s, h1, h0, h2, h3 => by
    cases hn : nx s with
    | none => rw [chainG, chainG, hn]
    | some q =>
      rw [chainG, hn] at h1 h2
      simp only [List.length_cons] at h1
      cases L with
      | zero =>
        have := h2 s (by simp [chainG])
        rw [hn] at this
        cases this
      | succ L =>
        have hne : chainG nx (L + 1) q ≠ [] := fun e => by rw [e] at h1; simp at h1
        have := chain_stop (L + 1) F q (by omega) (Nat.succ_pos _) (fun k hk => h2 k (by rw [List.getLast?_cons, hk]; rfl)) (by omega)
        rw [chainG, hn, chainG, hn]
        simp only
        rw [this]

structure InvG (nx pv : Nat → Option Nat) (m : Nat) (out : List (List Nat)) : Prop where
  heads : out.map (fun c => c.headD 0) = startsG pv m
  chain : ∀ c ∈ out, 0 < c.length ∧ c = chainG nx c.length (c.headD 0)
  last : ∀ c ∈ out, ∀ k k', c.getLast? = some k → nx k = some k' → m ≤ k'
  perm : out.flatten.Perm (List.range m)
/-- within a chain each but the last is linked to the one behind it -/
theorem chain_mem : ∀ (L s x : Nat), x ∈ chainG nx L s → (chainG nx L s).length = L → (chainG nx L s).getLast? = some x ∨ ∃ y, nx x = some y ∧ y ∈ chainG nx L s
  | 0, s, x, h, _ => by simp [chainG] at h
  | L + 1, s, x, h, hl => by
    cases hn : nx s with
    | none =>
      rw [chainG, hn] at h ⊢
      simp at h
      subst h
      left; rfl
    | some q =>
      rw [chainG, hn] at h hl ⊢
      simp only [List.length_cons] at hl
      rw [List.mem_cons] at h
      cases L with
      | zero =>
        simp [chainG] at h ⊢
        left; exact h.symm
      | succ L =>
        have hne : chainG nx (L + 1) q ≠ [] := fun e => by rw [e] at hl; simp at hl
        rcases h with rfl | h
        · right
          refine ⟨q, hn, ?_⟩
          simp [chainG]
        · rcases chain_mem (L + 1) q x h (by omega) with h1 | ⟨y, h1, h2⟩
          · left
            rw [List.getLast?_cons, h1]
            rfl
          · exact .inr ⟨y, h1, List.mem_cons_of_mem _ h2⟩
theorem inv_grp {n : Nat} (H : Links n nx pv) : ∀ m, m ≤ n → InvG nx pv m (grp pv m)
  | 0, _ => ⟨rfl, (fun c hc => by cases hc), (fun c hc => by cases hc), List.Perm.refl _⟩
  | m + 1, hm => by
    obtain ⟨i1, i2, i3, i4⟩ := inv_grp H m (by omega)
    show InvG nx pv (m + 1) (stepG pv (grp pv m) m)
    unfold stepG
    cases hp : pv m with
    | none =>
      refine ⟨?_, fun c hc => ?_, fun c hc k k' h1 h2 => ?_, ?_⟩
      · unfold startsG at i1 ⊢
        rw [List.map_append, i1, List.range_succ, List.filter_append]
        simp [hp]
      · rcases List.mem_append.1 hc with hc | hc
        · exact i2 c hc
        · simp at hc; subst hc
          refine ⟨by simp, ?_⟩
          cases hn : nx m <;> simp [chainG, hn]
      · rcases List.mem_append.1 hc with hc | hc
        · have h3 := i3 c hc k k' h1 h2
          rcases Nat.lt_or_ge m k' with h4 | h4
          · omega
          · obtain rfl : k' = m := by omega
            have := (H.link k k').1 h2
            rw [hp] at this; cases this
        · simp at hc; subst hc
          simp at h1
          subst h1
          have := (H.up _ _ ((H.link _ _).1 h2)).1
          omega
      · rw [List.flatten_append, List.range_succ]
        simpa using i4.append (List.Perm.refl [m])
    | some k =>
      have hk := H.up _ _ hp
      have hnx := (H.link _ _).2 hp
      -- the list that ends with k
      have hkm : k ∈ (grp pv m).flatten := i4.mem_iff.2 (List.mem_range.2 hk.1)
      obtain ⟨c, hc, hkc⟩ := List.mem_flatten.1 hkm
      have hlast : c.getLast? = some k := by
        obtain ⟨c1, c2⟩ := i2 c hc
        have hlen : (chainG nx c.length (c.headD 0)).length = c.length := by rw [← c2]
        have hkc2 := hkc
        rw [c2] at hkc2
        rcases chain_mem _ _ k hkc2 hlen with h | ⟨y, h1, h2⟩
        · rw [← c2] at h; exact h
        · rw [hnx] at h1
          injection h1 with h1
          subst h1
          rw [← c2] at h2
          have : m ∈ (grp pv m).flatten := List.mem_flatten.2 ⟨c, hc, h2⟩
          have := List.mem_range.1 (i4.mem_iff.1 this)
          omega
      obtain ⟨u, v, huv⟩ := List.append_of_mem hc
      have hnd : (grp pv m).flatten.Nodup := i4.nodup_iff.2 List.nodup_range
      have hoth : ∀ d, d ∈ u ∨ d ∈ v → d.getLast? ≠ some k := fun d hd e => by
        have hkd : k ∈ d := List.mem_of_getLast? e
        rw [huv, List.flatten_append, List.flatten_cons] at hnd
        rw [List.nodup_append] at hnd
        obtain ⟨_, n2, n3⟩ := hnd
        rw [List.nodup_append] at n2
        obtain ⟨_, _, n4⟩ := n2
        rcases hd with hd | hd
        · exact n3 k (List.mem_flatten.2 ⟨d, hd, hkd⟩) k (List.mem_append_left _ hkc) rfl
        · exact n4 k hkc k (List.mem_flatten.2 ⟨d, hd, hkd⟩) rfl
      have hmap : (grp pv m).map (fun c => if c.getLast? = some k then c ++ [m] else c) = u ++ (c ++ [m]) :: v := by
        rw [huv, List.map_append, List.map_cons, if_pos hlast]
        congr 1
        · exact (List.map_congr_left fun d hd => if_neg (hoth d (.inl hd))).trans (List.map_id u)
        · congr 1
          exact (List.map_congr_left fun d hd => if_neg (hoth d (.inr hd))).trans (List.map_id v)
      show InvG nx pv (m + 1) ((grp pv m).map fun c => if c.getLast? = some k then c ++ [m] else c)
      rw [hmap]
      rw [huv] at i1 i2 i3 i4
      obtain ⟨c1, c2⟩ := i2 c (by simp)
      have hhd : (c ++ [m]).headD 0 = c.headD 0 := by cases c with | nil => simp at c1 | cons a c => rfl
      refine ⟨?_, fun d hd => ?_, fun d hd x x' h1 h2 => ?_, ?_⟩
      · unfold startsG at i1 ⊢
        rw [List.range_succ, List.filter_append, ← i1]
        simp only [List.map_append, List.map_cons, hhd]
        simp [hp]
      · rcases List.mem_append.1 hd with hd | hd
        · exact i2 d (by simp [hd])
        · rw [List.mem_cons] at hd
          rcases hd with rfl | hd
          · refine ⟨by simp, ?_⟩
            rw [hhd, List.length_append]
            have hlen : (chainG nx c.length (c.headD 0)).length = c.length := by rw [← c2]
            have h9 := chain_snoc c.length (c.headD 0) k m hlen (by rw [← c2]; exact hlast) hnx
            show c ++ [m] = chainG nx (c.length + 1) (c.headD 0)
            rw [h9, ← c2]
          · exact i2 d (by simp [hd])
      · rcases List.mem_append.1 hd with hz | hz
        · have h3 := i3 d (by simp [hz]) x x' h1 h2
          rcases Nat.lt_or_ge m x' with h4 | h4
          · omega
          · obtain rfl : x' = m := by omega
            have := (H.link x x').1 h2
            rw [hp] at this
            injection this with this
            subst this
            exact absurd h1 (hoth d (.inl hz))
        · rw [List.mem_cons] at hz
          rcases hz with rfl | hz
          · simp at h1
            subst h1
            have := (H.up _ _ ((H.link _ _).1 h2)).1
            omega
          · have h3 := i3 d (by simp [hz]) x x' h1 h2
            rcases Nat.lt_or_ge m x' with h4 | h4
            · omega
            · obtain rfl : x' = m := by omega
              have := (H.link x x').1 h2
              rw [hp] at this
              injection this with this
              subst this
              exact absurd h1 (hoth d (.inr hz))
      · rw [List.range_succ]
        have h5 : (u ++ (c ++ [m]) :: v).flatten.Perm ((u ++ c :: v).flatten ++ [m]) := by
          simp only [List.flatten_append, List.flatten_cons, List.append_assoc]
          refine List.Perm.append_left _ (List.Perm.append_left _ ?_)
          exact List.perm_append_comm
        exact h5.trans (i4.append (List.Perm.refl _))
/-- gathered is followed -/
theorem grp_chain {n : Nat} (H : Links n nx pv) (F : Nat) (hF : n ≤ F) : grp pv n = (startsG pv n).map (chainG nx F) := by
  obtain ⟨i1, i2, i3, i4⟩ := inv_grp H n (Nat.le_refl _)
  rw [← i1, List.map_map]
  conv => lhs; rw [← List.map_id (grp pv n)]
  refine List.map_congr_left fun c hc => ?_
  obtain ⟨c1, c2⟩ := i2 c hc
  have hlen : (chainG nx c.length (c.headD 0)).length = c.length := by rw [← c2]
  have hle : c.length ≤ n := by
    have h1 : c.length ≤ (grp pv n).flatten.length := by
      obtain ⟨u, v, huv⟩ := List.append_of_mem hc
      rw [huv, List.flatten_append, List.flatten_cons, List.length_append, List.length_append]
      omega
    rw [i4.length_eq, List.length_range] at h1
    exact h1
  show c = chainG nx F (c.headD 0)
  rw [chain_stop c.length F (c.headD 0) hlen c1 (fun k hk => ?_) (by omega), ← c2]
  rw [← c2] at hk
  cases hn : nx k with
  | none => rfl
  | some k' =>
    have h1 := i3 c hc k k' hk hn
    have h2 := (H.up _ _ ((H.link _ _).1 hn)).2
    omega
end
end Go.Proofs.Ytjdkpnmejkbkiaa
