/-
  Mathematics of level runs: places parted where the level changes; that isolates link each run to one later run at most, from its last place to that one's first. No program, no condition.
-/
import Derived.Test.YtjdkpnmejkbkiaaSqb
set_option linter.unusedVariables false
set_option linter.unusedSimpArgs false
namespace Go.Proofs.Ytjdkpnmejkbkiaa

/-- the places that are not removed -/
def keptL (cs : List Int) (n : Nat) : List Nat := (List.range n).filter fun i => !remC (cs.getD i 0)
theorem kept_succ (cs : List Int) (n : Nat) : keptL cs (n + 1) = if remC (cs.getD n 0) = true then keptL cs n else keptL cs n ++ [n] := by
  unfold keptL
  rw [List.range_succ, List.filter_append, List.filter_cons, List.filter_nil]
  generalize remC (cs.getD n 0) = q
  cases q <;> simp
theorem kept_mem (cs : List Int) (n x : Nat) : x ∈ keptL cs n ↔ x < n ∧ remC (cs.getD x 0) = false := by
  unfold keptL
  rw [List.mem_filter, List.mem_range]
  simp
theorem kept_sorted (cs : List Int) (n : Nat) : (keptL cs n).Pairwise (· < ·) := List.Pairwise.filter _ List.pairwise_lt_range
/-- one place more -/
def addR (f : Nat → Int) (out : List (List Nat)) (x : Nat) : List (List Nat) :=
  if out ≠ [] ∧ f ((out.getLastD []).getLastD 0) = f x then out.dropLast ++ [out.getLastD [] ++ [x]] else out ++ [[x]]
def runsF (f : Nat → Int) (l : List Nat) : List (List Nat) := l.foldl (addR f) []
theorem runs_snoc (f : Nat → Int) (l : List Nat) (x : Nat) : runsF f (l ++ [x]) = addR f (runsF f l) x := by unfold runsF; rw [List.foldl_append]; rfl
structure InvR (f : Nat → Int) (l : List Nat) (out : List (List Nat)) : Prop where
  flat : out.flatten = l
  ne : ∀ r ∈ out, r ≠ []
  same : ∀ r ∈ out, ∀ x ∈ r, f x = f (r.headD 0)
  adj : ∀ u r r' v, out = u ++ r :: r' :: v → f (r.headD 0) ≠ f (r'.headD 0)
theorem last_mem {r : List Nat} (h : r ≠ []) : r.getLastD 0 ∈ r := by
  rw [List.getLastD_eq_getLast?, List.getLast?_eq_some_getLast h]
  exact List.getLast_mem h
theorem head_mem {r : List Nat} (h : r ≠ []) : r.headD 0 ∈ r := by cases r with | nil => exact absurd rfl h | cons a r => simp
theorem inv_runs (f : Nat → Int) (l : List Nat) : InvR f l (runsF f l) := by
  have h : ∀ n, n ≤ l.length → InvR f (l.take n) (runsF f (l.take n)) := by
    intro n
    induction n with
    | zero => intro _; exact ⟨rfl, (fun r hr => by cases hr), (fun r hr => by cases hr), fun u r r' v h => by simp [runsF] at h⟩
    | succ n ih =>
      intro hn
      obtain ⟨i1, i2, i3, i4⟩ := ih (by omega)
      obtain ⟨x, hx⟩ : ∃ x, l[n]? = some x := ⟨_, List.getElem?_eq_getElem (by omega)⟩
      rw [take_snoc l n x hx, runs_snoc]
      generalize runsF f (l.take n) = out at *
      unfold addR
      split
      · rename_i hc
        obtain ⟨hne, hf⟩ := hc
        obtain ⟨w, r, rfl⟩ : ∃ w r, out = w ++ [r] := ⟨_, _, (List.dropLast_concat_getLast hne).symm⟩
        have e1 : (w ++ [r]).getLastD [] = r := by simp
        have e2 : (w ++ [r]).dropLast = w := by simp
        rw [e1] at hf ⊢
        rw [e2]
        have hr := i2 r (by simp)
        have hhd : (r ++ [x]).headD 0 = r.headD 0 := by cases r with | nil => exact absurd rfl hr | cons a r => rfl
        refine ⟨?_, fun q hq => ?_, fun q hq y hy => ?_, fun u q q' v h => ?_⟩
        · rw [← i1]; simp
        · rcases List.mem_append.1 hq with hq | hq
          · exact i2 q (by simp [hq])
          · simp at hq; subst hq; simp
        · rcases List.mem_append.1 hq with hq | hq
          · exact i3 q (by simp [hq]) y hy
          · simp at hq; subst hq
            rw [hhd]
            rcases List.mem_append.1 hy with hy | hy
            · exact i3 r (by simp) y hy
            · simp at hy; subst hy
              rw [← hf]
              exact i3 r (by simp) _ (last_mem hr)
        · -- the last one has turned, its head has not
          by_cases hv : v = []
          · subst hv
            have h2 : w ++ [r ++ [x]] = (u ++ [q]) ++ [q'] := by rw [h]; simp
            obtain ⟨g1, g2⟩ := List.append_inj' h2 rfl
            injection g2 with g2
            subst g1; subst g2
            rw [hhd]
            exact i4 u q r [] (by simp)
          · obtain ⟨v', y, rfl⟩ : ∃ v' y, v = v' ++ [y] := ⟨_, _, (List.dropLast_concat_getLast hv).symm⟩
            have h2 : w ++ [r ++ [x]] = (u ++ q :: q' :: v') ++ [y] := by rw [h]; simp
            obtain ⟨g1, g2⟩ := List.append_inj' h2 rfl
            exact i4 u q q' (v' ++ [r]) (by rw [g1]; simp)
      · rename_i hc
        refine ⟨?_, fun q hq => ?_, fun q hq y hy => ?_, fun u q q' v h => ?_⟩
        · rw [List.flatten_append, i1]; simp
        · rcases List.mem_append.1 hq with hq | hq
          · exact i2 q hq
          · simp at hq; subst hq; simp
        · rcases List.mem_append.1 hq with hq | hq
          · exact i3 q hq y hy
          · simp at hq; subst hq
            simp at hy; subst hy; rfl
        · by_cases hv : v = []
          · subst hv
            have h2 : out ++ [[x]] = (u ++ [q]) ++ [q'] := by rw [h]; simp
            obtain ⟨g1, g2⟩ := List.append_inj' h2 rfl
            injection g2 with g2
            subst g1; subst g2
            intro e
            refine hc ⟨by simp, ?_⟩
            have hq := i2 q (by simp)
            have e1 : (u ++ [q]).getLastD [] = q := by simp
            rw [e1, i3 q (by simp) _ (last_mem hq), e]
            rfl
          · obtain ⟨v', y, rfl⟩ : ∃ v' y, v = v' ++ [y] := ⟨_, _, (List.dropLast_concat_getLast hv).symm⟩
            have h2 : out ++ [[x]] = (u ++ q :: q' :: v') ++ [y] := by rw [h]; simp
            obtain ⟨g1, g2⟩ := List.append_inj' h2 rfl
            exact i4 u q q' v' g1
  have := h l.length (Nat.le_refl _)
  rwa [List.take_length] at this
/-- runs by number: places rise from run to run and within a run; each but the first begins where the level changes -/
structure RunsX (f : Nat → Int) (l : List Nat) (rs : List (List Nat)) : Prop where
  ne : ∀ k, k < rs.length → rs.getD k [] ≠ []
  mem : ∀ x, x ∈ l ↔ ∃ k, k < rs.length ∧ x ∈ rs.getD k []
  up : ∀ k k' x y, x ∈ rs.getD k [] → y ∈ rs.getD k' [] → k < k' → x < y
  into : ∀ k x, x ∈ rs.getD k [] → (rs.getD k []).headD 0 ≤ x ∧ x ≤ (rs.getD k []).getLastD 0
  same : ∀ k x y, x ∈ rs.getD k [] → y ∈ rs.getD k [] → f x = f y
  adj : ∀ k x y, k + 1 < rs.length → x ∈ rs.getD k [] → y ∈ rs.getD (k + 1) [] → f x ≠ f y
  sort : ∀ k, (rs.getD k []).Pairwise (· < ·)
theorem getD_out {rs : List (List Nat)} {k x : Nat} (h : x ∈ rs.getD k []) : k < rs.length := by
  rcases Nat.lt_or_ge k rs.length with h1 | h1
  · exact h1
  · rw [List.getD_eq_getElem?_getD, List.getElem?_eq_none h1] at h
    cases h
theorem getD_at {rs : List (List Nat)} {k : Nat} (h : k < rs.length) : rs.getD k [] = rs[k] := by rw [List.getD_eq_getElem?_getD, List.getElem?_eq_getElem h]; rfl
theorem sorted_into {r : List Nat} (h : r.Pairwise (· < ·)) {x : Nat} (hx : x ∈ r) : r.headD 0 ≤ x ∧ x ≤ r.getLastD 0 := by
  have hne : r ≠ [] := fun e => by subst e; cases hx
  refine ⟨?_, ?_⟩
  · cases r with
    | nil => cases hx
    | cons a r =>
      rw [List.mem_cons] at hx
      rcases hx with rfl | hx
      · exact Nat.le_refl _
      · have := (List.pairwise_cons.1 h).1 x hx
        show a ≤ x
        omega
  · obtain ⟨u, y, rfl⟩ : ∃ u y, r = u ++ [y] := ⟨_, _, (List.dropLast_concat_getLast hne).symm⟩
    have e : (u ++ [y]).getLastD 0 = y := by simp
    rw [e]
    rcases List.mem_append.1 hx with hx | hx
    · have := (List.pairwise_append.1 h).2.2 x hx y (by simp)
      omega
    · simp at hx; omega
theorem runs_x (f : Nat → Int) (l : List Nat) (hl : l.Pairwise (· < ·)) : RunsX f l (runsF f l) := by
  obtain ⟨i1, i2, i3, i4⟩ := inv_runs f l
  generalize runsF f l = rs at *
  have hmem : ∀ k, k < rs.length → rs.getD k [] ∈ rs := fun k hk => by rw [getD_at hk]; exact List.getElem_mem hk
  have hup : ∀ k k' x y, x ∈ rs.getD k [] → y ∈ rs.getD k' [] → k < k' → x < y := fun k k' x y hx hy hk => by
    have h2 := getD_out hy
    have h1 : k < rs.length := by omega
    rw [← i1] at hl
    have hs : rs = rs.take k' ++ rs.drop k' := (List.take_append_drop k' rs).symm
    rw [hs, List.flatten_append] at hl
    refine (List.pairwise_append.1 hl).2.2 x (List.mem_flatten.2 ⟨rs.getD k [], ?_, hx⟩) y (List.mem_flatten.2 ⟨rs.getD k' [], ?_, hy⟩)
    · rw [getD_at h1]
      exact List.mem_take_iff_getElem.2 ⟨k, by omega, rfl⟩
    · rw [getD_at h2]
      exact List.mem_drop_iff_getElem.2 ⟨0, by omega, rfl⟩
  have hsort : ∀ k, (rs.getD k []).Pairwise (· < ·) := fun k => by
    rcases Nat.lt_or_ge k rs.length with h1 | h1
    · rw [← i1] at hl
      exact (List.pairwise_flatten.1 hl).1 _ (hmem k h1)
    · rw [List.getD_eq_getElem?_getD, List.getElem?_eq_none h1]
      simp
  refine ⟨fun k hk => i2 _ (hmem k hk), fun x => ?_, hup, fun k x hx => sorted_into (hsort k) hx, fun k x y hx hy => ?_, fun k x y hk hx hy => ?_, hsort⟩
  · rw [← i1, List.mem_flatten]
    refine ⟨fun ⟨r, h1, h2⟩ => ?_, fun ⟨k, h1, h2⟩ => ⟨_, hmem k h1, h2⟩⟩
    obtain ⟨k, hk, rfl⟩ := List.getElem_of_mem h1
    exact ⟨k, hk, by rw [getD_at hk]; exact h2⟩
  · have h1 := getD_out hx
    rw [i3 _ (hmem k h1) x hx, i3 _ (hmem k h1) y hy]
  · have h1 : k < rs.length := by omega
    rw [i3 _ (hmem k h1) x hx, i3 _ (hmem (k + 1) hk) y hy]
    refine i4 (rs.take k) _ _ (rs.drop (k + 2)) ?_
    rw [getD_at h1, getD_at hk]
    conv => lhs; rw [← List.take_append_drop k rs]
    rw [List.drop_eq_getElem_cons h1, List.drop_eq_getElem_cons hk]

/-- the run that has a place -/
def idxR (rs : List (List Nat)) (x : Nat) : Nat := rs.findIdx fun r => r.contains x
section
variable {f : Nat → Int} {l : List Nat} {rs : List (List Nat)}
theorem idx_is (H : RunsX f l rs) {k x : Nat} (hx : x ∈ rs.getD k []) : idxR rs x = k := by
  have hk := getD_out hx
  have h1 : idxR rs x < rs.length := by
    unfold idxR
    rw [List.findIdx_lt_length]
    exact ⟨rs.getD k [], by rw [getD_at hk]; exact List.getElem_mem hk, by simpa using hx⟩
  have h2 : x ∈ rs.getD (idxR rs x) [] := by
    rw [getD_at h1]
    have h9 := List.findIdx_getElem (w := h1)
    exact List.contains_iff_mem.1 h9
  rcases Nat.lt_trichotomy (idxR rs x) k with h | h | h
  · have := H.up _ _ x x h2 hx h; omega
  · exact h
  · have := H.up _ _ x x hx h2 h; omega
end
end Go.Proofs.Ytjdkpnmejkbkiaa
