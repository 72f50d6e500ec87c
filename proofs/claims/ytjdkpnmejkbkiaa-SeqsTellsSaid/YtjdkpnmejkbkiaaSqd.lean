/-
  Mathematics of isolating run sequences: level runs linked by isolates, gathered or followed; each place that is not removed in just one, in which places rise and all have one level (P12.3); without isolates each is a run (P12.4). No program, no condition but a base of at most 125.
-/
import Derived.Test.YtjdkpnmejkbkiaaSqc
set_option linter.unusedVariables false
set_option linter.unusedSimpArgs false
namespace Go.Proofs.Ytjdkpnmejkbkiaa

def lvF (b : Nat) (cs : List Int) (j : Nat) : Int := ((atN b cs j).2.1 : Int)
def rsL (b : Nat) (cs : List Int) : List (List Nat) := runsF (lvF b cs) (keptL cs cs.length)
def hdR (rs : List (List Nat)) (k : Nat) : Nat := (rs.getD k []).headD 0
def laR (rs : List (List Nat)) (k : Nat) : Nat := (rs.getD k []).getLastD 0
def nxR (cs : List Int) (rs : List (List Nat)) (k : Nat) : Option Nat :=
  if k < rs.length ∧ opnC (cs.getD (laR rs k) 0) = true ∧ 0 ≤ (matL cs).getD (laR rs k) 0 then some (idxR rs ((matL cs).getD (laR rs k) 0).toNat) else none
def pvR (cs : List Int) (rs : List (List Nat)) (k : Nat) : Option Nat :=
  if k < rs.length ∧ cs.getD (hdR rs k) 0 = 23 ∧ 0 ≤ (matL cs).getD (hdR rs k) 0 then some (idxR rs ((matL cs).getD (hdR rs k) 0).toNat) else none

section
variable {b : Nat} {cs : List Int}
theorem rs_x (b : Nat) (cs : List Int) : RunsX (lvF b cs) (keptL cs cs.length) (rsL b cs) := runs_x _ _ (kept_sorted cs cs.length)
theorem opn_kept {c : Int} (h : opnC c = true) : remC c = false := by
  unfold opnC at h
  simp only [Bool.or_eq_true, beq_iff_eq] at h
  rcases h with (rfl | rfl) | rfl <;> rfl
/-- a match, told from the initiator -/
theorem pair_of {i p : Nat} (hi : i < cs.length) (hm : (matL cs).getD i 0 = (p : Int)) (ho : opnC (cs.getD i 0) = true) : i < p ∧ p < cs.length ∧ cs.getD p 0 = 23 ∧ (matL cs).getD p 0 = (i : Int) := by
  rcases (inv_mat cs cs.length).vals i hi with hv | ⟨q, k1, k2, k3, k4, k5, k6⟩
  · have hv' : (matL cs).getD i 0 = -1 := hv
    omega
  have k1' : (matL cs).getD i 0 = q := k1
  obtain rfl : q = p := by omega
  rcases Nat.lt_or_ge i q with h | h
  · exact ⟨h, k2, (k4 h).2.1, k3⟩
  · have := (k5 (by omega)).2
    rw [this] at ho; cases ho
/-- a match, told from the PDI -/
theorem pair_to {i p : Nat} (hp : p < cs.length) (hm : (matL cs).getD p 0 = (i : Int)) (h23 : cs.getD p 0 = 23) : i < p ∧ opnC (cs.getD i 0) = true ∧ (matL cs).getD i 0 = (p : Int) := by
  rcases (inv_mat cs cs.length).vals p hp with hv | ⟨q, k1, k2, k3, k4, k5, k6⟩
  · have hv' : (matL cs).getD p 0 = -1 := hv
    omega
  have k1' : (matL cs).getD p 0 = q := k1
  obtain rfl : q = i := by omega
  rcases Nat.lt_or_ge q p with h | h
  · exact ⟨h, (k5 h).1, k3⟩
  · have := (k4 (by omega)).1
    rw [h23] at this; cases this
theorem head_in {f : Nat → Int} {l : List Nat} {rs : List (List Nat)} (H : RunsX f l rs) {k : Nat} (hk : k < rs.length) : hdR rs k ∈ rs.getD k [] := head_mem (H.ne k hk)
theorem last_in {f : Nat → Int} {l : List Nat} {rs : List (List Nat)} (H : RunsX f l rs) {k : Nat} (hk : k < rs.length) : laR rs k ∈ rs.getD k [] := last_mem (H.ne k hk)
/-- what a match says of levels -/
theorem pair_lv {i p : Nat} (hi : i < cs.length) (hm : (matL cs).getD i 0 = (p : Int)) (hip : i < p) : lvF b cs p = lvF b cs i ∧
    ((∀ j, i < j → j < p → remC (cs.getD j 0) = false → lvF b cs j = lvF b cs i) ∨ (∀ j, i < j → j < p → remC (cs.getD j 0) = false → lvF b cs i < lvF b cs j)) := by
  obtain ⟨h1, h2⟩ := pair_levels (b := b) hi hm hip
  unfold lvF
  refine ⟨by rw [h1], ?_⟩
  rcases h2 with h2 | h2
  · exact .inl fun j a c d => by rw [h2 j a c d]
  · exact .inr fun j a c d => by have := h2 j a c d; omega
/-- an initiator at its run's end: its PDI begins a run -/
theorem link_fwd {k k' i p : Nat} (hi : i < cs.length) (ho : opnC (cs.getD i 0) = true) (hm : (matL cs).getD i 0 = (p : Int)) (hk : i ∈ (rsL b cs).getD k []) (hla : i = laR (rsL b cs) k) (hk' : p ∈ (rsL b cs).getD k' []) : p = hdR (rsL b cs) k' ∧ k < k' := by
  have H := rs_x b cs
  obtain ⟨hip, hp, h23, _⟩ := pair_of hi hm ho
  obtain ⟨g1, g2⟩ := pair_lv (b := b) hi hm hip
  generalize rsL b cs = rs at *
  have hlt : k < k' := by
    rcases Nat.lt_trichotomy k k' with h | h | h
    · exact h
    · subst h
      have := (H.into k p hk').2
      unfold laR at hla
      omega
    · have := H.up k' k p i hk' hk h
      omega
  refine ⟨?_, hlt⟩
  have h1 : k + 1 < rs.length := by have := getD_out hk'; omega
  have hy := head_in H h1
  have hyi : i < hdR rs (k + 1) := H.up k (k + 1) i _ hk hy (Nat.lt_succ_self k)
  have hne := H.adj k i (hdR rs (k + 1)) h1 hk hy
  have hyp : hdR rs (k + 1) ≤ p := by
    rcases Nat.lt_or_ge (k + 1) k' with h | h
    · exact Nat.le_of_lt (H.up (k + 1) k' _ p hy hk' h)
    · obtain rfl : k' = k + 1 := by omega
      exact (H.into (k + 1) p hk').1
  have hyk := (kept_mem cs cs.length _).1 ((H.mem _).2 ⟨k + 1, h1, hy⟩)
  have hynp : hdR rs (k + 1) ≠ p := fun e => hne (by rw [e, g1])
  have habove : ∀ j, i < j → j < p → remC (cs.getD j 0) = false → lvF b cs i < lvF b cs j := by
    rcases g2 with g2 | g2
    · exact absurd (g2 _ hyi (by omega) hyk.2).symm hne
    · exact g2
  -- p begins its run
  have hz := head_in H (getD_out hk')
  have hzk := (kept_mem cs cs.length _).1 ((H.mem _).2 ⟨k', getD_out hk', hz⟩)
  have hzp := (H.into k' p hk').1
  have hzi : i < hdR rs k' := H.up k k' i _ hk hz hlt
  rcases Nat.lt_or_ge (hdR rs k') p with h | h
  · have h2 := habove _ hzi h hzk.2
    have h3 := H.same k' _ _ hz hk'
    omega
  · have : hdR rs k' ≤ p := hzp
    omega
/-- a PDI at its run's beginning: its initiator ends a run -/
theorem link_bwd {k k' i p : Nat} (hi : i < cs.length) (ho : opnC (cs.getD i 0) = true) (hm : (matL cs).getD i 0 = (p : Int)) (hk : i ∈ (rsL b cs).getD k []) (hk' : p ∈ (rsL b cs).getD k' []) (hhd : p = hdR (rsL b cs) k') : i = laR (rsL b cs) k ∧ k < k' := by
  have H := rs_x b cs
  obtain ⟨hip, hp, h23, _⟩ := pair_of hi hm ho
  obtain ⟨g1, g2⟩ := pair_lv (b := b) hi hm hip
  generalize rsL b cs = rs at *
  have hlt : k < k' := by
    rcases Nat.lt_trichotomy k k' with h | h | h
    · exact h
    · subst h
      have := (H.into k i hk).1
      unfold hdR at hhd
      omega
    · have := H.up k' k p i hk' hk h
      omega
  refine ⟨?_, hlt⟩
  obtain ⟨q, rfl⟩ : ∃ q, k' = q + 1 := ⟨k' - 1, by omega⟩
  have hq1 : q + 1 < rs.length := getD_out hk'
  have hq : q < rs.length := by omega
  have hw := last_in H hq
  have hwp : laR rs q < p := H.up q (q + 1) _ p hw hk' (Nat.lt_succ_self q)
  have hne := H.adj q _ p hq1 hw hk'
  have hiw : i ≤ laR rs q := by
    rcases Nat.lt_or_ge k q with h | h
    · exact Nat.le_of_lt (H.up k q i _ hk hw h)
    · obtain rfl : k = q := by omega
      exact (H.into k i hk).2
  have hwk := (kept_mem cs cs.length _).1 ((H.mem _).2 ⟨q, hq, hw⟩)
  have hwni : laR rs q ≠ i := fun e => hne (by rw [e, g1])
  have habove : ∀ j, i < j → j < p → remC (cs.getD j 0) = false → lvF b cs i < lvF b cs j := by
    rcases g2 with g2 | g2
    · exact absurd ((g2 _ (by omega) hwp hwk.2).trans g1.symm) hne
    · exact g2
  have hx := last_in H (getD_out hk)
  have hxk := (kept_mem cs cs.length _).1 ((H.mem _).2 ⟨k, getD_out hk, hx⟩)
  have hxp : laR rs k < p := H.up k (q + 1) _ p hx hk' hlt
  have hix := (H.into k i hk).2
  rcases Nat.lt_or_ge i (laR rs k) with h | h
  · have h2 := habove _ h hxp hxk.2
    have h3 := H.same k _ _ hx hk
    omega
  · have : i ≤ laR rs k := hix
    omega
theorem run_of (b : Nat) (cs : List Int) {x : Nat} (hx : x < cs.length) (hr : remC (cs.getD x 0) = false) : ∃ k, x ∈ (rsL b cs).getD k [] := by
  obtain ⟨k, _, h⟩ := ((rs_x b cs).mem x).1 ((kept_mem cs cs.length x).2 ⟨hx, hr⟩)
  exact ⟨k, h⟩
theorem in_kept {k x : Nat} (h : x ∈ (rsL b cs).getD k []) : x < cs.length ∧ remC (cs.getD x 0) = false := (kept_mem cs cs.length x).1 (((rs_x b cs).mem x).2 ⟨k, getD_out h, h⟩)
/-- the runs' links -/
theorem links (b : Nat) (cs : List Int) : Links (rsL b cs).length (nxR cs (rsL b cs)) (pvR cs (rsL b cs)) := by
  have H := rs_x b cs
  have fwd : ∀ k k', nxR cs (rsL b cs) k = some k' → k < k' ∧ k' < (rsL b cs).length ∧ pvR cs (rsL b cs) k' = some k := fun k k' h => by
    unfold nxR at h
    split at h
    · rename_i hc
      obtain ⟨h1, h2, h3⟩ := hc
      obtain ⟨p, hp⟩ : ∃ p : Nat, (matL cs).getD (laR (rsL b cs) k) 0 = p := ⟨_, (Int.toNat_of_nonneg h3).symm⟩
      rw [hp, Int.toNat_natCast] at h
      injection h with h
      have hin := last_in H h1
      have hi := (in_kept hin).1
      obtain ⟨q1, q2, q3, q4⟩ := pair_of hi hp h2
      obtain ⟨k2, hk2⟩ := run_of b cs q2 (by rw [q3]; rfl)
      have h5 := idx_is H hk2
      obtain rfl : k' = k2 := by omega
      obtain ⟨g1, g2⟩ := link_fwd hi h2 hp hin rfl hk2
      refine ⟨g2, getD_out hk2, ?_⟩
      unfold pvR
      rw [if_pos ⟨getD_out hk2, by rw [← g1]; exact q3, by rw [← g1, q4]; omega⟩, ← g1, q4, Int.toNat_natCast, idx_is H hin]
    · cases h
  have bwd : ∀ k k', pvR cs (rsL b cs) k' = some k → nxR cs (rsL b cs) k = some k' := fun k k' h => by
    unfold pvR at h
    split at h
    · rename_i hc
      obtain ⟨h1, h2, h3⟩ := hc
      obtain ⟨i, hi⟩ : ∃ i : Nat, (matL cs).getD (hdR (rsL b cs) k') 0 = i := ⟨_, (Int.toNat_of_nonneg h3).symm⟩
      rw [hi, Int.toNat_natCast] at h
      injection h with h
      have hin := head_in H h1
      have hp := (in_kept hin).1
      obtain ⟨q1, q2, q3⟩ := pair_to hp hi h2
      have hil : i < cs.length := by omega
      obtain ⟨k2, hk2⟩ := run_of b cs hil (opn_kept q2)
      have h5 := idx_is H hk2
      obtain rfl : k = k2 := by omega
      obtain ⟨g1, g2⟩ := link_bwd hil q2 q3 hk2 hin rfl
      unfold nxR
      rw [if_pos ⟨getD_out hk2, by rw [← g1]; exact q2, by rw [← g1, q3]; omega⟩, ← g1, q3, Int.toNat_natCast, idx_is H hin]
    · cases h
  exact ⟨fun k k' => ⟨fun h => (fwd k k' h).2.2, bwd k k'⟩, fun k k' h => ⟨(fwd k k' (bwd k k' h)).1, (fwd k k' (bwd k k' h)).2.1⟩⟩
/-- the sequences by their runs, and a sequence's places -/
def sqG (b : Nat) (cs : List Int) : List (List Nat) := grp (pvR cs (rsL b cs)) (rsL b cs).length
def atS (rs : List (List Nat)) (c : List Nat) : List Nat := c.flatMap fun k => rs.getD k []
theorem sq_chain (b : Nat) (cs : List Int) (F : Nat) (hF : (rsL b cs).length ≤ F) : sqG b cs = (startsG (pvR cs (rsL b cs)) (rsL b cs).length).map (chainG (nxR cs (rsL b cs)) F) := grp_chain (links b cs) F hF
theorem flatMap_range (rs : List (List Nat)) : (List.range rs.length).flatMap (fun k => rs.getD k []) = rs.flatten := by
  have h : (List.range rs.length).map (fun k => rs.getD k []) = rs := by
    apply List.ext_getElem?
    intro k
    rw [List.getElem?_map]
    rcases Nat.lt_or_ge k rs.length with h | h
    · rw [List.getElem?_range h, Option.map_some, getD_at h, List.getElem?_eq_getElem h]
    · rw [List.getElem?_eq_none (by simpa using h), List.getElem?_eq_none h]; rfl
  rw [List.flatMap_def, h]
/-- each place that is not removed stands in just one sequence, once -/
theorem sq_perm (b : Nat) (cs : List Int) : ((sqG b cs).map (atS (rsL b cs))).flatten.Perm (keptL cs cs.length) := by
  have h1 := (inv_grp (links b cs) _ (Nat.le_refl _)).perm
  have h2 : ((sqG b cs).map (atS (rsL b cs))).flatten = (sqG b cs).flatten.flatMap fun k => (rsL b cs).getD k [] := by
    unfold atS
    generalize sqG b cs = g
    induction g with
    | nil => rfl
    | cons c g ih => simp only [List.map_cons, List.flatten_cons, List.flatMap_append, ih]
  rw [h2]
  have h3 : (rsL b cs).flatten = keptL cs cs.length := (inv_runs (lvF b cs) (keptL cs cs.length)).flat
  have h4 := h1.flatMap_right (fun k => (rsL b cs).getD k [])
  rw [flatMap_range, h3] at h4
  exact h4
theorem chain_up {n : Nat} {nx pv : Nat → Option Nat} (H : Links n nx pv) : ∀ (L s : Nat), (chainG nx L s).Pairwise (· < ·) ∧ ∀ x ∈ chainG nx L s, s ≤ x
  | 0, s => ⟨by simp [chainG], fun x hx => by simp [chainG] at hx⟩
  | L + 1, s => by
    rw [chainG]
    cases hn : nx s with
    | none => exact ⟨by simp, fun x hx => by simp at hx; omega⟩
    | some k =>
      have h1 := (H.up _ _ ((H.link _ _).1 hn)).1
      obtain ⟨i1, i2⟩ := chain_up H L k
      refine ⟨List.pairwise_cons.2 ⟨fun x hx => ?_, i1⟩, fun x hx => ?_⟩
      · have := i2 x hx; omega
      · rw [List.mem_cons] at hx
        rcases hx with rfl | hx
        · exact Nat.le_refl _
        · have := i2 x hx; omega
theorem nx_lv {k k' : Nat} (h : nxR cs (rsL b cs) k = some k') : lvF b cs (hdR (rsL b cs) k') = lvF b cs (hdR (rsL b cs) k) := by
  have H := rs_x b cs
  have hl := links b cs
  have hp := (hl.link k k').1 h
  have hk' := (hl.up _ _ hp).2
  have hk : k < (rsL b cs).length := by have := (hl.up _ _ hp).1; omega
  unfold pvR at hp
  split at hp
  · rename_i hc
    obtain ⟨h1, h2, h3⟩ := hc
    obtain ⟨i, hi⟩ : ∃ i : Nat, (matL cs).getD (hdR (rsL b cs) k') 0 = i := ⟨_, (Int.toNat_of_nonneg h3).symm⟩
    rw [hi, Int.toNat_natCast] at hp
    injection hp with hp
    have hin := head_in H h1
    obtain ⟨q1, q2, q3⟩ := pair_to (in_kept hin).1 hi h2
    have hil : i < cs.length := by have := (in_kept hin).1; omega
    obtain ⟨k2, hk2⟩ := run_of b cs hil (opn_kept q2)
    have h5 := idx_is H hk2
    obtain rfl : k = k2 := by omega
    rw [(pair_lv (b := b) hil q3 q1).1]
    exact H.same k _ _ hk2 (head_in H hk)
  · cases hp
theorem chain_lv (b : Nat) (cs : List Int) : ∀ (L s : Nat), ∀ x ∈ chainG (nxR cs (rsL b cs)) L s, lvF b cs (hdR (rsL b cs) x) = lvF b cs (hdR (rsL b cs) s)
  | 0, s, x, hx => by simp [chainG] at hx
  | L + 1, s, x, hx => by
    rw [chainG, List.mem_cons] at hx
    rcases hx with rfl | hx
    · rfl
    · cases hn : nxR cs (rsL b cs) s with
      | none => rw [hn] at hx; cases hx
      | some k =>
        rw [hn] at hx
        rw [chain_lv b cs L k x hx, nx_lv hn]
/-- places rise within a sequence, and all have its level -/
theorem sq_rise (b : Nat) (cs : List Int) (c : List Nat) (hc : c ∈ sqG b cs) : (atS (rsL b cs) c).Pairwise (· < ·) ∧ (∀ x ∈ atS (rsL b cs) c, lvF b cs x = lvF b cs (hdR (rsL b cs) (c.headD 0))) ∧ atS (rsL b cs) c ≠ [] := by
  have H := rs_x b cs
  have hl := links b cs
  obtain ⟨c1, c2⟩ := (inv_grp hl _ (Nat.le_refl _)).chain c hc
  have hmem : ∀ k ∈ c, k < (rsL b cs).length := fun k hk => by
    have := (inv_grp hl _ (Nat.le_refl _)).perm.mem_iff.1 (List.mem_flatten.2 ⟨c, hc, hk⟩)
    exact List.mem_range.1 this
  have hup := (chain_up hl c.length (c.headD 0)).1
  rw [← c2] at hup
  have hlv := chain_lv b cs c.length (c.headD 0)
  rw [← c2] at hlv
  refine ⟨?_, fun x hx => ?_, ?_⟩
  · unfold atS
    rw [List.flatMap_def, List.pairwise_flatten]
    refine ⟨fun r hr => ?_, ?_⟩
    · obtain ⟨k, _, rfl⟩ := List.mem_map.1 hr
      exact H.sort k
    · rw [List.pairwise_map]
      exact hup.imp fun {k k'} h x hx y hy => H.up k k' x y hx hy h
  · unfold atS at hx
    obtain ⟨k, hk, hx⟩ := List.mem_flatMap.1 hx
    rw [← hlv k hk]
    exact H.same k _ _ hx (head_in H (getD_out hx))
  · intro e
    obtain ⟨k, hk⟩ : ∃ k, k ∈ c := by cases c with | nil => simp at c1 | cons a c => exact ⟨a, by simp⟩
    have h1 := head_in H (hmem k hk)
    have : hdR (rsL b cs) k ∈ atS (rsL b cs) c := List.mem_flatMap.2 ⟨k, hk, h1⟩
    rw [e] at this
    cases this
/-- P12.4: without isolate signs each run is a sequence -/
theorem sq_plain (b : Nat) (cs : List Int) (h : ∀ x, x < cs.length → cs.getD x 0 ≠ 23) : (sqG b cs).map (atS (rsL b cs)) = rsL b cs := by
  have H := rs_x b cs
  have hp : ∀ k, pvR cs (rsL b cs) k = none := fun k => by
    unfold pvR
    rw [if_neg]
    rintro ⟨h1, h2, _⟩
    exact h _ (in_kept (head_in H h1)).1 h2
  have hg : ∀ m, grp (pvR cs (rsL b cs)) m = (List.range m).map fun k => [k] := fun m => by
    induction m with
    | zero => rfl
    | succ m ih =>
      show stepG _ (grp _ m) m = _
      unfold stepG
      rw [hp m, ih, List.range_succ, List.map_append]
      rfl
  unfold sqG
  rw [hg, List.map_map]
  apply List.ext_getElem?
  intro k
  rw [List.getElem?_map]
  rcases Nat.lt_or_ge k (rsL b cs).length with hk | hk
  · rw [List.getElem?_range hk, Option.map_some]
    simp [atS]
    rw [List.getElem?_eq_getElem hk]
    rfl
  · rw [List.getElem?_eq_none (by simpa using hk), List.getElem?_eq_none hk]; rfl
end
end Go.Proofs.Ytjdkpnmejkbkiaa
