/-
  Mathematics of the sequences that are returned: each kept place once, rising, of one level; without isolate signs the runs one by one. No program, no condition.
-/
import Derived.Test.YtjdkpnmejkbkiaaSqk
set_option linter.unusedVariables false
set_option linter.unusedSimpArgs false
namespace Go.Proofs.Ytjdkpnmejkbkiaa

theorem seq_rise (b : Nat) (cs : List Int) {i : Nat} {x : Sq} (hi : (seqL b cs)[i]? = some x) : x.pl.Pairwise (· < ·) ∧ x.pl ≠ [] ∧ (∀ p ∈ x.pl, p < cs.length ∧ lvF b cs p = x.lv) := by
  unfold seqL seqN at hi
  rw [List.getElem?_map, Option.map_eq_some_iff] at hi
  obtain ⟨c, hc, rfl⟩ := hi
  obtain ⟨h1, h2, h3⟩ := sq_rise b cs c (List.mem_of_getElem? hc)
  refine ⟨h1, h3, fun p hp => ⟨?_, h2 p hp⟩⟩
  have hp' : p ∈ atS (rsL b cs) c := hp
  unfold atS at hp'
  obtain ⟨k, _, hp'⟩ := List.mem_flatMap.1 hp'
  exact (in_kept hp').1
theorem seq_perm (b : Nat) (cs : List Int) : ((seqL b cs).flatMap Sq.pl).Perm (keptL cs cs.length) := by
  have h := sq_perm b cs
  unfold seqL seqN
  rw [List.flatMap_def, List.map_map]
  exact h
theorem seq_few (b : Nat) (cs : List Int) : (seqL b cs).length ≤ cs.length := by
  have h1 := (seq_perm b cs).length_eq
  have h2 := keptL_len cs cs.length
  have key : ∀ l : List Sq, (∀ x ∈ l, x.pl ≠ []) → l.length ≤ (l.flatMap Sq.pl).length := fun l => by
    induction l with
    | nil => intro _; simp
    | cons x l ih =>
      intro h
      have := ih fun y hy => h y (by simp [hy])
      have h3 := h x (by simp)
      have : 0 < x.pl.length := List.length_pos_iff.2 h3
      rw [List.flatMap_cons, List.length_append, List.length_cons]
      omega
  have := key (seqL b cs) fun x hx => by
    obtain ⟨i, hi, rfl⟩ := List.getElem_of_mem hx
    exact (seq_rise b cs (List.getElem?_eq_getElem hi)).2.1
  omega
theorem plain_pl (b : Nat) (cs : List Int) (h : ∀ x, x < cs.length → cs.getD x 0 ≠ 23) : (seqL b cs).map Sq.pl = rsL b cs := by
  have := sq_plain b cs h
  unfold seqL seqN
  rw [List.map_map]
  exact this
theorem plain_len (b : Nat) (cs : List Int) (h : ∀ x, x < cs.length → cs.getD x 0 ≠ 23) : (seqL b cs).length = (rsL b cs).length := by
  rw [← plain_pl b cs h, List.length_map]
theorem plain_at (b : Nat) (cs : List Int) (h : ∀ x, x < cs.length → cs.getD x 0 ≠ 23) {i : Nat} (hi : i < (rsL b cs).length) : ∃ x, (seqL b cs)[i]? = some x ∧ x.pl = (rsL b cs).getD i [] := by
  have h1 : i < (seqL b cs).length := by rw [plain_len b cs h]; exact hi
  refine ⟨(seqL b cs)[i], List.getElem?_eq_getElem h1, ?_⟩
  rw [List.getD_eq_getElem?_getD, ← plain_pl b cs h, List.getElem?_map, List.getElem?_eq_getElem h1]; rfl
theorem ints_head (l : List Nat) (h : 0 < (ints l).length) : (ints l)[0] = ((l.headD 0 : Nat) : Int) := by
  cases l with
  | nil => simp [ints] at h
  | cons a l => rfl
theorem ints_last (l : List Nat) (p : Nat) (hl : l.length = p + 1) (h : p < (ints l).length) : (ints l)[p] = ((l.getLastD 0 : Nat) : Int) := by
  have hne : l ≠ [] := fun e => by subst e; simp at hl
  obtain ⟨u, y, rfl⟩ : ∃ u y, l = u ++ [y] := ⟨_, _, (List.dropLast_concat_getLast hne).symm⟩
  have hu : u.length = p := by simp at hl; exact hl
  subst hu
  simp [ints]
/-- how often each place stands in a list -/
def cntP (T : List Nat) (n : Nat) : List Int := (List.range n).map fun p => ((T.count p : Nat) : Int)
theorem cntP_len (T : List Nat) (n : Nat) : (cntP T n).length = n := by simp [cntP]
theorem cntP_get (T : List Nat) (n p : Nat) (h : p < (cntP T n).length) : (cntP T n)[p] = ((T.count p : Nat) : Int) := by simp [cntP]
theorem cntP_nil (n : Nat) : cntP [] n = List.replicate n 0 := by
  apply List.ext_getElem?
  intro i
  unfold cntP
  rw [List.getElem?_map, List.getElem?_replicate]
  rcases Nat.lt_or_ge i n with h | h
  · rw [List.getElem?_range h, if_pos h]; rfl
  · rw [List.getElem?_eq_none (by simpa using h), if_neg (by omega)]; rfl
theorem cntP_snoc (T : List Nat) (n p : Nat) (h : p < n) : cntP (T ++ [p]) n = (cntP T n).set p (((T.count p : Nat) : Int) + 1) := by
  apply List.ext_getElem?
  intro i
  rw [List.getElem?_set, cntP_len]
  unfold cntP
  rw [List.getElem?_map, List.getElem?_map]
  rcases Nat.lt_or_ge i n with hi | hi
  · rw [List.getElem?_range hi]
    show some (((T ++ [p]).count i : Nat) : Int) = _
    by_cases e : p = i
    · subst e
      rw [if_pos rfl, if_pos h, List.count_append]; simp
    · rw [if_neg e, List.count_append]
      have : [p].count i = 0 := by rw [List.count_eq_zero]; simp; omega
      rw [this]; rfl
  · rw [List.getElem?_eq_none (by simpa using hi), if_neg (by omega)]; rfl
/-- at the end each kept place has been seen once -/
theorem cnt_end (b : Nat) (cs : List Int) (p : Nat) (hp : p < cs.length) : ((seqL b cs).flatMap Sq.pl).count p = if remC (cs.getD p 0) = true then 0 else 1 := by
  rw [(seq_perm b cs).count_eq]
  have hm := kept_mem cs cs.length p
  split
  · rename_i h
    rw [List.count_eq_zero]
    intro hx
    have := (hm.1 hx).2
    rw [h] at this; cases this
  · rename_i h
    have hin : p ∈ keptL cs cs.length := hm.2 ⟨hp, by simpa using h⟩
    have hnd : (keptL cs cs.length).Nodup := (kept_sorted cs cs.length).imp fun h => Nat.ne_of_lt h
    have h1 : (keptL cs cs.length).count p ≤ 1 := List.nodup_iff_count.1 hnd p
    have h2 := List.count_pos_iff.2 hin
    omega
/-- what has been seen before place j of sequence i -/
def seenP (b : Nat) (cs : List Int) (i : Nat) (l : List Nat) : List Nat := ((seqL b cs).take i).flatMap Sq.pl ++ l
theorem seen_sub (b : Nat) (cs : List Int) {i : Nat} {x : Sq} (hi : (seqL b cs)[i]? = some x) (j : Nat) : (seenP b cs i (x.pl.take j)).Sublist ((seqL b cs).flatMap Sq.pl) := by
  have hlt := (List.getElem?_eq_some_iff.1 hi).1
  have hs : seqL b cs = (seqL b cs).take i ++ x :: (seqL b cs).drop (i + 1) := by
    have h1 := (List.getElem?_eq_some_iff.1 hi).2
    conv => lhs; rw [← List.take_append_drop i (seqL b cs), List.drop_eq_getElem_cons hlt, h1]
  unfold seenP
  conv => rhs; rw [hs, List.flatMap_append, List.flatMap_cons]
  refine List.Sublist.append (List.Sublist.refl _) ?_
  exact (List.take_sublist j x.pl).trans (List.sublist_append_left _ _)
theorem seen_few (b : Nat) (cs : List Int) {i : Nat} {x : Sq} (hi : (seqL b cs)[i]? = some x) (j p : Nat) (hp : p < cs.length) : (seenP b cs i (x.pl.take j)).count p ≤ 1 := by
  have h1 := (seen_sub b cs hi j).count_le p
  rw [cnt_end b cs p hp] at h1
  split at h1 <;> omega
theorem seen_zero (b : Nat) (cs : List Int) : seenP b cs 0 [] = [] := rfl
theorem seen_next (b : Nat) (cs : List Int) {i : Nat} {x : Sq} (hi : (seqL b cs)[i]? = some x) : seenP b cs i x.pl = seenP b cs (i + 1) [] := by
  unfold seenP
  rw [List.append_nil, take_snoc _ _ _ hi, List.flatMap_append]
  simp
theorem seen_snoc (b : Nat) (cs : List Int) (i : Nat) (l : List Nat) (j p : Nat) (h : l[j]? = some p) : seenP b cs i (l.take (j + 1)) = seenP b cs i (l.take j) ++ [p] := by
  unfold seenP
  rw [take_snoc _ _ _ h, List.append_assoc]
theorem seen_all (b : Nat) (cs : List Int) : seenP b cs (seqL b cs).length [] = (seqL b cs).flatMap Sq.pl := by
  unfold seenP
  rw [List.take_length, List.append_nil]
theorem sorted_at {l : List Nat} (h : l.Pairwise (· < ·)) {q x y : Nat} (hx : l[q]? = some x) (hy : l[q + 1]? = some y) : x < y := by
  obtain ⟨h1, rfl⟩ := List.getElem?_eq_some_iff.1 hx
  obtain ⟨h2, rfl⟩ := List.getElem?_eq_some_iff.1 hy
  exact List.pairwise_iff_getElem.1 h q (q + 1) h1 h2 (Nat.lt_succ_self q)
theorem ints_get (l : List Nat) (j p : Nat) (h : l[j]? = some p) (hj : j < (ints l).length) : (ints l)[j] = (p : Int) := by
  obtain ⟨h1, rfl⟩ := List.getElem?_eq_some_iff.1 h
  simp [ints]
end Go.Proofs.Ytjdkpnmejkbkiaa
