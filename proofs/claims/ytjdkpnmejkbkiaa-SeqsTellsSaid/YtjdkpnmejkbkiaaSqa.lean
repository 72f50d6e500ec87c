/-
  Mathematics of isolates and their levels: the level of a PDI is that of its initiator; what stands between is all on that level, or all above it. No program, no condition.
-/
import Derived.Test.YtjdkpnmejkbkiaaXpc
set_option linter.unusedVariables false
set_option linter.unusedSimpArgs false
namespace Go.Proofs.Ytjdkpnmejkbkiaa

theorem end_iso (s : Xs) (odd : Bool) : endX (isoX s odd) = s := by
  unfold isoX
  split
  · rename_i hr
    obtain ⟨r1, r2, r3⟩ := room_is hr
    unfold endX
    rw [if_neg (by show ¬ 0 < s.isos; omega), if_neg (by show ¬ s.vals + 1 = 0; omega)]
    have := cut_is s.l ⟨nextL (lastE s.l).lv odd, 0, true⟩ [] rfl (by simp)
    show Xs.mk (cutX (s.l ++ [_])) s.isos 0 (s.vals + 1 - 1) = s
    rw [this, Nat.add_sub_cancel, ← r3]
  · unfold endX
    rw [if_pos (Nat.succ_pos _)]
    rfl
/-- levels rise along the stack -/
def SortX (s : Xs) : Prop := s.l.Pairwise fun a b => a.lv < b.lv
theorem sort_last {l : List En} (h : l.Pairwise fun a b => a.lv < b.lv) : ∀ x ∈ l, x.lv ≤ (lastE l).lv := by
  intro x hx
  have hne : l ≠ [] := fun e => by subst e; cases hx
  have hs := split_last l hne
  rw [hs] at hx h
  rcases List.mem_append.1 hx with h1 | h1
  · have := (List.pairwise_append.1 h).2.2 x h1 (lastE l) (by simp)
    omega
  · simp at h1; subst h1; exact Nat.le_refl _
theorem sort_push {s : Xs} (h : SortX s) (e : En) (he : (lastE s.l).lv < e.lv) (i m v : Nat) : SortX ⟨s.l ++ [e], i, m, v⟩ := by
  show (s.l ++ [e]).Pairwise _
  refine List.pairwise_append.2 ⟨h, by simp, fun a ha b hb => ?_⟩
  simp at hb; subst hb
  have := sort_last h a ha
  omega
theorem cut_sub (l : List En) : (cutX l).Sublist l := by
  unfold cutX
  have h1 : ((l.reverse.dropWhile fun e => !e.iso).tail).Sublist l.reverse := (List.tail_sublist _).trans (List.dropWhile_sublist _)
  have := h1.reverse
  rwa [List.reverse_reverse] at this
theorem sort_step {b : Nat} {s : Xs} (h : SortX s) (p : Nat) (c : Int) (r : Bool) : SortX (stepX b s p c r).1 := by
  have hi : ∀ odd, SortX (isoX s odd) := fun odd => by
    unfold isoX
    split
    · exact sort_push h _ (nextL_bnd _ _).1 _ _ _
    · exact h
  unfold stepX
  split
  · show SortX (if c = 19 then popX s else if c = 10 then s else embedX s c)
    split
    · unfold popX
      split
      · exact h
      split
      · exact h
      split
      · exact List.Pairwise.sublist (List.dropLast_sublist _) h
      · exact h
    split
    · exact h
    · unfold embedX
      split
      · exact sort_push h _ (nextL_bnd _ _).1 _ _ _
      split
      · exact h
      · exact h
  split
  · exact hi _
  split
  · exact hi _
  split
  · show SortX (endX s)
    unfold endX
    split
    · exact h
    split
    · exact h
    · exact List.Pairwise.sublist (cut_sub _) h
  split
  · show (begX b).l.Pairwise _
    simp [begX]
  · exact h
theorem sort_stN (b : Nat) (cs : List Int) : ∀ i, i ≤ cs.length → SortX (stN b cs i).1
  | 0, _ => by show (begX b).l.Pairwise _; simp [begX]
  | i + 1, h => by
    rw [stN_succ b cs i (by omega)]
    exact sort_step (sort_stN b cs i (by omega)) _ _ _

/-- a state within an isolate that overflows, with d more open -/
def OverX (S s : Xs) (d : Nat) : Prop := 0 < S.isos ∧ s = ⟨S.l, S.isos + d, S.embs, S.vals⟩
/-- a state within an isolate that fits, with d more open -/
def FitsX (S s : Xs) (d : Nat) : Prop := S.isos = 0 ∧ S.embs = 0 ∧ ∃ L e w V, S.l = L ++ [e] ∧ e.iso = true ∧ S.vals = V + 1 ∧ s.l = L ++ e :: w ∧ (w.filter fun x => x.iso).length + s.isos = d ∧ s.vals = V + 1 + (w.filter fun x => x.iso).length
def DeepX (S s : Xs) (d : Nat) : Prop := OverX S s d ∨ FitsX S s d
theorem deep_iso (s : Xs) (odd : Bool) : DeepX (isoX s odd) (isoX s odd) 0 := by
  unfold isoX
  split
  · rename_i hr
    obtain ⟨r1, r2, r3⟩ := room_is hr
    exact .inr ⟨r2, r3, s.l, _, [], s.vals, rfl, rfl, rfl, rfl, by simpa using r2, rfl⟩
  · exact .inl ⟨Nat.succ_pos _, rfl⟩
theorem deep_within {S s : Xs} (h : DeepX S s 0) : Within S s := by
  rcases h with ⟨h1, rfl⟩ | ⟨h1, h2, L, e, w, V, p1, p2, p3, p4, p5, p6⟩
  · exact .inl ⟨h1, rfl⟩
  · have hw : w.filter (fun x => x.iso) = [] := List.eq_nil_of_length_eq_zero (by omega)
    refine .inr ⟨h1, h2, L, e, w, V, p1, p2, p3, p4, fun x hx => ?_, by omega, by rw [p6, hw]; rfl⟩
    have := List.filter_eq_nil_iff.1 hw x hx
    simpa using this
theorem cut_deep (L : List En) (e : En) (w : List En) (h : 0 < (w.filter fun x => x.iso).length) : ∃ w', cutX (L ++ e :: w) = L ++ e :: w' ∧ (w'.filter fun x => x.iso).length + 1 = (w.filter fun x => x.iso).length := by
  obtain ⟨u, x, t, h1, h2, h3⟩ := last_iso w h
  refine ⟨u, ?_, ?_⟩
  · rw [h1, show L ++ e :: (u ++ x :: t) = (L ++ e :: u) ++ x :: t by simp]
    exact cut_is _ _ _ h2 h3
  · have ht : t.filter (fun x => x.iso) = [] := by
      rw [List.filter_eq_nil_iff]
      intro y hy; simp [h3 y hy]
    rw [h1, List.filter_append, List.length_append, List.filter_cons, if_pos h2, ht]
    rfl
/-- what a class does to the depth -/
theorem dep_one (d : Nat) (c : Int) (d' : Nat) (h : depD d [c] = some d') : c ≠ 11 ∧ ((opnC c = true ∧ d' = d + 1) ∨ (c = 23 ∧ d = d' + 1) ∨ (opnC c = false ∧ c ≠ 23 ∧ d' = d)) := by
  have h11 : c ≠ 11 := fun e => by subst e; cases d <;> simp [depD] at h
  refine ⟨h11, ?_⟩
  cases ho : opnC c with
  | true =>
    rw [dep_open d c [] ho] at h
    simp [depD] at h
    exact .inl ⟨rfl, h.symm⟩
  | false =>
    by_cases h23 : c = 23
    · subst h23
      cases d with
      | zero => simp [depD, opnC] at h
      | succ d =>
        rw [dep_pdi] at h
        cases d <;> simp [depD] at h <;> exact .inr (.inl ⟨rfl, by omega⟩)
    · rw [dep_skip d c [] h11 ho h23] at h
      cases d <;> simp [depD] at h <;> exact .inr (.inr ⟨rfl, h23, by omega⟩)
theorem deep_open {S s : Xs} {d : Nat} (h : DeepX S s d) (odd : Bool) : DeepX S (isoX s odd) (d + 1) := by
  rcases h with ⟨h1, rfl⟩ | ⟨h1, h2, L, e, w, V, p1, p2, p3, p4, p5, p6⟩
  · refine .inl ⟨h1, ?_⟩
    unfold isoX
    rw [if_neg (fun hr => by have := (room_is hr).2.1; simp only at this; omega)]
    rfl
  · refine .inr ⟨h1, h2, L, e, ?_⟩
    unfold isoX
    split
    · refine ⟨w ++ [⟨nextL (lastE s.l).lv odd, 0, true⟩], V, p1, p2, p3, by show s.l ++ _ = _; rw [p4]; simp, ?_, ?_⟩
      · show _ + s.isos = d + 1
        rw [List.filter_append, List.length_append]
        simp; omega
      · show s.vals + 1 = _
        rw [List.filter_append, List.length_append]
        simp; omega
    · exact ⟨w, V, p1, p2, p3, p4, by show _ + (s.isos + 1) = d + 1; omega, p6⟩
theorem deep_close {S s : Xs} {d : Nat} (h : DeepX S s (d + 1)) : DeepX S (endX s) d := by
  rcases h with ⟨h1, rfl⟩ | ⟨h1, h2, L, e, w, V, p1, p2, p3, p4, p5, p6⟩
  · refine .inl ⟨h1, ?_⟩
    unfold endX
    rw [if_pos (by show 0 < S.isos + (d + 1); omega)]
    show Xs.mk S.l (S.isos + (d + 1) - 1) S.embs S.vals = _
    rw [show S.isos + (d + 1) - 1 = S.isos + d by omega]
  · refine .inr ⟨h1, h2, L, e, ?_⟩
    unfold endX
    by_cases hi : 0 < s.isos
    · rw [if_pos hi]
      exact ⟨w, V, p1, p2, p3, p4, by show _ + (s.isos - 1) = d; omega, p6⟩
    · rw [if_neg hi, if_neg (by omega)]
      obtain ⟨w', q1, q2⟩ := cut_deep L e w (by omega)
      exact ⟨w', V, p1, p2, p3, by show cutX s.l = _; rw [p4]; exact q1, by show _ + s.isos = d; omega, by show s.vals - 1 = _; omega⟩
theorem deep_keep {S s : Xs} {d : Nat} (h : DeepX S s d) (b p : Nat) (c : Int) (r : Bool) (h11 : c ≠ 11) (ho : opnC c = false) (h23 : c ≠ 23) : DeepX S (stepX b s p c r).1 d := by
  have h20 : ¬(c = 20 ∨ c = 21) := fun e => by rcases e with rfl | rfl <;> cases ho
  have h22 : c ≠ 22 := fun e => by subst e; cases ho
  unfold stepX
  split
  · show DeepX S (if c = 19 then popX s else if c = 10 then s else embedX s c) d
    split
    · rcases h with ⟨h1, rfl⟩ | ⟨h1, h2, L, e, w, V, p1, p2, p3, p4, p5, p6⟩
      · left
        refine ⟨h1, ?_⟩
        unfold popX
        rw [if_pos (by show 0 < S.isos + d; omega)]
      · refine .inr ⟨h1, h2, L, e, ?_⟩
        unfold popX
        split
        · exact ⟨w, V, p1, p2, p3, p4, p5, p6⟩
        split
        · exact ⟨w, V, p1, p2, p3, p4, p5, p6⟩
        split
        · rename_i _ _ hl
          obtain ⟨hl1, hl2⟩ := hl
          have hw : w ≠ [] := fun e0 => by
            subst e0
            rw [p4, lastE_snoc, p2] at hl1
            cases hl1
          have hs := split_last w hw
          have hlast : (lastE w).iso = false := by
            have : lastE s.l = lastE w := by rw [p4, hs, show L ++ e :: (w.dropLast ++ [lastE w]) = (L ++ e :: w.dropLast) ++ [lastE w] by simp, lastE_snoc, lastE_snoc]
            rw [← this]; exact hl1
          have hf : (w.dropLast.filter fun x => x.iso).length = (w.filter fun x => x.iso).length := by
            conv => rhs; rw [hs]
            rw [List.filter_append]
            simp [hlast]
          refine ⟨w.dropLast, V, p1, p2, p3, ?_, by show _ + s.isos = d; omega, by show s.vals = _; omega⟩
          show s.l.dropLast = _
          rw [p4, List.dropLast_append_of_ne_nil (by simp), List.dropLast_cons_of_ne_nil hw]
        · exact ⟨w, V, p1, p2, p3, p4, p5, p6⟩
    split
    · exact h
    · rcases h with ⟨h1, rfl⟩ | ⟨h1, h2, L, e, w, V, p1, p2, p3, p4, p5, p6⟩
      · left
        refine ⟨h1, ?_⟩
        unfold embedX
        rw [if_neg (fun hr => by have := (room_is hr).2.1; simp only at this; omega), if_neg (by show ¬ S.isos + d = 0; omega)]
      · refine .inr ⟨h1, h2, L, e, ?_⟩
        unfold embedX
        split
        · refine ⟨w ++ [_], V, p1, p2, p3, by show s.l ++ _ = _; rw [p4]; simp; rfl, ?_, ?_⟩
          · show _ + s.isos = d
            rw [List.filter_append]
            simpa using p5
          · show s.vals = _
            rw [List.filter_append]
            simpa using p6
        split
        · exact ⟨w, V, p1, p2, p3, p4, p5, p6⟩
        · exact ⟨w, V, p1, p2, p3, p4, p5, p6⟩
  exact h
theorem deep_step {S s : Xs} {d d' : Nat} (h : DeepX S s d) (b p : Nat) (c : Int) (r : Bool) (hd : depD d [c] = some d') : DeepX S (stepX b s p c r).1 d' := by
  obtain ⟨h11, hc⟩ := dep_one d c d' hd
  rcases hc with ⟨ho, rfl⟩ | ⟨rfl, rfl⟩ | ⟨ho, h23, rfl⟩
  · have hr : remC c = false := by
      unfold opnC at ho
      simp only [Bool.or_eq_true, beq_iff_eq] at ho
      rcases ho with (rfl | rfl) | rfl <;> rfl
    unfold stepX
    rw [if_neg (by rw [hr]; decide)]
    unfold opnC at ho
    simp only [Bool.or_eq_true, beq_iff_eq] at ho
    rcases ho with ho | rfl
    · rw [if_pos ho]; exact deep_open h _
    · rw [if_neg (by decide), if_pos rfl]; exact deep_open h _
  · unfold stepX
    rw [if_neg (by decide), if_neg (by decide), if_neg (by decide), if_pos rfl]
    exact deep_close h
  · exact deep_keep h b p c r h11 ho h23

/-- the level of the last entry, within an isolate -/
theorem deep_last {S s : Xs} {d : Nat} (h : DeepX S s d) (hs : SortX s) : (0 < S.isos ∧ (lastE s.l).lv = (lastE S.l).lv) ∨ (S.isos = 0 ∧ (lastE S.l).lv ≤ (lastE s.l).lv) := by
  rcases h with ⟨h1, rfl⟩ | ⟨h1, h2, L, e, w, V, p1, p2, p3, p4, p5, p6⟩
  · exact .inl ⟨h1, rfl⟩
  · refine .inr ⟨h1, ?_⟩
    rw [p1, lastE_snoc]
    exact sort_last hs e (by rw [p4]; simp)
theorem seg_snoc (cs : List Int) (x k : Nat) (h : x ≤ k) (hk : k < cs.length) : segL cs x (k + 1) = segL cs x k ++ [cs.getD k 0] := by
  rw [seg_append cs x k (k + 1) h (Nat.le_succ k), seg_cons cs k (k + 1) (Nat.lt_succ_self k) hk, seg_nil]
/-- an initiator, and what its step leaves -/
theorem step_open (b : Nat) (s : Xs) (p : Nat) (c : Int) (r : Bool) (ho : opnC c = true) : ∃ odd, stepX b s p c r = (isoX s odd, (lastE s.l).lv, ownX s c) := by
  have hr : remC c = false := by
    unfold opnC at ho
    simp only [Bool.or_eq_true, beq_iff_eq] at ho
    rcases ho with (rfl | rfl) | rfl <;> rfl
  unfold stepX
  rw [if_neg (by rw [hr]; decide)]
  unfold opnC at ho
  simp only [Bool.or_eq_true, beq_iff_eq] at ho
  rcases ho with ho | rfl
  · rw [if_pos ho]; exact ⟨_, rfl⟩
  · rw [if_neg (by decide), if_pos rfl]; exact ⟨_, rfl⟩
section
variable {b : Nat} {cs : List Int} {i p : Nat}
/-- states between an initiator and its PDI -/
theorem deep_at (hi : i < cs.length) (hm : (matL cs).getD i 0 = (p : Int)) (hip : i < p) : opnC (cs.getD i 0) = true ∧ p < cs.length ∧ cs.getD p 0 = 23 ∧ ∃ odd, (stN b cs (i + 1)).1 = isoX (stN b cs i).1 odd ∧
    ∀ j, i + 1 ≤ j → j ≤ p → ∃ d, depD 0 (segL cs (i + 1) j) = some d ∧ DeepX (isoX (stN b cs i).1 odd) (stN b cs j).1 d := by
  rcases (inv_mat cs cs.length).vals i hi with hv | ⟨q, k1, k2, k3, k4, k5, k6⟩
  · have hv' : (matL cs).getD i 0 = -1 := hv
    omega
  have k1' : (matL cs).getD i 0 = q := k1
  obtain rfl : q = p := by omega
  obtain ⟨o1, o2, o3⟩ := k4 hip
  obtain ⟨odd, hodd⟩ := step_open b (stN b cs i).1 (stN b cs i).2 (cs.getD i 0) (raC (fstI 0 (cs.drop (i + 1)))) o1
  have hst : (stN b cs (i + 1)).1 = isoX (stN b cs i).1 odd := by
    rw [stN_succ b cs i hi]
    unfold atN
    rw [hodd]
  have hall := pair_dep (q - i) i q (Nat.le_refl _) hip k2 o3 0
  refine ⟨o1, k2, o2, odd, hst, fun j h1 h2 => ?_⟩
  have hpre : ∀ j, i + 1 ≤ j → j ≤ q → ∃ d, depD 0 (segL cs (i + 1) j) = some d := fun j h1 h2 => by
    rw [seg_append cs (i + 1) j q h1 h2, dep_append] at hall
    cases hd : depD 0 (segL cs (i + 1) j) with
    | none => rw [hd] at hall; cases hall
    | some d => exact ⟨d, rfl⟩
  induction j with
  | zero => omega
  | succ j ih =>
    by_cases e : j = i
    · subst e
      exact ⟨0, by rw [seg_nil]; rfl, by rw [hst]; exact deep_iso _ _⟩
    · obtain ⟨d, d1, d2⟩ := ih (by omega) (by omega)
      obtain ⟨d', hd'⟩ := hpre (j + 1) h1 h2
      refine ⟨d', hd', ?_⟩
      rw [seg_snoc cs (i + 1) j (by omega) (by omega), dep_append, d1, Option.bind_some] at hd'
      rw [stN_succ b cs j (by omega)]
      exact deep_step d2 b _ _ _ hd'
/-- the level of a PDI is that of its initiator; what is not removed between them is all on that level, or all above it -/
theorem pair_levels (hi : i < cs.length) (hm : (matL cs).getD i 0 = (p : Int)) (hip : i < p) : (atN b cs p).2.1 = (atN b cs i).2.1 ∧
    ((∀ j, i < j → j < p → remC (cs.getD j 0) = false → (atN b cs j).2.1 = (atN b cs i).2.1) ∨ (∀ j, i < j → j < p → remC (cs.getD j 0) = false → (atN b cs i).2.1 < (atN b cs j).2.1)) := by
  obtain ⟨o1, hp, o2, odd, hst, hd⟩ := deep_at (b := b) hi hm hip
  have hli : (atN b cs i).2.1 = (lastE (stN b cs i).1.l).lv := by
    obtain ⟨odd', h⟩ := step_open b (stN b cs i).1 (stN b cs i).2 (cs.getD i 0) (raC (fstI 0 (cs.drop (i + 1)))) o1
    unfold atN
    rw [h]
  have hend : endX (stN b cs p).1 = (stN b cs i).1 := by
    obtain ⟨d, d1, d2⟩ := hd p (by omega) (Nat.le_refl _)
    have h0 : d = 0 := by
      rcases (inv_mat cs cs.length).vals i hi with hv | ⟨q, k1, k2, k3, k4, k5, k6⟩
      · have hv' : (matL cs).getD i 0 = -1 := hv
        omega
      · have k1' : (matL cs).getD i 0 = q := k1
        obtain rfl : q = p := by omega
        have := pair_dep (q - i) i q (Nat.le_refl _) hip k2 (k4 hip).2.2 0
        rw [d1] at this
        injection this
    subst h0
    rw [within_end (deep_within d2), end_iso]
  have hlp : (atN b cs p).2.1 = (lastE (stN b cs i).1.l).lv := by
    unfold atN
    rw [o2]
    unfold stepX
    rw [if_neg (by decide), if_neg (by decide), if_neg (by decide), if_pos rfl, hend]
  refine ⟨by rw [hlp, hli], ?_⟩
  -- the level of what stands between, by the last entry of a state within the isolate
  have hj : ∀ j, i < j → j < p → remC (cs.getD j 0) = false → ∃ s d, (atN b cs j).2.1 = (lastE s.l).lv ∧ DeepX (isoX (stN b cs i).1 odd) s d ∧ SortX s := fun j h1 h2 hr => by
    obtain ⟨d, d1, d2⟩ := hd j (by omega) (by omega)
    obtain ⟨d', e1, e2⟩ := hd (j + 1) (by omega) (by omega)
    rw [seg_snoc cs (i + 1) j (by omega) (by omega), dep_append, d1, Option.bind_some] at e1
    obtain ⟨h11, hc⟩ := dep_one d _ d' e1
    have hs := sort_stN b cs j (by omega)
    have hs1 := sort_stN b cs (j + 1) (by omega)
    rcases hc with ⟨ho, rfl⟩ | ⟨h23, rfl⟩ | ⟨ho, h23, rfl⟩
    · obtain ⟨odd', h⟩ := step_open b (stN b cs j).1 (stN b cs j).2 (cs.getD j 0) (raC (fstI 0 (cs.drop (j + 1)))) ho
      exact ⟨(stN b cs j).1, d, by unfold atN; rw [h], d2, hs⟩
    · refine ⟨(stN b cs (j + 1)).1, d', ?_, e2, hs1⟩
      rw [stN_succ b cs j (by omega)]
      unfold atN
      rw [h23]
      unfold stepX
      rw [if_neg (by decide), if_neg (by decide), if_neg (by decide), if_pos rfl]
    · refine ⟨(stN b cs j).1, _, ?_, d2, hs⟩
      have h20 : ¬(cs.getD j 0 = 20 ∨ cs.getD j 0 = 21) := fun e => by rcases e with e | e <;> rw [e] at ho <;> cases ho
      have h22 : cs.getD j 0 ≠ 22 := fun e => by rw [e] at ho; cases ho
      unfold atN stepX
      rw [if_neg (by rw [hr]; decide), if_neg h20, if_neg h22, if_neg h23, if_neg h11]
  rw [hli]
  rcases Nat.eq_zero_or_pos (isoX (stN b cs i).1 odd).isos with h0 | h0
  · right
    intro j h1 h2 hr
    obtain ⟨s, d, l1, l2, l3⟩ := hj j h1 h2 hr
    rw [l1]
    rcases deep_last l2 l3 with ⟨g1, _⟩ | ⟨_, g2⟩
    · omega
    · have hlt : (lastE (stN b cs i).1.l).lv < (lastE (isoX (stN b cs i).1 odd).l).lv := by
        unfold isoX at h0 ⊢
        split
        · show _ < (lastE ((stN b cs i).1.l ++ [_])).lv
          rw [lastE_snoc]
          exact (nextL_bnd _ _).1
        · rename_i hr2
          rw [if_neg hr2] at h0
          simp only at h0
          omega
      omega
  · left
    intro j h1 h2 hr
    obtain ⟨s, d, l1, l2, l3⟩ := hj j h1 h2 hr
    rw [l1]
    rcases deep_last l2 l3 with ⟨_, g2⟩ | ⟨g1, _⟩
    · rw [g2]
      unfold isoX at h0 ⊢
      split
      · rename_i hr2
        rw [if_pos hr2] at h0
        have := (room_is hr2).2.1
        simp only at h0
        omega
      · rfl
    · omega
end
end Go.Proofs.Ytjdkpnmejkbkiaa
