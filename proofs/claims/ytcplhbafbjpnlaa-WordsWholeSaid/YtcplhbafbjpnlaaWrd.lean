/-
  Mathematics of words: kinds of clusters, which neighbours hang together, the word boundaries as a list, the word around a place, the kind of a range, the number of words. No program, no condition.
-/
import Derived.Test.YtcplhbafbjpnlaaCov
set_option linter.unusedVariables false
set_option linter.unusedSimpArgs false
namespace Go.Proofs.Ytcplhbafbjpnlaa

def wd (r : Int) : Int := (ofP r).wd
/-- the kind of a cluster -/
def kd : List Int → Int
  | [] => 0
  | r :: l => if wd r = 6 then kd l else wd r
/-- from a up to b -/
def rng (zs : List Int) (a b : Nat) : List Int := (zs.drop a).take (b - a)
def kOf (zs : List Int) (a b : Nat) : Int := kd (rng zs a b)
theorem rng_self (zs : List Int) (a : Nat) : rng zs a a = [] := by unfold rng; rw [Nat.sub_self]; rfl
theorem kOf_self (zs : List Int) (a : Nat) : kOf zs a a = 0 := by unfold kOf; rw [rng_self]; rfl
theorem rng_step (zs : List Int) (a b : Nat) (h : a < b) (hb : b ≤ zs.length) : rng zs a b = zs[a] :: rng zs (a + 1) b := by
  unfold rng
  rw [List.drop_eq_getElem_cons (by omega), show b - a = (b - (a + 1)) + 1 by omega, List.take_succ_cons]
theorem rng_len (zs : List Int) (a b : Nat) (h : a ≤ b) (hb : b ≤ zs.length) : (rng zs a b).length = b - a := by
  unfold rng
  rw [List.length_take, List.length_drop]; omega

def alB (a : Int) : Bool := a == 1 || a == 2
def brB (a b c d o m : Int) : Bool := (a == o && b == m && c == o) || (b == o && c == m && d == o)
/-- the program's order of the rules, between the second and the third of four kinds -/
def J (a b c d : Int) : Bool :=
  if (alB b && alB c) = true then true
  else if b = 5 then alB c || c == 5
  else if c = 5 then alB b
  else if b = 7 then c == 7
  else brB a b c d 1 3 || brB a b c d 2 4
def heB (a b c d o m : Int) : Bool := if (b == o && c == m) = true then d == o else b == m && c == o && a == o
/-- the document's order -/
def JR (a b c d : Int) : Bool :=
  if (alB b && alB c) = true then true
  else if (b == 5 && (alB c || c == 5)) = true then true
  else if (c == 5 && alB b) = true then true
  else if (b == 7 && c == 7) = true then true
  else heB a b c d 1 3 || heB a b c d 2 4
theorem he_br (a b c d o m : Int) (h : o ≠ m) : heB a b c d o m = brB a b c d o m := by
  unfold heB brB
  by_cases hb : b = o
  · subst hb
    by_cases hc : c = m
    · subst hc
      simp [h]
    · have hbm : (b == m) = false := beq_eq_false_iff_ne.2 h
      have hcm : (c == m) = false := beq_eq_false_iff_ne.2 hc
      simp [hcm, hbm]
  · simp [hb]
    cases hx : (b == m) <;> cases hy : (c == o) <;> cases hz : (a == o) <;> simp_all
theorem al_ne (b : Int) (h : alB b = true) : b ≠ 5 ∧ b ≠ 7 := by
  unfold alB at h
  simp at h
  omega
theorem J_eq (a b c d : Int) : JR a b c d = J a b c d := by
  unfold JR J
  rw [he_br _ _ _ _ _ _ (by decide), he_br _ _ _ _ _ _ (by decide)]
  by_cases h1 : (alB b && alB c) = true
  · rw [if_pos h1, if_pos h1]
  rw [if_neg h1, if_neg h1]
  by_cases h2 : b = 5
  · subst h2
    by_cases h3 : (alB c || c == 5) = true
    · simp [h3]
    · have h4 : (alB c || c == 5) = false := by simpa using h3
      have h5 : c ≠ 5 := by intro e; subst e; simp at h3
      simp [h4, h5, brB]
  · by_cases h3 : c = 5
    · subst h3
      by_cases h4 : alB b = true
      · simp [h2, h4]
      · have h4' : alB b = false := by simpa using h4
        by_cases h7 : b = 7
        · subst h7; simp [brB, alB]
        · simp [h2, h4', h7, brB]
    · by_cases h7 : b = 7
      · subst h7
        by_cases h8 : c = 7
        · subst h8; simp [alB]
        · simp [h8, h3, brB, alB]
      · simp [h2, h3, h7]
theorem J_left (c d : Int) : J 0 0 c d = false := by
  unfold J brB alB
  by_cases h : c = 5
  · subst h; rfl
  · simp [h]
theorem J_right (a b : Int) : J a b 0 0 = false := by
  unfold J brB alB
  by_cases h : b = 5
  · subst h; rfl
  · by_cases h7 : b = 7
    · subst h7; rfl
    · simp [h, h7]

/-- the kinds of all clusters -/
def KL (zs : List Int) : List Int := (cutsL (cls zs)).map (fun p => kOf zs p.1 p.2)
theorem KL_len (zs : List Int) : (KL zs).length = (bnds (cls zs)).length - 1 := by unfold KL; rw [List.length_map]; exact pairs_len _
/-- two places on the left -/
def gk (K : List Int) (j : Nat) : Int := (0 :: 0 :: K).getD j 0
theorem gk_out (K : List Int) (j : Nat) (h : K.length + 2 ≤ j) : gk K j = 0 := by
  unfold gk
  rw [List.getD_eq_getElem?_getD, List.getElem?_eq_none (by simp; omega)]; rfl
theorem gk_two (K : List Int) (j : Nat) : gk K (j + 2) = K.getD j 0 := by unfold gk; simp
def cutAt (K : List Int) (m : Nat) : Bool := !J (gk K m) (gk K (m + 1)) (gk K (m + 2)) (gk K (m + 3))
theorem cutAt_zero (K : List Int) : cutAt K 0 = true := by
  unfold cutAt
  rw [show gk K 0 = 0 from rfl, show gk K (0 + 1) = 0 from rfl, J_left]; rfl
theorem cutAt_end (K : List Int) : cutAt K K.length = true := by
  unfold cutAt
  rw [gk_out K (K.length + 2) (by omega), gk_out K (K.length + 3) (by omega), J_right]; rfl

theorem K_get (zs : List Int) (m a b : Nat) (ha : (bnds (cls zs))[m]? = some a) (hb : (bnds (cls zs))[m + 1]? = some b) : gk (KL zs) (m + 2) = kOf zs a b := by
  obtain ⟨h1, h2⟩ := List.getElem?_eq_some_iff.1 ha
  obtain ⟨h3, h4⟩ := List.getElem?_eq_some_iff.1 hb
  have hc : m < (cutsL (cls zs)).length := by
    have : (cutsL (cls zs)).length = (bnds (cls zs)).length - 1 := pairs_len _
    omega
  have hp : (cutsL (cls zs))[m] = (a, b) := (pairs_get (bnds (cls zs)) m h3).trans (by rw [h2, h4])
  rw [gk_two]
  unfold KL
  rw [List.getD_eq_getElem?_getD, List.getElem?_map, List.getElem?_eq_getElem hc, hp]; rfl

/-- where a boundary stands in the list of all -/
def ix (zs : List Int) (j : Nat) : Nat := (Bs (cls zs) j).length
theorem ix_get (zs : List Int) (i : Nat) (hi : i ≤ zs.length) (hb : bP (cls zs) i = true) : (bnds (cls zs))[ix zs i]? = some i := at_get (cls zs) i (by rw [cls_len]; exact hi) hb
theorem ix_zero (zs : List Int) : ix zs 0 = 0 := rfl
theorem ix_next (zs : List Int) (i r : Nat) (hb : bP (cls zs) i = true) (h : IsNext (cls zs) i r) : ix zs r = ix zs i + 1 := by
  obtain ⟨h1, h2, h3, h4⟩ := h
  have hg := Bs_gap (cls zs) (i + 1) (r - (i + 1)) (fun j hj1 hj2 => h4 j (by omega) (by omega))
  rw [show i + 1 + (r - (i + 1)) = r by omega] at hg
  unfold ix
  rw [hg, Bs_len_yes _ i hb]
theorem ix_prev (zs : List Int) (i r : Nat) (h : IsPrev (cls zs) i r) : ix zs i = ix zs r + 1 := by
  obtain ⟨h1, h3, h4⟩ := h
  have hg := Bs_gap (cls zs) (r + 1) (i - (r + 1)) (fun j hj1 hj2 => h4 j (by omega) (by omega))
  rw [show r + 1 + (i - (r + 1)) = i by omega] at hg
  unfold ix
  rw [hg, Bs_len_yes _ r h3]
theorem ix_end (zs : List Int) (h : 0 < zs.length) : ix zs zs.length = (KL zs).length := by
  have hp := bP_end (cls zs) (by rw [cls_len]; exact h)
  rw [KL_len]
  unfold ix bnds
  rw [Bs_len_yes (cls zs) _ hp, cls_len]; omega
theorem ix_of (zs : List Int) (k x : Nat) (h : (bnds (cls zs))[k]? = some x) : ix zs x = k := by
  obtain ⟨h1, h2⟩ := List.getElem?_eq_some_iff.1 h
  have hm := mem_bnds.1 (List.mem_of_getElem? h)
  rw [cls_len] at hm
  obtain ⟨h3, h4⟩ := List.getElem?_eq_some_iff.1 (ix_get zs x hm.1 hm.2)
  rcases Nat.lt_trichotomy (ix zs x) k with hl | hl | hl
  · have : (bnds (cls zs))[ix zs x] < (bnds (cls zs))[k] := Bs_lt _ _ _ k hl h1
    omega
  · exact hl
  · have : (bnds (cls zs))[k] < (bnds (cls zs))[ix zs x] := Bs_lt _ _ k _ hl h3
    omega

/-- the cluster before a boundary -/
theorem prevK (zs : List Int) (hn : 0 < zs.length) (i f : Nat) (hi : i ≤ zs.length) (hb : bP (cls zs) i = true) (h : PrevV (cls zs) i f) :
    kOf zs f i = gk (KL zs) (ix zs i + 1) ∧ f ≤ i ∧ bP (cls zs) f = true ∧ (0 < i → ix zs i = ix zs f + 1) ∧ (i = 0 → f = 0) := by
  rcases Nat.eq_zero_or_pos i with rfl | h0
  · have hf : f = 0 := h.2.1 (by omega)
    subst hf
    rw [kOf_self]
    exact ⟨rfl, Nat.le_refl _, hb, fun h => absurd h (by omega), fun _ => rfl⟩
  · have hp := h.2.2 i rfl h0 (by rw [cls_len]; exact hi)
    have hx := ix_prev zs i f hp
    obtain ⟨h1, h3, h4⟩ := hp
    refine ⟨?_, by omega, h3, fun _ => hx, fun h => absurd h (by omega)⟩
    rw [hx]
    exact (K_get zs (ix zs f) f i (ix_get zs f (by omega) h3) (by rw [← hx]; exact ix_get zs i hi hb)).symm
theorem nextK (zs : List Int) (hn : 0 < zs.length) (i t : Nat) (hi : i ≤ zs.length) (hb : bP (cls zs) i = true) (h : NextV (cls zs) i t) :
    kOf zs i t = gk (KL zs) (ix zs i + 2) ∧ i ≤ t ∧ t ≤ zs.length ∧ bP (cls zs) t = true ∧ (i < zs.length → ix zs t = ix zs i + 1) ∧ (i = zs.length → t = zs.length) := by
  have hL := cls_len zs
  by_cases h0 : i = zs.length
  · have hf : t = zs.length := by rw [h.2.1 (by rw [hL]; omega), hL]
    rw [hf, h0, kOf_self]
    refine ⟨?_, Nat.le_refl _, Nat.le_refl _, by rw [← h0]; exact hb, fun h => absurd h (by omega), fun _ => rfl⟩
    rw [gk_out _ _ (by rw [ix_end zs hn]; omega)]
  · have hp := h.2.2 i rfl (by omega)
    have hx := ix_next zs i t hb hp
    obtain ⟨h1, h2, h3, h4⟩ := hp
    rw [hL] at h2
    refine ⟨?_, by omega, h2, h3, fun _ => hx, fun h => absurd h h0⟩
    exact (K_get zs (ix zs i) i t (ix_get zs i hi hb) (by rw [← hx]; exact ix_get zs t h2 h3)).symm
theorem prevK2 (zs : List Int) (hn : 0 < zs.length) (i f p : Nat) (hi : i ≤ zs.length) (hb : bP (cls zs) i = true) (h : PrevV (cls zs) i f) (h2 : PrevV (cls zs) f p) :
    kOf zs p f = gk (KL zs) (ix zs i) ∧ p ≤ f := by
  obtain ⟨h3, h4, h5, h6, h7⟩ := prevK zs hn i f hi hb h
  obtain ⟨k3, k4, k5, k6, k7⟩ := prevK zs hn f p (by omega) h5 h2
  refine ⟨?_, k4⟩
  rcases Nat.eq_zero_or_pos i with rfl | h0
  · have hf := h7 rfl
    subst hf
    rw [k3]; rfl
  · rw [k3, h6 h0]
theorem nextK2 (zs : List Int) (hn : 0 < zs.length) (i t q : Nat) (hi : i ≤ zs.length) (hb : bP (cls zs) i = true) (h : NextV (cls zs) i t) (h2 : NextV (cls zs) t q) :
    kOf zs t q = gk (KL zs) (ix zs i + 3) ∧ t ≤ q ∧ q ≤ zs.length := by
  obtain ⟨h3, h4, h4', h5, h6, h7⟩ := nextK zs hn i t hi hb h
  obtain ⟨k3, k4, k4', k5, k6, k7⟩ := nextK zs hn t q h4' h5 h2
  refine ⟨?_, k4, k4'⟩
  by_cases h0 : i = zs.length
  · rw [k3, h7 h0, ix_end zs hn, gk_out _ _ (by omega), h0, ix_end zs hn, gk_out _ _ (by omega)]
  · rw [k3, h6 (by omega)]

/-- a boundary of clusters parts words -/
def wf (zs : List Int) (j : Nat) : Bool := cutAt (KL zs) (ix zs j)
/-- the word boundaries -/
def wbs (zs : List Int) : List Nat := (bnds (cls zs)).filter (wf zs)
def wbk (zs : List Int) (k : Nat) : List Nat := ((bnds (cls zs)).take k).filter (wf zs)
theorem mem_wbs {zs : List Int} {j : Nat} : j ∈ wbs zs ↔ j ≤ zs.length ∧ bP (cls zs) j = true ∧ wf zs j = true := by
  unfold wbs
  rw [List.mem_filter, mem_bnds, cls_len]
  constructor
  · rintro ⟨⟨a, b⟩, c⟩; exact ⟨a, b, c⟩
  · rintro ⟨a, b, c⟩; exact ⟨⟨a, b⟩, c⟩
theorem wbs_nil (zs : List Int) (h : zs.length = 0) : wbs zs = [] := by
  unfold wbs
  rw [bnds_nil _ (by rw [cls_len]; exact h)]; rfl
theorem wbs_pair (zs : List Int) : (wbs zs).Pairwise (· < ·) := ((List.pairwise_lt_range).filter _).filter _
theorem wbs_lt (zs : List Int) (a b : Nat) (hab : a < b) (hb : b < (wbs zs).length) : (wbs zs)[a]'(by omega) < (wbs zs)[b] := List.pairwise_iff_getElem.1 (wbs_pair zs) a b (by omega) hb hab
theorem wbs_le (zs : List Int) : (wbs zs).length ≤ zs.length + 1 := by
  have h1 : (wbs zs).length ≤ (bnds (cls zs)).length := List.length_filter_le _ _
  have h2 := Bs_len (cls zs) ((cls zs).length + 1)
  have h3 := cls_len zs
  unfold bnds at h1
  omega
theorem wbk_zero (zs : List Int) : wbk zs 0 = [] := rfl
theorem wbk_all (zs : List Int) : wbk zs (bnds (cls zs)).length = wbs zs := by unfold wbk wbs; rw [List.take_length]
theorem wbk_step (zs : List Int) (k x : Nat) (h : (bnds (cls zs))[k]? = some x) : wbk zs (k + 1) = wbk zs k ++ (if cutAt (KL zs) k = true then [x] else []) := by
  unfold wbk
  rw [List.take_add_one, h, List.filter_append]
  congr 1
  have : wf zs x = cutAt (KL zs) k := by unfold wf; rw [ix_of zs k x h]
  simp only [Option.toList]
  rw [List.filter_cons, this]
  rfl
theorem wbk_len (zs : List Int) (k : Nat) : (wbk zs k).length ≤ k := by
  have h1 : (wbk zs k).length ≤ ((bnds (cls zs)).take k).length := List.length_filter_le _ _
  rw [List.length_take] at h1
  omega
theorem wf_zero (zs : List Int) : wf zs 0 = true := cutAt_zero _
theorem wf_end (zs : List Int) (h : 0 < zs.length) : wf zs zs.length = true := by unfold wf; rw [ix_end zs h]; exact cutAt_end _
theorem zero_mem (zs : List Int) (h : 0 < zs.length) : 0 ∈ wbs zs := mem_wbs.2 ⟨by omega, bP_zero _ (by rw [cls_len]; exact h), wf_zero zs⟩
theorem end_mem (zs : List Int) (h : 0 < zs.length) : zs.length ∈ wbs zs := mem_wbs.2 ⟨by omega, by have := bP_end (cls zs) (by rw [cls_len]; exact h); rwa [cls_len] at this, wf_end zs h⟩
theorem wbs_two (zs : List Int) (h : 0 < zs.length) : 2 ≤ (wbs zs).length := by
  obtain ⟨p, hp, he⟩ := List.getElem_of_mem (zero_mem zs h)
  obtain ⟨q, hq, hf⟩ := List.getElem_of_mem (end_mem zs h)
  by_cases e : p = q
  · subst e; omega
  · omega
theorem wbs_first (zs : List Int) (h : 0 < zs.length) : (wbs zs)[0]? = some 0 := by
  have h2 := wbs_two zs h
  obtain ⟨p, hp, he⟩ := List.getElem_of_mem (zero_mem zs h)
  rcases Nat.eq_zero_or_pos p with rfl | h0
  · rw [List.getElem?_eq_getElem hp, he]
  · have := wbs_lt zs 0 p h0 hp
    omega
theorem wbs_last (zs : List Int) (h : 0 < zs.length) : (wbs zs)[(wbs zs).length - 1]? = some zs.length := by
  have h2 := wbs_two zs h
  obtain ⟨p, hp, he⟩ := List.getElem_of_mem (end_mem zs h)
  by_cases e : p = (wbs zs).length - 1
  · rw [← e, List.getElem?_eq_getElem hp, he]
  · have h3 := wbs_lt zs p ((wbs zs).length - 1) (by omega) (by omega)
    have h4 := (mem_wbs.1 (List.getElem_mem (show (wbs zs).length - 1 < (wbs zs).length by omega))).1
    omega

/-- a word boundary -/
def wP (zs : List Int) (j : Nat) : Bool := decide (j ∈ wbs zs)
def isW (zs : List Int) (i : Int) : Bool := isV (cls zs) i && wf zs i.toNat
theorem wP_eq (zs : List Int) (j : Nat) (hj : j ≤ zs.length) : wP zs j = (bP (cls zs) j && wf zs j) := by
  unfold wP
  rw [Bool.eq_iff_iff]
  simp only [decide_eq_true_eq, Bool.and_eq_true]
  rw [mem_wbs]
  exact ⟨fun h => h.2, fun h => ⟨hj, h⟩⟩
theorem isW_nat (zs : List Int) (j : Nat) (hj : j ≤ zs.length) : isW zs j = wP zs j := by
  unfold isW
  rw [isV_nat _ _ (by rw [cls_len]; exact hj), wP_eq zs j hj]; rfl
theorem isW_true (zs : List Int) (i : Int) : isW zs i = true ↔ ∃ j : Nat, i = j ∧ j ∈ wbs zs := by
  constructor
  · intro h
    unfold isW isV at h
    simp only [Bool.and_eq_true, decide_eq_true_eq] at h
    rw [cls_len] at h
    exact ⟨i.toNat, by omega, mem_wbs.2 ⟨by omega, h.1.2, h.2⟩⟩
  · rintro ⟨j, rfl, hj⟩
    rw [isW_nat zs j (mem_wbs.1 hj).1]
    unfold wP
    simpa using hj
theorem wP_no (zs : List Int) (j : Nat) (hj : j ≤ zs.length) (h : bP (cls zs) j = false) : wP zs j = false := by rw [wP_eq zs j hj, h]; rfl

/-- the word around a place -/
def AroV (zs : List Int) (i : Int) (a b : Nat) : Prop :=
  ((zs.length = 0 ∨ i < 0 ∨ zs.length < i) → a = 0 ∧ b = 0) ∧
  ∀ m j : Nat, i = m → m ≤ zs.length → 0 < zs.length → j = min m (zs.length - 1) → a ≤ j ∧ j < b ∧ b ≤ zs.length ∧ wP zs a = true ∧ wP zs b = true ∧ ∀ k, a < k → k < b → wP zs k = false
theorem AroV.unique {zs : List Int} {i : Int} {a b c d : Nat} (h : AroV zs i a b) (k : AroV zs i c d) : a = c ∧ b = d := by
  by_cases ho : zs.length = 0 ∨ i < 0 ∨ zs.length < i
  · obtain ⟨h1, h2⟩ := h.1 ho
    obtain ⟨k1, k2⟩ := k.1 ho
    exact ⟨h1.trans k1.symm, h2.trans k2.symm⟩
  · obtain ⟨m, rfl⟩ : ∃ m : Nat, i = m := ⟨i.toNat, by omega⟩
    obtain ⟨h1, h2, h3, h4, h5, h6⟩ := h.2 m _ rfl (by omega) (by omega) rfl
    obtain ⟨k1, k2, k3, k4, k5, k6⟩ := k.2 m _ rfl (by omega) (by omega) rfl
    refine ⟨?_, ?_⟩
    · rcases Nat.lt_trichotomy a c with hl | hl | hl
      · rw [h6 c hl (by omega)] at k4; cases k4
      · exact hl
      · rw [k6 a hl (by omega)] at h4; cases h4
    · rcases Nat.lt_trichotomy b d with hl | hl | hl
      · rw [k6 b (by omega) hl] at h5; cases h5
      · exact hl
      · rw [h6 d (by omega) hl] at k5; cases k5
/-- neighbours in the list are words -/
theorem wbs_gap (zs : List Int) (k x y : Nat) (hx : (wbs zs)[k]? = some x) (hy : (wbs zs)[k + 1]? = some y) : x < y ∧ y ≤ zs.length ∧ wP zs x = true ∧ wP zs y = true ∧ ∀ j, x < j → j < y → wP zs j = false := by
  obtain ⟨h1, h2⟩ := List.getElem?_eq_some_iff.1 hx
  obtain ⟨h3, h4⟩ := List.getElem?_eq_some_iff.1 hy
  have hlt := wbs_lt zs k (k + 1) (by omega) h3
  refine ⟨by omega, (mem_wbs.1 (List.mem_of_getElem? hy)).1, ?_, ?_, fun j hj1 hj2 => ?_⟩
  · unfold wP; simpa using List.mem_of_getElem? hx
  · unfold wP; simpa using List.mem_of_getElem? hy
  · cases hj : wP zs j with
    | false => rfl
    | true =>
      exfalso
      unfold wP at hj
      obtain ⟨q, hq, he⟩ := List.getElem_of_mem (of_decide_eq_true hj)
      by_cases hqk : q ≤ k
      · by_cases e : q = k
        · subst e; omega
        · have := wbs_lt zs q k (by omega) h1
          omega
      · by_cases e : q = k + 1
        · subst e; omega
        · have := wbs_lt zs (k + 1) q (by omega) hq
          omega
theorem aro_word (zs : List Int) (k x y : Nat) (i : Int) (hx : (wbs zs)[k]? = some x) (hy : (wbs zs)[k + 1]? = some y) (h : (x : Int) ≤ i ∧ i < y ∨ (y = zs.length ∧ i = y)) : AroV zs i x y := by
  obtain ⟨h1, h2, h3, h4, h5⟩ := wbs_gap zs k x y hx hy
  refine ⟨fun ho => by omega, fun m j hm hml hn hj => ?_⟩
  exact ⟨by omega, by omega, h2, h3, h4, h5⟩
theorem aro_none (zs : List Int) (i : Int) (h : ∀ (k : Nat) x y, (wbs zs)[k]? = some x → (wbs zs)[k + 1]? = some y → ¬ ((x : Int) ≤ i ∧ i < y ∨ (k + 2 = (wbs zs).length ∧ i = y))) : AroV zs i 0 0 := by
  refine ⟨fun _ => ⟨rfl, rfl⟩, fun m j hm hml hn hj => ?_⟩
  exfalso
  have h2 := wbs_two zs hn
  have hall : ∀ (k x : Nat), (wbs zs)[k]? = some x → (x : Int) ≤ i := by
    intro k
    induction k with
    | zero => intro x hx; rw [wbs_first zs hn] at hx; injection hx with hx; omega
    | succ k ih =>
      intro y hy
      have hk : k < (wbs zs).length := by have := (List.getElem?_eq_some_iff.1 hy).1; omega
      have hx := ih _ (List.getElem?_eq_getElem hk)
      have := h k _ y (List.getElem?_eq_getElem hk) hy
      omega
  have hl := wbs_last zs hn
  have hi := hall _ _ hl
  have hk : (wbs zs).length - 2 < (wbs zs).length := by omega
  exact h ((wbs zs).length - 2) _ zs.length (List.getElem?_eq_getElem hk) (by rw [show (wbs zs).length - 2 + 1 = (wbs zs).length - 1 by omega]; exact hl) (.inr ⟨by omega, by omega⟩)

/-- the kind of a range -/
def hasC (zs : List Int) (a b : Nat) (c : Int) : Bool := (rng zs a b).any (fun r => wd r == c)
def kindN (zs : List Int) (a b : Nat) : Int := if hasC zs a b 1 = true then 1 else if hasC zs a b 2 = true then 2 else if hasC zs a b 7 = true then 7 else 0
def kindV (zs : List Int) (a b : Int) : Int := if a < 0 ∨ b ≤ a ∨ zs.length < b then 0 else kindN zs a.toNat b.toNat
theorem hasC_none (zs : List Int) (a : Nat) (c : Int) : hasC zs a a c = false := by unfold hasC; rw [rng_self]; rfl
theorem hasC_step (zs : List Int) (a b : Nat) (c : Int) (h : a < b) (hb : b ≤ zs.length) : hasC zs a b c = (wd zs[a] == c || hasC zs (a + 1) b c) := by
  unfold hasC
  rw [rng_step zs a b h hb]; rfl
theorem kOf_step (zs : List Int) (a b : Nat) (h : a < b) (hb : b ≤ zs.length) : kOf zs a b = if wd zs[a] = 6 then kOf zs (a + 1) b else wd zs[a] := by
  unfold kOf
  rw [rng_step zs a b h hb]; rfl
/-- the number of words of letters or digits among the first k -/
def cntK (zs : List Int) (k : Nat) : Nat := ((pairs (wbs zs)).take k).countP (fun p => alB (kindV zs p.1 p.2))
def cntV (zs : List Int) : Nat := (pairs (wbs zs)).countP (fun p => alB (kindV zs p.1 p.2))
theorem cntK_zero (zs : List Int) : cntK zs 0 = 0 := rfl
theorem cntK_all (zs : List Int) (k : Nat) (h : (pairs (wbs zs)).length ≤ k) : cntK zs k = cntV zs := by unfold cntK cntV; rw [List.take_of_length_le h]
theorem cntK_le (zs : List Int) (k : Nat) : cntK zs k ≤ k := by
  unfold cntK
  have := List.countP_le_length (p := fun p : Nat × Nat => alB (kindV zs p.1 p.2)) (l := (pairs (wbs zs)).take k)
  rw [List.length_take] at this
  omega
theorem cntK_step (zs : List Int) (k x y : Nat) (hx : (wbs zs)[k]? = some x) (hy : (wbs zs)[k + 1]? = some y) : cntK zs (k + 1) = cntK zs k + (if alB (kindV zs x y) = true then 1 else 0) := by
  obtain ⟨h1, h2⟩ := List.getElem?_eq_some_iff.1 hx
  obtain ⟨h3, h4⟩ := List.getElem?_eq_some_iff.1 hy
  have hk : k < (pairs (wbs zs)).length := by rw [pairs_len]; omega
  have hp : (pairs (wbs zs))[k] = (x, y) := (pairs_get (wbs zs) k h3).trans (by rw [h2, h4])
  unfold cntK
  rw [List.take_add_one, List.getElem?_eq_getElem hk, hp, List.countP_append]
  congr 1
  simp only [Option.toList, List.countP_cons, List.countP_nil]
  omega
end Go.Proofs.Ytcplhbafbjpnlaa
