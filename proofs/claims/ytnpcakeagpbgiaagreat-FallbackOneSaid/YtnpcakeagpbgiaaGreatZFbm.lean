/-
  Plain mathematics of layer 23: which glyph a font's mappings give a code point, whether they have a cluster, which of the fonts is picked, what the clusters of a text are shown in. No condition; no program text.
-/
import Derived.Test.YtnpcakeagpbgiaaGreatZFont
import Derived.Test.YtnpcakeagpbgiaaGreatTab
import Derived.Test.YtnpcakeagpbgiaaGreatGza
import Derived.Test.YtnpcakeagpbgiaaGreatZSpk
set_option linter.unusedVariables false
namespace Go.Proofs.YtnpcakeagpbgiaaGreat
open Go.ChangeShapes Go.WideShapes Go.ChangeAt Go.RowKit

/-- the place of the first mapping of r, or -1 -/
def atI (M : List mapS.Dat) (r : Int) : Int := match M.findIdx? (fun m => m.1 == r) with
  | some i => (i : Int)
  | none => -1
/-- the glyph of the first mapping of r, or 0 -/
def gF : List mapS.Dat → Int → Int
  | [], _ => 0
  | m :: M, r => if m.1 = r then m.2.1 else gF M r
/-- has r a mapping? -/
def inF (M : List mapS.Dat) (r : Int) : Bool := M.any (fun m => m.1 == r)
theorem gF_drop (M : List mapS.Dat) (k : Nat) (r : Int) (h : k < M.length) : gF (M.drop k) r = if (M[k]).1 = r then (M[k]).2.1 else gF (M.drop (k + 1)) r := by
  rw [List.drop_eq_getElem_cons h]; rfl
theorem inF_drop (M : List mapS.Dat) (k : Nat) (r : Int) (h : k < M.length) : inF (M.drop k) r = ((M[k]).1 == r || inF (M.drop (k + 1)) r) := by
  rw [List.drop_eq_getElem_cons h]; rfl
theorem gF_none : ∀ (M : List mapS.Dat) (r : Int), inF M r = false → gF M r = 0
  | [], _, _ => rfl
  | m :: M, r, h => by
    simp only [inF, List.any_cons, Bool.or_eq_false_iff, beq_eq_false_iff_ne, ne_eq] at h
    rw [gF, if_neg h.1]
    exact gF_none M r h.2
/-- the code point at k is the first of its kind: then the glyph is its -/
theorem gF_first : ∀ (M : List mapS.Dat) (k : Nat) (r : Int) (h : k < M.length), (M[k]).1 = r → (∀ j (hj : j < k), ¬ (M[j]'(by omega)).1 = r) → gF M r = (M[k]).2.1
  | m :: M, 0, r, h, he, _ => by rw [gF, if_pos (by simpa using he)]; rfl
  | m :: M, k + 1, r, h, he, hn => by
    rw [gF, if_neg (by simpa using hn 0 (by omega))]
    exact gF_first M k r (by simpa using h) (by simpa using he) fun j hj => by simpa using hn (j + 1) (by omega)
theorem atI_first (M : List mapS.Dat) (k : Nat) (r : Int) (h : k < M.length) (he : (M[k]).1 = r) (hn : ∀ j (hj : j < k), ¬ (M[j]'(by omega)).1 = r) : atI M r = k := by
  unfold atI
  rw [(List.findIdx?_eq_some_iff_getElem (p := fun m : mapS.Dat => m.1 == r) (xs := M) (i := k)).2 ⟨h, by simpa using he, fun j hj => by simpa using hn j hj⟩]
theorem atI_none (M : List mapS.Dat) (r : Int) (hn : ∀ j (hj : j < M.length), ¬ (M[j]).1 = r) : atI M r = -1 := by
  unfold atI
  rw [List.findIdx?_eq_none_iff.2 (fun m hm => by
    obtain ⟨j, hj, rfl⟩ := List.getElem_of_mem hm
    simpa using hn j hj)]
theorem atI_cases (M : List mapS.Dat) (r : Int) : (atI M r = -1 ∧ gF M r = 0 ∧ inF M r = false) ∨ ∃ k : Nat, ∃ h : k < M.length, atI M r = k ∧ gF M r = (M[k]).2.1 ∧ inF M r = true := by
  cases hi : M.findIdx? (fun m => m.1 == r) with
  | none =>
    have h := List.findIdx?_eq_none_iff.1 hi
    have h2 : inF M r = false := by
      rw [inF, List.any_eq_false]
      exact fun m hm => by simpa using h m hm
    exact .inl ⟨by unfold atI; rw [hi], gF_none M r h2, h2⟩
  | some k =>
    obtain ⟨h1, h2, h3⟩ := List.findIdx?_eq_some_iff_getElem.1 hi
    refine .inr ⟨k, h1, by unfold atI; rw [hi], gF_first M k r h1 (by simpa using h2) fun j hj => by simpa using h3 j hj, ?_⟩
    rw [inF, List.any_eq_true]
    exact ⟨_, List.getElem_mem h1, h2⟩

/-- does a code point need a glyph? -/
def needsB (r : Int) : Bool := !((ofP r).cl == 1 || (ofP r).cl == 2 || (ofP r).cl == 3 || (ofP r).cl == 5) && ((ofP r).bidi != 10 && decide ((ofP r).bidi < 15))
/-- have the mappings the code point, or does it need none? -/
def okB (M : List mapS.Dat) (r : Int) : Bool := !(needsB r && gF M r == 0)
/-- have they the cluster? -/
def hasB (M : List mapS.Dat) (t : List Int) : Bool := t.all (okB M)
theorem hasB_drop (M : List mapS.Dat) (t : List Int) (k : Nat) (h : k < t.length) : hasB M (t.drop k) = (okB M t[k] && hasB M (t.drop (k + 1))) := by
  rw [List.drop_eq_getElem_cons h]; rfl
/-- is a number that of one of so many? -/
def isB (n : Nat) (i : Int) : Bool := decide (0 ≤ i) && decide (i < (n : Int))
theorem isB_nat {n : Nat} {i : Int} (h : isB n i = true) : ∃ k : Nat, i = (k : Int) ∧ k < n := by
  simp only [isB, Bool.and_eq_true, decide_eq_true_eq] at h
  exact ⟨i.toNat, by omega, by omega⟩
/-- has the font of a number the cluster? -/
def hasAt (F : List (List mapS.Dat)) (i : Int) (t : List Int) : Bool := isB F.length i && hasB (F.getD i.toNat []) t
/-- has it the first code point? -/
def headAt (F : List (List mapS.Dat)) (i : Int) (t : List Int) : Bool := isB F.length i && (decide (0 < t.length) && gF (F.getD i.toNat []) (t.getD 0 0) != 0)
def firstI (F : List (List mapS.Dat)) (t : List Int) : Option Nat := F.findIdx? (fun M => hasB M t)
def lastI (F : List (List mapS.Dat)) (prefer : Int) (t : List Int) (ahead : Int) : Int :=
  if headAt F ahead t = true then ahead else if isB F.length prefer = true then prefer else 0
/-- the font that is picked -/
def pickF (F : List (List mapS.Dat)) (prefer : Int) (t : List Int) (ahead : Int) : Int :=
  if hasAt F prefer t = true then prefer else match firstI F t with
    | some i => (i : Int)
    | none => lastI F prefer t ahead
theorem firstI_some {F : List (List mapS.Dat)} {t : List Int} {k : Nat} (h : k < F.length) (he : hasB F[k] t = true) (hn : ∀ j (hj : j < k), hasB (F[j]'(by omega)) t = false) : firstI F t = some k :=
  List.findIdx?_eq_some_iff_getElem.2 ⟨h, he, fun j hj => by simpa using hn j hj⟩
theorem firstI_none {F : List (List mapS.Dat)} {t : List Int} (hn : ∀ j (hj : j < F.length), hasB F[j] t = false) : firstI F t = none :=
  List.findIdx?_eq_none_iff.2 fun M hM => by
    obtain ⟨j, hj, rfl⟩ := List.getElem_of_mem hM
    exact hn j hj
/-- what is picked has the cluster, where one of the fonts has it -/
theorem pick_has (F : List (List mapS.Dat)) (prefer : Int) (t : List Int) (ahead : Int) (k : Nat) (hk : k < F.length) (h : hasB F[k] t = true) : hasAt F (pickF F prefer t ahead) t = true := by
  unfold pickF
  split
  · assumption
  · cases hi : firstI F t with
    | none => exact absurd h (by simpa using List.findIdx?_eq_none_iff.1 hi F[k] (List.getElem_mem hk))
    | some i =>
      obtain ⟨h1, h2, _⟩ := List.findIdx?_eq_some_iff_getElem.1 hi
      simp only [hasAt, isB, Bool.and_eq_true, decide_eq_true_eq]
      refine ⟨⟨by omega, by omega⟩, ?_⟩
      rw [Int.toNat_natCast, List.getD_eq_getElem?_getD, List.getElem?_eq_getElem h1]
      exact h2
/-- one font alone, or none -/
theorem pick_one (M : List mapS.Dat) (prefer : Int) (t : List Int) (ahead : Int) : pickF [M] prefer t ahead = 0 := by
  have hz : ∀ i : Int, isB [M].length i = true → i = 0 := fun i h => by
    obtain ⟨k, rfl, hk⟩ := isB_nat h
    simp at hk; omega
  unfold pickF
  split
  · next h => exact hz _ (by simp only [hasAt, Bool.and_eq_true] at h; exact h.1)
  · cases hi : firstI [M] t with
    | none =>
      show lastI [M] prefer t ahead = 0
      unfold lastI
      split
      · next h => exact hz _ (by simp only [headAt, Bool.and_eq_true] at h; exact h.1)
      · split
        · next h => exact hz _ h
        · rfl
    | some i =>
      obtain ⟨h1, _⟩ := List.findIdx?_eq_some_iff_getElem.1 hi
      have : i = 0 := by simpa using h1
      simp [this]
theorem pick_none (prefer : Int) (t : List Int) (ahead : Int) : pickF [] prefer t ahead = 0 := by
  have hz : ∀ i : Int, isB 0 i = false := fun i => by
    rcases Int.lt_or_le i 0 with h | h
    · simp [isB, h]
    · simp [isB, h]
  simp [pickF, hasAt, firstI, lastI, headAt, hz]
/-- the font of the cluster ahead of the boundary i, of boundaries b -/
def ahF (F : List (List mapS.Dat)) (prefer : List S5.Sp) (t : List Int) (b : List Nat) : Nat → Int
  | 0 => -1
  | i + 1 => pickF F (S5.atP prefer (b.getD i 0)) ((t.take (b.getD (i + 1) 0)).drop (b.getD i 0)) (ahF F prefer t b i)
/-- the value of each place ahead of the boundary i -/
def pvF (F : List (List mapS.Dat)) (prefer : List S5.Sp) (t : List Int) (b : List Nat) : Nat → List Int
  | 0 => []
  | i + 1 => pvF F prefer t b i ++ List.replicate (b.getD (i + 1) 0 - b.getD i 0) (ahF F prefer t b (i + 1))
/-- the value of each place of a text -/
def valsF (F : List (List mapS.Dat)) (prefer : List S5.Sp) (t : List Int) : List Int := pvF F prefer t (bnds (cls t)) ((bnds (cls t)).length - 1)
/-- what a text is shown in -/
def ofF (F : List (List mapS.Dat)) (prefer : List S5.Sp) (t : List Int) : List S5.Sp := S5.of (valsF F prefer t)
section
variable {F : List (List mapS.Dat)} {prefer : List S5.Sp} {t : List Int} {b : List Nat}
/-- boundaries that rise from 0 -/
def RiseB (b : List Nat) : Prop := b.getD 0 0 = 0 ∧ ∀ i, i + 1 < b.length → b.getD i 0 < b.getD (i + 1) 0
theorem pvF_len (hb : RiseB b) : ∀ i, i < b.length → (pvF F prefer t b i).length = b.getD i 0
  | 0, _ => by rw [hb.1]; rfl
  | i + 1, h => by
    have := hb.2 i h
    rw [pvF, List.length_append, List.length_replicate, pvF_len hb i (by omega)]
    omega
theorem RiseB.mono (hb : RiseB b) : ∀ (d i : Nat), i + d < b.length → b.getD i 0 ≤ b.getD (i + d) 0
  | 0, i, _ => Nat.le_refl _
  | d + 1, i, h => by
    have h1 := hb.mono d i (by omega)
    have h2 := hb.2 (i + d) (by omega)
    rw [show i + (d + 1) = i + d + 1 by omega]; omega
/-- the value of a place of the cluster i -/
theorem pvF_get (hb : RiseB b) (i : Nat) : ∀ (m j : Nat), i + 1 ≤ m → m < b.length → b.getD i 0 ≤ j → j < b.getD (i + 1) 0 → (pvF F prefer t b m)[j]? = some (ahF F prefer t b (i + 1))
  | 0, _, h, _, _, _ => by omega
  | m + 1, j, h, hm, h1, h2 => by
    have hl := pvF_len (F := F) (prefer := prefer) (t := t) hb m (by omega)
    rw [pvF]
    by_cases he : i = m
    · subst he
      rw [List.getElem?_append_right (by omega), List.getElem?_replicate, if_pos (by omega)]
    · have hmo := hb.mono (m - (i + 1)) (i + 1) (by omega)
      rw [show i + 1 + (m - (i + 1)) = m by omega] at hmo
      rw [List.getElem?_append_left (by omega)]
      exact pvF_get hb i m j (by omega) (by omega) h1 h2
/-- between two places of one cluster the value does not turn -/
theorem pvF_same (hb : RiseB b) (m j : Nat) (hm : m < b.length) (hj : j + 1 < b.getD m 0) (hn : ∀ i, i < b.length → b.getD i 0 ≠ j + 1) : (pvF F prefer t b m)[j]? = (pvF F prefer t b m)[j + 1]? := by
  have ex : ∀ m, m < b.length → j + 1 < b.getD m 0 → ∃ i, i + 1 ≤ m ∧ b.getD i 0 ≤ j ∧ j + 1 < b.getD (i + 1) 0 := fun m => by
    induction m with
    | zero => intro _ h; rw [hb.1] at h; omega
    | succ m ih =>
      intro hm h
      by_cases h2 : j + 1 < b.getD m 0
      · obtain ⟨i, a, c⟩ := ih (by omega) h2
        exact ⟨i, by omega, c⟩
      · exact ⟨m, Nat.le_refl _, by have := hn m (by omega); omega, h⟩
  obtain ⟨i, h1, h2, h3⟩ := ex m hm hj
  rw [pvF_get hb i m j h1 hm h2 (by omega), pvF_get hb i m (j + 1) h1 hm (by omega) h3]
end
theorem bnds_rise (L : List Int) : RiseB (bnds L) := by
  refine ⟨?_, fun i hi => ?_⟩
  · by_cases h : L.length = 0
    · rw [bnds_nil L h]; rfl
    · have h0 := bP_zero L (by omega)
      have hp : bnds L = 0 :: (List.range' 1 L.length).filter (bP L) := by
        unfold bnds Bs
        rw [List.range_eq_range', List.range'_succ, List.filter_cons, if_pos h0]
      rw [hp]; rfl
  · have := Bs_lt L (L.length + 1) i (i + 1) (by omega) hi
    rw [List.getD_eq_getElem?_getD, List.getD_eq_getElem?_getD, List.getElem?_eq_getElem (show i < (bnds L).length by omega), List.getElem?_eq_getElem hi]
    exact this
/-- what a text is shown in is no longer than the text -/
theorem vals_len (F : List (List mapS.Dat)) (prefer : List S5.Sp) (t : List Int) : (valsF F prefer t).length ≤ t.length := by
  unfold valsF
  rcases Nat.eq_zero_or_pos (bnds (cls t)).length with h | h
  · rw [h]; simp [pvF]
  · rw [pvF_len (bnds_rise _) _ (by omega), List.getD_eq_getElem?_getD, List.getElem?_eq_getElem (show (bnds (cls t)).length - 1 < (bnds (cls t)).length by omega)]
    have := (mem_bnds.1 (List.getElem_mem (show (bnds (cls t)).length - 1 < (bnds (cls t)).length by omega))).1
    rw [cls_len] at this
    exact this
theorem ofF_len (F : List (List mapS.Dat)) (prefer : List S5.Sp) (t : List Int) (m : Nat) (h : t.length ≤ m) : (ofF F prefer t).length ≤ m :=
  Nat.le_trans (S5.length_of _) (Nat.le_trans (vals_len F prefer t) h)
theorem vals_len_eq (F : List (List mapS.Dat)) (prefer : List S5.Sp) (t : List Int) : (valsF F prefer t).length = t.length := by
  unfold valsF
  rcases Nat.eq_zero_or_pos t.length with h | h
  · rw [bnds_nil _ (by rw [cls_len]; exact h), h]; rfl
  · have hl := cls_len t
    have hz : 0 < (bnds (cls t)).length := List.length_pos_of_mem (mem_bnds.2 ⟨Nat.zero_le _, bP_zero _ (by omega)⟩)
    have hlast : t.length ∈ bnds (cls t) := mem_bnds.2 ⟨by omega, by rw [← hl]; exact bP_end _ (by omega)⟩
    obtain ⟨j, hj, hje⟩ := List.getElem_of_mem hlast
    have hmo := (bnds_rise (cls t)).mono ((bnds (cls t)).length - 1 - j) j (by omega)
    rw [show j + ((bnds (cls t)).length - 1 - j) = (bnds (cls t)).length - 1 by omega] at hmo
    have h1 : (bnds (cls t)).getD j 0 = t.length := by rw [List.getD_eq_getElem?_getD, List.getElem?_eq_getElem hj]; exact hje
    have h2 := (mem_bnds.1 (List.getElem_mem (show (bnds (cls t)).length - 1 < (bnds (cls t)).length by omega))).1
    have h3 : (bnds (cls t)).getD ((bnds (cls t)).length - 1) 0 = (bnds (cls t))[(bnds (cls t)).length - 1] := by
      rw [List.getD_eq_getElem?_getD, List.getElem?_eq_getElem (show (bnds (cls t)).length - 1 < (bnds (cls t)).length by omega)]; rfl
    rw [pvF_len (bnds_rise _) _ (by omega), h3]
    rw [h1, h3] at hmo
    omega
theorem ofF_whole (F : List (List mapS.Dat)) (prefer : List S5.Sp) (t : List Int) : S5.wholeB (ofF F prefer t) t.length = true := by
  have := S5.whole_of (valsF F prefer t)
  rwa [vals_len_eq] at this
/-- the font of a cluster -/
theorem ofF_at (F : List (List mapS.Dat)) (prefer : List S5.Sp) (t : List Int) (i : Nat) (h : i + 1 < (bnds (cls t)).length) : S5.atP (ofF F prefer t) ((bnds (cls t)).getD i 0 : Nat) = ahF F prefer t (bnds (cls t)) (i + 1) := by
  have hr := bnds_rise (cls t)
  have hg := pvF_get (F := F) (prefer := prefer) (t := t) hr i ((bnds (cls t)).length - 1) ((bnds (cls t)).getD i 0) (by omega) (by omega) (Nat.le_refl _) (hr.2 i h)
  obtain ⟨h1, h2⟩ := List.getElem?_eq_some_iff.1 hg
  have h3 := S5.atP_of _ _ h1
  rw [h2] at h3
  exact h3
/-- each span begins at a boundary -/
theorem ofF_start (F : List (List mapS.Dat)) (prefer : List S5.Sp) (t : List Int) (s : S5.Sp) (hs : s ∈ ofF F prefer t) : isV (cls t) s.f = true := by
  have hlen := vals_len_eq F prefer t
  have hs' : s ∈ S5.of ((valsF F prefer t).take (valsF F prefer t).length) := by rw [List.take_length]; exact hs
  have hpos : 0 < t.length := by
    rcases Nat.eq_zero_or_pos t.length with h | h
    · rw [List.eq_nil_of_length_eq_zero (show (valsF F prefer t).length = 0 by omega)] at hs'
      simp [S5.of] at hs'
    · exact h
  rcases S5.of_starts _ _ (Nat.le_refl _) s hs' with h | ⟨j, hj, hlt, hne⟩
  · rw [h]
    have := isV_nat (cls t) 0 (Nat.zero_le _)
    rw [show ((0 : Nat) : Int) = 0 from rfl] at this
    rw [this]
    exact bP_zero _ (by rw [cls_len]; exact hpos)
  · rw [hj, isV_nat _ _ (by rw [cls_len]; omega)]
    rcases Bool.eq_false_or_eq_true (bP (cls t) (j + 1)) with hb | hb
    · exact hb
    · exfalso
      apply hne
      have hz : 0 < (bnds (cls t)).length := List.length_pos_of_mem (mem_bnds.2 ⟨Nat.zero_le _, bP_zero _ (by rw [cls_len]; omega)⟩)
      refine pvF_same (bnds_rise _) _ j (by omega) ?_ fun i hi hji => ?_
      · have := pvF_len (F := F) (prefer := prefer) (t := t) (bnds_rise (cls t)) ((bnds (cls t)).length - 1) (by omega)
        unfold valsF at hlt
        omega
      · have hm := (mem_bnds.1 (List.getElem_mem hi)).2
        rw [List.getD_eq_getElem?_getD, List.getElem?_eq_getElem hi] at hji
        have hji : (bnds (cls t))[i] = j + 1 := hji
        rw [hji, hb] at hm
        cases hm
/-- where all is shown in the font 0 -/
theorem pvF_zero {F : List (List mapS.Dat)} {prefer : List S5.Sp} {t : List Int} {b : List Nat} (hb : RiseB b) (h0 : ∀ p us a, pickF F p us a = 0) : ∀ i, i < b.length → pvF F prefer t b i = List.replicate (b.getD i 0) 0
  | 0, _ => by rw [hb.1]; rfl
  | i + 1, h => by
    have := hb.2 i h
    have ha : ahF F prefer t b (i + 1) = 0 := h0 _ _ _
    rw [pvF, pvF_zero hb h0 i (by omega), ha, List.replicate_append_replicate]
    congr 1; omega
theorem ofF_zero (F : List (List mapS.Dat)) (prefer : List S5.Sp) (t : List Int) (h0 : ∀ p us a, pickF F p us a = 0) : ofF F prefer t = if 0 < t.length then [⟨0, t.length, 0⟩] else [] := by
  have hl := vals_len_eq F prefer t
  have hv : valsF F prefer t = List.replicate t.length 0 := by
    rcases Nat.eq_zero_or_pos (bnds (cls t)).length with h | h
    · have : t.length = 0 := by
        rw [← hl]; unfold valsF; rw [h]; rfl
      rw [this]
      exact List.eq_nil_of_length_eq_zero (by omega)
    · have hz := pvF_zero (prefer := prefer) (t := t) (bnds_rise (cls t)) h0 ((bnds (cls t)).length - 1) (by omega)
      have h1 : valsF F prefer t = List.replicate ((bnds (cls t)).getD ((bnds (cls t)).length - 1) 0) 0 := hz
      rw [h1, List.length_replicate] at hl
      rw [h1, hl]
  unfold ofF
  rw [hv]
  split
  · next h =>
    have := S5.of_replicate [] 0 t.length h
    rw [List.nil_append] at this
    rw [this]
    show S5.ext [] _ _ = _
    rw [S5.ext_nil _ _ (by simp; omega)]
    simp
  · next h =>
    rw [show t.length = 0 by omega]; rfl
theorem needs_zwj : needsB 8205 = false := by kernel_rfl
theorem needs_lre : needsB 8234 = false := by kernel_rfl
theorem pick_stay (M N : List mapS.Dat) (a : Int) : pickF [M, N] 1 [8205, 8234] a = 1 := by
  have h : hasAt [M, N] 1 [8205, 8234] = true := by
    simp [hasAt, isB, hasB, okB, needs_zwj, needs_lre]
  unfold pickF
  rw [if_pos h]
end Go.Proofs.YtnpcakeagpbgiaaGreat
