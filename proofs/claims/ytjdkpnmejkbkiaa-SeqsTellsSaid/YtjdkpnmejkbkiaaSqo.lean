/-
  What the program's Of holds between two runs, in memory: the sequences so far, apart from one another, and which of them waits for a run. No condition.
-/
import Derived.Test.YtjdkpnmejkbkiaaSqr
import Derived.Test.YtjdkpnmejkbkiaaXsi
set_option linter.unusedVariables false
set_option linter.unusedSimpArgs false
namespace Go.Proofs.Ytjdkpnmejkbkiaa
open Go.ChangeShapes Go.WideShapes Go.ChangeAt Go.RowKit Go.Sort

theorem lvF_bnd (b : Nat) (cs : List Int) (hb : b ≤ 125) (i : Nat) (hi : i < cs.length) : 0 ≤ lvF b cs i ∧ lvF b cs i ≤ 125 := by
  have h := (at_keeps b cs hb i hi (prev_keeps b cs hb i (by omega))).1
  unfold lvF
  omega
theorem lvI_lvs (b : Nat) (cs : List Int) : ∀ k, k ≤ cs.length → lvI b cs k = lvs (lvF b cs) k
  | 0, _ => rfl
  | k + 1, h => by
    rw [lvI_succ b cs k (by omega), lvI_lvs b cs k (by omega)]
    unfold lvs
    rw [List.range_succ, List.map_append]
    rfl
/-- sequences in memory -/
structure SqM (e : TypeId) (w : World) (B : Nat) (v : Value) (rows : List SqR) (l : List Sq) : Prop where
  nest : Nest LQ e SqR.sl w B v rows (l.map Sq.pl)
  vals : ∀ (i : Nat) r x, rows[i]? = some r → l[i]? = some x → r.lv = x.lv ∧ r.sos = x.sos ∧ r.eos = x.eos
section
variable {e : TypeId} {w w' : World} {B : Nat} {v v' : Value} {rows : List SqR} {l : List Sq} {y : SqR}
theorem SqM.len (h : SqM e w B v rows l) : rows.length = l.length := by have := h.nest.len; rwa [List.length_map] at this
theorem SqM.nil (e : TypeId) (w : World) (B : Nat) : SqM e w B (.slice none 0 0) [] [] := ⟨Nest.nil e w B, fun i r x h => by simp at h⟩
theorem SqM.below (h : SqM e w B v rows l) (hb : Below w.heap.size w w') : SqM e w' B v rows l := ⟨h.nest.below hb, h.vals⟩
theorem SqM.reads (h : SqM e w B v rows l) : ReadsQ w v l := by
  obtain ⟨A, c, hv, hc, hf, hh⟩ := h.nest.own.has
  rw [h.len] at hv
  refine ⟨A, c, rows, hv, hh, h.len, fun i r x hi hx => ?_⟩
  have hm := h.nest.inn i r x.pl hi (by rw [List.getElem?_map, hx]; rfl)
  obtain ⟨A2, c2, hv2, hc2, _, hh2⟩ := hm.size
  unfold SqR.sl at hv2
  injection hv2 with e1 e2 e3
  rw [ints_len] at e2 hc2
  subst e1
  exact ⟨e2, by omega, hh2, h.vals i r x hi hx⟩
theorem SqM.lit (h : SqM e w B v rows l) (hM : MineN LQ e w' B v' (rows ++ [y])) (hf : FarV w w' v v') (x : Sq) (hx : x.pl = []) (hy : y = ⟨none, 0, 0, x.lv, x.sos, x.eos⟩) : SqM e w' B v' (rows ++ [y]) (l ++ [x]) := by
  subst hy
  refine ⟨?_, fun i r z hi hz => ?_⟩
  · rw [List.map_append, List.map_cons, List.map_nil, hx]
    exact h.nest.push hM hf (Mine.nil_ _ _ _ _) (apart_nil _) fun i r _ => apart_nil _
  · rcases Nat.lt_or_ge i rows.length with h1 | h1
    · rw [List.getElem?_append_left h1] at hi
      rw [List.getElem?_append_left (by rw [← h.len]; exact h1)] at hz
      exact h.vals i r z hi hz
    · rw [List.getElem?_append_right h1] at hi
      rw [List.getElem?_append_right (by rw [← h.len]; exact h1)] at hz
      rw [h.len] at hi
      generalize i - l.length = q at *
      cases q with
      | zero => simp at hi hz; subst hi; subst hz; exact ⟨rfl, rfl, rfl⟩
      | succ q => simp at hi
/-- one of them is put in another's place -/
theorem SqM.put {i : Nat} {r r' : SqR} {x' : Sq} {w1 : World} (h : SqM e w B v rows l) (hi : rows[i]? = some r) (hf : FarV w w1 r.sl r'.sl) (hI : Mine .i64 3 w1 B r'.sl (ints x'.pl)) (hM : MineN LQ e w' B v (rows.set i r')) (hs : w1.heap.size ≤ w'.heap.size) (hk : ∀ b, v.ownBlock ≠ some b → w'.heap[b]? = w1.heap[b]?)
    (h1 : r'.lv = x'.lv ∧ r'.sos = x'.sos ∧ r'.eos = x'.eos) : SqM e w' B v (rows.set i r') (l.set i x') := by
  refine ⟨?_, fun j y z hj hz => ?_⟩
  · rw [List.map_set]
    exact h.nest.turn hi hf hI hM hs hk
  · have hlt := (List.getElem?_eq_some_iff.1 hi).1
    have hlt2 : i < l.length := by rw [← h.len]; exact hlt
    rw [List.getElem?_set] at hj hz
    by_cases he : i = j
    · subst he
      rw [if_pos rfl, if_pos hlt] at hj
      rw [if_pos rfl, if_pos hlt2] at hz
      injection hj with hj
      injection hz with hz
      subst hj; subst hz
      exact h1
    · rw [if_neg he] at hj hz
      exact h.vals j y z hj hz
end

theorem At.far {w w' : World} {v v' : Value} {g : Nat} {t : TypeId} {cs : Array Value} (h : At w g t cs) (hf : FarV w w' v v') (hne : v.ownBlock ≠ some g) : At w' g t cs := by
  unfold At; rw [(hf g h.lt hne).2]; exact h
theorem bef_bnd (b : Nat) (cs : List Int) (hb : b ≤ 1) {k : Nat} (hk : k < (rsL b cs).length) : 0 ≤ befR (lvF b cs) b (rsL b cs) k ∧ befR (lvF b cs) b (rsL b cs) k ≤ 1000 := by
  unfold befR
  split
  · omega
  · have := lvF_bnd b cs (by omega) _ (la_lt (b := b) (cs := cs) (k := k - 1) (by omega))
    omega
theorem aft_bnd (b : Nat) (cs : List Int) (hb : b ≤ 1) {k : Nat} (hk : k < (rsL b cs).length) : 0 ≤ aftR (lvF b cs) b (rsL b cs) k ∧ aftR (lvF b cs) b (rsL b cs) k ≤ 1000 := by
  unfold aftR
  split
  · omega
  · have := lvF_bnd b cs (by omega) _ (hd_lt (b := b) (cs := cs) (k := k + 1) (by omega))
    omega
theorem sorted_len : ∀ (l : List Nat) (a n : Nat), l.Pairwise (· < ·) → (∀ x ∈ l, a ≤ x ∧ x < n) → l.length + a ≤ n ∨ l = []
  | [], _, _, _, _ => .inr rfl
  | y :: l, a, n, hl, h => by
    have hy := h y (by simp)
    rw [List.pairwise_cons] at hl
    rcases sorted_len l (y + 1) n hl.2 fun x hx => ⟨hl.1 x hx, (h x (by simp [hx])).2⟩ with h1 | h1
    · left; simp; omega
    · subst h1; left; simp; omega
/-- a sequence has no more places than there are classes -/
theorem grp_len {b : Nat} {cs : List Int} {m : Nat} (hm : m ≤ (rsL b cs).length) {c : List Nat} (hc : c ∈ grpN b cs m) : (atS (rsL b cs) c).Pairwise (· < ·) ∧ (atS (rsL b cs) c).length ≤ cs.length := by
  have H := rs_x b cs
  obtain ⟨c1, c2⟩ := (inv_grpN (b := b) (cs := cs) m hm).chain c hc
  have hup := (chain_up (links b cs) c.length (c.headD 0)).1
  rw [← c2] at hup
  have hs : (atS (rsL b cs) c).Pairwise (· < ·) := by
    unfold atS
    rw [List.flatMap_def, List.pairwise_flatten]
    refine ⟨fun r hr => ?_, ?_⟩
    · obtain ⟨k, _, rfl⟩ := List.mem_map.1 hr
      exact H.sort k
    · rw [List.pairwise_map]
      exact hup.imp fun {k k'} h x hx y hy => H.up k k' x y hx hy h
  refine ⟨hs, ?_⟩
  have hin : ∀ x ∈ atS (rsL b cs) c, 0 ≤ x ∧ x < cs.length := fun x hx => by
    unfold atS at hx
    obtain ⟨k, _, hx⟩ := List.mem_flatMap.1 hx
    exact ⟨Nat.zero_le _, (in_kept hx).1⟩
  rcases sorted_len _ 0 cs.length hs hin with h | h
  · omega
  · rw [h]; simp
/-- between two runs -/
structure OfI (W : World) (b : Nat) (cs : List Int) (V : Value) (k : Nat) (v : Value) (w : World) (rows : List SqR) (aw : List Int) : Prop where
  sq : SqM 36 w W.heap.size v rows (seqN b cs k)
  awm : Mine .i64 3 w W.heap.size V aw
  awi : AwI b cs k aw
  apart : ApartN SqR.sl V v rows
  below : Below W.heap.size W w
/-- a run's sequence is found, or begun: sequence i, that has not got the run yet -/
structure OfM (W : World) (b : Nat) (cs : List Int) (V : Value) (k i : Nat) (v : Value) (w : World) (rows : List SqR) (aw : List Int) (sM : List Sq) (r : SqR) (x : Sq) (c : List Nat) : Prop where
  sq : SqM 36 w W.heap.size v rows sM
  hi : rows[i]? = some r
  hx : sM[i]? = some x
  goal : seqN b cs (k + 1) = sM.set i (sqN b cs (c ++ [k]))
  pl : (sqN b cs (c ++ [k])).pl = x.pl ++ (rsL b cs).getD k []
  lv : (sqN b cs (c ++ [k])).lv = x.lv
  sos : (sqN b cs (c ++ [k])).sos = x.sos
  eos : x.eos = 0
  lev : lvF b cs (hdR (rsL b cs) ((c ++ [k]).headD 0)) = lvF b cs (hdR (rsL b cs) k)
  awm : Mine .i64 3 w W.heap.size V aw
  aw0 : nxR cs (rsL b cs) k = none → AwI b cs (k + 1) aw
  aw1 : ∀ k', nxR cs (rsL b cs) k = some k' → AwI b cs (k + 1) (aw.set (hdR (rsL b cs) k') (i : Int))
  apart : ApartN SqR.sl V v rows
  below : Below W.heap.size W w
  mem : c ++ [k] ∈ grpN b cs (k + 1)
section
variable {W : World} {b : Nat} {cs : List Int} {V : Value} {k : Nat} {v v' : Value} {w w' : World} {rows : List SqR} {aw : List Int}
theorem flat_few : ∀ g : List (List Nat), (∀ c ∈ g, 0 < c.length) → g.length ≤ g.flatten.length
  | [], _ => by simp
  | c :: g, h => by
    have := flat_few g fun d hd => h d (by simp [hd])
    have := h c (by simp)
    rw [List.flatten_cons, List.length_append, List.length_cons]
    omega
theorem OfI.few (h : OfI W b cs V k v w rows aw) (hk : k ≤ (rsL b cs).length) : rows.length ≤ k := by
  have h1 := h.sq.len
  have h2 := (inv_grpN (b := b) (cs := cs) k hk).perm.length_eq
  have h4 := flat_few _ fun c hc => ((inv_grpN (b := b) (cs := cs) k hk).chain c hc).1
  rw [h2, List.length_range] at h4
  unfold seqN at h1
  rw [List.length_map] at h1
  omega
/-- a new sequence -/
theorem OfI.begin (h : OfI W b cs V k v w rows aw) (hk : k < (rsL b cs).length) (h0 : aw.getD (hdR (rsL b cs) k) 0 = -1) {y : SqR} (hy : y = ⟨none, 0, 0, lvF b cs (hdR (rsL b cs) k), dirC (lvF b cs (hdR (rsL b cs) k)) (befR (lvF b cs) b (rsL b cs) k), 0⟩)
    (hM : MineN LQ 36 w' W.heap.size v' (rows ++ [y])) (hf : FarV w w' v v') (hb : Below W.heap.size w w') : ∃ sM r x, OfM W b cs V k rows.length v' w' (rows ++ [y]) aw sM r x [] := by
  obtain ⟨at_, c, h1, h2, h3, h4⟩ := aw_step hk h.awi
  have hl : rows.length = (grpN b cs k).length := by have := h.sq.len; unfold seqN at this; rwa [List.length_map] at this
  rcases h2 with ⟨h2, rfl, h5, h6⟩ | ⟨h2, _⟩
  · have hx : (sqN b cs ([] ++ [k])).lv = lvF b cs (hdR (rsL b cs) k) := rfl
    obtain ⟨q1, q2⟩ := h.sq.nest.other (FarV.refl w V) h.apart
    refine ⟨seqN b cs k ++ [⟨[], lvF b cs (hdR (rsL b cs) k), dirC (lvF b cs (hdR (rsL b cs) k)) (befR (lvF b cs) b (rsL b cs) k), 0⟩], y, ⟨[], lvF b cs (hdR (rsL b cs) k), dirC (lvF b cs (hdR (rsL b cs) k)) (befR (lvF b cs) b (rsL b cs) k), 0⟩, h.sq.lit hM hf _ rfl (by rw [hy]), by rw [List.getElem?_append_right (Nat.le_refl _), Nat.sub_self]; rfl, by rw [h.sq.len, List.getElem?_append_right (Nat.le_refl _), Nat.sub_self]; rfl, ?_, by rw [List.nil_append, sq_new]; rfl, rfl, rfl, rfl, rfl,
      h.awm.stays (hf.same h.apart.1), h3, (by rw [h5] at h4; rw [hl]; exact h4), ⟨(hf.apart h.apart.1 fun b hb => (h.awm.own_lt b hb).2), fun i r hi => ?_⟩, h.below.trans hb, List.mem_of_getElem? h1⟩
    · show (grpN b cs (k + 1)).map _ = _
      have hsl : rows.length = ((grpN b cs k).map (sqN b cs)).length := by rw [List.length_map]; exact hl
      rw [h6, List.map_append]
      unfold seqN
      rw [hsl, List.set_append_right _ _ (Nat.le_refl _), Nat.sub_self]
      rfl
    · rcases Nat.lt_or_ge i rows.length with h7 | h7
      · rw [List.getElem?_append_left h7] at hi
        exact h.apart.2 i r hi
      · have : r = y := by
          rw [List.getElem?_append_right h7] at hi
          generalize i - rows.length = q at hi
          cases q with
          | zero => simp at hi; exact hi.symm
          | succ q => simp at hi
        rw [this, hy]
        exact fun b hb e => by cases e
  · rw [h0] at h2; omega
/-- one that waits -/
theorem OfI.found (h : OfI W b cs V k v w rows aw) (hk : k < (rsL b cs).length) {z : Int} (hz : aw.getD (hdR (rsL b cs) k) 0 = z) (h0 : z ≠ -1) : ∃ i : Nat, z = i ∧ i < rows.length ∧ ∃ sM r x c, OfM W b cs V k i v w rows aw sM r x c := by
  obtain ⟨at_, c, h1, h2, h3, h4⟩ := aw_step hk h.awi
  have hl : rows.length = (grpN b cs k).length := by have := h.sq.len; unfold seqN at this; rwa [List.length_map] at this
  rcases h2 with ⟨h2, _⟩ | ⟨h2, h5, h6, h7⟩
  · rw [hz] at h2; exact absurd h2 h0
  · have hlt := (List.getElem?_eq_some_iff.1 h5).1
    obtain ⟨r, hr⟩ : ∃ r, rows[at_]? = some r := ⟨_, List.getElem?_eq_getElem (by omega)⟩
    obtain ⟨p1, p2, p3⟩ := sq_more (b := b) (cs := cs) (m := k) h6
    have hlast : ∃ j, c.getLast? = some j ∧ pvR cs (rsL b cs) k = some j := by
      -- the run stands behind its last one
      have L := links b cs
      cases hp : pvR cs (rsL b cs) k with
      | none =>
        have := h.awi.free k (Nat.le_refl _) hk fun j hj => by rw [hp] at hj; cases hj
        rw [hz] at this
        exact absurd this h0
      | some j =>
        obtain ⟨i, d, g1, g2, g3⟩ := h.awi.wait k (Nat.le_refl _) hk j hp (L.up _ _ hp).1
        rw [hz, ← hz, h2] at g3
        have : at_ = i := by omega
        subst this
        rw [h5] at g1
        injection g1 with g1
        subst g1
        exact ⟨j, g2, rfl⟩
    obtain ⟨j, hj1, hj2⟩ := hlast
    have hnx := ((links b cs).link _ _).2 hj2
    have hld : c.getLastD 0 = j := by rw [List.getLastD_eq_getLast?, hj1]; rfl
    refine ⟨at_, by rw [← hz, h2], by omega, seqN b cs k, r, sqN b cs c, c, h.sq, hr, ?_, ?_, p1, p2, p3, ?_, ?_, h.awm, h3, h4, h.apart, h.below, List.mem_of_getElem? h1⟩
    · unfold seqN
      rw [List.getElem?_map, h5]; rfl
    · show (grpN b cs (k + 1)).map _ = _
      rw [h7, List.map_set]; rfl
    · show (if (nxR cs (rsL b cs) (c.getLastD 0)).isSome = true then (0 : Int) else _) = 0
      rw [hld, hnx]; rfl
    · exact (grp_lv (m := k + 1) (by omega) h1 k (by simp)).symm
variable {i : Nat} {sM l : List Sq} {r : SqR} {x : Sq} {c : List Nat}
theorem OfM.same (h : OfM W b cs V k i v w rows aw sM r x c) (hb : Below w.heap.size w w') : OfM W b cs V k i v w' rows aw sM r x c :=
  ⟨h.sq.below hb, h.hi, h.hx, h.goal, h.pl, h.lv, h.sos, h.eos, h.lev, h.awm.below hb, h.aw0, h.aw1, h.apart, h.below.trans (hb.mono h.below.size), h.mem⟩
theorem OfI.same (h : OfI W b cs V k v w rows aw) (hb : Below w.heap.size w w') : OfI W b cs V k v w' rows aw :=
  ⟨h.sq.below hb, h.awm.below hb, h.awi, h.apart, h.below.trans (hb.mono h.below.size)⟩
/-- the sequence has got the run -/
structure OfG (W : World) (b : Nat) (cs : List Int) (V : Value) (k i : Nat) (v : Value) (w : World) (rows : List SqR) (aw : List Int) (l : List Sq) (r : SqR) (x : Sq) (c : List Nat) : Prop where
  sq : SqM 36 w W.heap.size v rows l
  hi : rows[i]? = some r
  hx : l[i]? = some x
  goal : seqN b cs (k + 1) = l.set i (sqN b cs (c ++ [k]))
  pl : (sqN b cs (c ++ [k])).pl = x.pl
  lv : (sqN b cs (c ++ [k])).lv = x.lv
  sos : (sqN b cs (c ++ [k])).sos = x.sos
  eos : x.eos = 0
  lev : lvF b cs (hdR (rsL b cs) ((c ++ [k]).headD 0)) = lvF b cs (hdR (rsL b cs) k)
  awm : Mine .i64 3 w W.heap.size V aw
  aw0 : nxR cs (rsL b cs) k = none → AwI b cs (k + 1) aw
  aw1 : ∀ k', nxR cs (rsL b cs) k = some k' → AwI b cs (k + 1) (aw.set (hdR (rsL b cs) k') (i : Int))
  apart : ApartN SqR.sl V v rows
  below : Below W.heap.size W w
theorem OfM.grown {g m c7 : Nat} {A' : Option Addr} {n' c' : Nat} {w1 : World} (h : OfM W b cs V k i (.slice (some ⟨g, 0, none⟩) m c7) w rows aw sM r x c) (hI : Mine .i64 3 w1 W.heap.size (.slice A' n' c') (ints (x.pl ++ (rsL b cs).getD k []))) (hf : FarV w w1 r.sl (.slice A' n' c')) (hb : Below W.heap.size w w1) :
    ∃ rows' l r' x', OfG W b cs V k i (.slice (some ⟨g, 0, none⟩) m c7) (w1.setCell ⟨g, i * 4, none⟩ (.slice A' n' c')) rows' aw l r' x' c := by
  have hlt := (List.getElem?_eq_some_iff.1 h.hi).1
  have hlt2 := (List.getElem?_eq_some_iff.1 h.hx).1
  have hvo : Apart (.slice (some ⟨g, 0, none⟩) m c7) r.sl := (h.sq.nest.far i r h.hi).symm
  have hgB := (h.sq.nest.own.own_lt g rfl)
  obtain ⟨q1, q2⟩ : Mine .i64 3 w1 W.heap.size V aw ∧ Apart V (.slice A' n' c') := ⟨h.awm.stays (hf.same (h.apart.2 i r h.hi)), hf.apart (h.apart.2 i r h.hi) fun b hb => (h.awm.own_lt b hb).2⟩
  have hM1 : MineN LQ 36 w1 W.heap.size (.slice (some ⟨g, 0, none⟩) m c7) rows := h.sq.nest.own.stays (hf.same hvo)
  have hM2 := hM1.set (i := i) (q := 0) (x := r) (y := ⟨A', n', c', r.lv, r.sos, r.eos⟩) (u := .slice A' n' c') h.hi (by decide) rfl
  have hVg : V.ownBlock ≠ some g := fun e => h.apart.1 g e rfl
  have hv := h.sq.vals i r x h.hi h.hx
  refine ⟨rows.set i ⟨A', n', c', r.lv, r.sos, r.eos⟩, sM.set i ⟨x.pl ++ (rsL b cs).getD k [], x.lv, x.sos, x.eos⟩, ⟨A', n', c', r.lv, r.sos, r.eos⟩, ⟨x.pl ++ (rsL b cs).getD k [], x.lv, x.sos, x.eos⟩,
    h.sq.put h.hi (r' := ⟨A', n', c', r.lv, r.sos, r.eos⟩) (x' := ⟨x.pl ++ (rsL b cs).getD k [], x.lv, x.sos, x.eos⟩) hf hI hM2 (by simp) (fun b hb => Below.heap_setCell _ _ _ _ (fun e => hb (by rw [e]; rfl))) hv,
    List.getElem?_set_self hlt, List.getElem?_set_self hlt2, by rw [List.set_set]; exact h.goal, h.pl, h.lv, h.sos, h.eos, h.lev, ?_, h.aw0, h.aw1, ⟨h.apart.1, fun j y hj => ?_⟩, (h.below.trans hb).setCell hgB.1 _⟩
  · exact q1.stays fun b hb _ => Below.heap_setCell _ _ _ _ (fun e => hVg (by rw [hb, e]))
  · rw [List.getElem?_set] at hj
    by_cases he : i = j
    · subst he
      rw [if_pos rfl, if_pos hlt] at hj
      injection hj with hj
      subst hj
      exact q2
    · rw [if_neg he] at hj
      exact h.apart.2 j y hj
theorem OfM.next {g m c7 : Nat} {A' : Option Addr} {n' c' : Nat} {w1 : World} (h : OfM W b cs V k i (.slice (some ⟨g, 0, none⟩) m c7) w rows aw sM r x c) (hI : Mine .i64 3 w1 W.heap.size (.slice A' n' c') (ints (x.pl ++ (rsL b cs).getD k []))) (hf : FarV w w1 r.sl (.slice A' n' c')) (hb : Below W.heap.size w w1) :
    w1.cell? ⟨g, i * 4, none⟩ = some (.slice r.A r.n r.c) ∧ (∀ j, w1.frozen? ⟨g, j, none⟩ = false) ∧ ∀ w2, w1.setCell ⟨g, i * 4, none⟩ (.slice A' n' c') = w2 → ∃ rows' l r' x', OfG W b cs V k i (.slice (some ⟨g, 0, none⟩) m c7) w2 rows' aw l r' x' c := by
  have hvo : Apart (.slice (some ⟨g, 0, none⟩) m c7) r.sl := (h.sq.nest.far i r h.hi).symm
  have hM1 : MineN LQ 36 w1 W.heap.size (.slice (some ⟨g, 0, none⟩) m c7) rows := h.sq.nest.own.stays (hf.same hvo)
  exact ⟨hM1.cellAt (q := 0) h.hi rfl, hM1.free, fun w2 e => by subst e; exact h.grown hI hf hb⟩
theorem OfM.here {g m c7 : Nat} (h : OfM W b cs V k i (.slice (some ⟨g, 0, none⟩) m c7) w rows aw sM r x c) (hk : k < (rsL b cs).length) : w.cell? ⟨g, i * 4, none⟩ = some (.slice r.A r.n r.c) ∧ Mine .i64 3 w W.heap.size (.slice r.A r.n r.c) (ints x.pl) ∧ x.pl.length ≤ cs.length := by
  refine ⟨h.sq.nest.own.cellAt (q := 0) h.hi rfl, h.sq.nest.inn i r x.pl h.hi (by rw [List.getElem?_map, h.hx]; rfl), ?_⟩
  have h1 := (grp_len (m := k + 1) (by omega) h.mem).2
  have h2 := h.pl
  have h3 : (sqN b cs (c ++ [k])).pl = atS (rsL b cs) (c ++ [k]) := rfl
  rw [← h3, h2, List.length_append] at h1
  omega
theorem OfG.here {g m c7 : Nat} (h : OfG W b cs V k i (.slice (some ⟨g, 0, none⟩) m c7) w rows aw l r x c) : w.cell? ⟨g, i * 4 + 3, none⟩ = some (.int .i64 r.eos) ∧ ∀ j, w.frozen? ⟨g, j, none⟩ = false :=
  ⟨h.sq.nest.own.cellAt (q := 3) h.hi rfl, h.sq.nest.own.free⟩
theorem OfG.same (h : OfG W b cs V k i v w rows aw l r x c) (hb : Below w.heap.size w w') : OfG W b cs V k i v w' rows aw l r x c :=
  ⟨h.sq.below hb, h.hi, h.hx, h.goal, h.pl, h.lv, h.sos, h.eos, h.lev, h.awm.below hb, h.aw0, h.aw1, h.apart, h.below.trans (hb.mono h.below.size)⟩
/-- it ends with the run -/
theorem OfG.eos_ {g m c7 : Nat} (h : OfG W b cs V k i (.slice (some ⟨g, 0, none⟩) m c7) w rows aw l r x c) (hn : nxR cs (rsL b cs) k = none) {E : Int} (hE : E = dirC (lvF b cs (hdR (rsL b cs) k)) (if opnC (cs.getD (laR (rsL b cs) k) 0) = true then (b : Int) else aftR (lvF b cs) b (rsL b cs) k)) :
    ∃ rows', OfI W b cs V (k + 1) (.slice (some ⟨g, 0, none⟩) m c7) (w.setCell ⟨g, i * 4 + 3, none⟩ (.int .i64 E)) rows' aw := by
  have hlt := (List.getElem?_eq_some_iff.1 h.hi).1
  have hlt2 := (List.getElem?_eq_some_iff.1 h.hx).1
  have hgB := (h.sq.nest.own.own_lt g rfl)
  have hVg : V.ownBlock ≠ some g := fun e => h.apart.1 g e rfl
  have hv := h.sq.vals i r x h.hi h.hx
  have hM2 := h.sq.nest.own.set (i := i) (q := 3) (x := r) (y := ⟨r.A, r.n, r.c, r.lv, r.sos, E⟩) (u := .int .i64 E) h.hi (by decide) rfl
  have hI := h.sq.nest.inn i r x.pl h.hi (by rw [List.getElem?_map, h.hx]; rfl)
  have hld : (c ++ [k]).getLastD 0 = k := by simp
  have hEE : (sqN b cs (c ++ [k])).eos = E := by
    show (if (nxR cs (rsL b cs) ((c ++ [k]).getLastD 0)).isSome = true then (0 : Int) else eosN b cs ((c ++ [k]).headD 0) ((c ++ [k]).getLastD 0)) = E
    rw [hld, hn, if_neg (by simp)]
    unfold eosN
    rw [h.lev, hE]
  refine ⟨rows.set i ⟨r.A, r.n, r.c, r.lv, r.sos, E⟩, ?_, ?_, h.aw0 hn, ⟨h.apart.1, fun j y hj => ?_⟩, h.below.setCell hgB.1 _⟩
  · rw [h.goal]
    exact h.sq.put h.hi (r' := ⟨r.A, r.n, r.c, r.lv, r.sos, E⟩) (x' := sqN b cs (c ++ [k])) (FarV.refl _ _) (by rw [h.pl]; exact hI) hM2 (by simp) (fun b hb => Below.heap_setCell _ _ _ _ (fun e => hb (by rw [e]; rfl))) ⟨by rw [h.lv]; exact hv.1, by rw [h.sos]; exact hv.2.1, hEE.symm⟩
  · exact h.awm.stays fun b hb _ => Below.heap_setCell _ _ _ _ (fun e => hVg (by rw [hb, e]))
  · rw [List.getElem?_set] at hj
    by_cases he : i = j
    · subst he
      rw [if_pos rfl, if_pos hlt] at hj
      injection hj with hj
      subst hj
      exact h.apart.2 i r h.hi
    · rw [if_neg he] at hj
      exact h.apart.2 j y hj
/-- it waits for a later run -/
theorem OfG.wait {g n c9 : Nat} {k' : Nat} (h : OfG W b cs (.slice (some ⟨g, 0, none⟩) n c9) k i v w rows aw l r x c) (hn : nxR cs (rsL b cs) k = some k') (hl : hdR (rsL b cs) k' < aw.length) :
    OfI W b cs (.slice (some ⟨g, 0, none⟩) n c9) (k + 1) v (w.setCell ⟨g, hdR (rsL b cs) k', none⟩ (.int .i64 (i : Int))) rows (aw.set (hdR (rsL b cs) k') (i : Int)) := by
  have hgB := h.awm.own_lt g rfl
  have hv := h.sq.vals i r x h.hi h.hx
  have hlt2 := (List.getElem?_eq_some_iff.1 h.hx).1
  have hld : (c ++ [k]).getLastD 0 = k := by simp
  have hset : seqN b cs (k + 1) = l := by
    rw [h.goal]
    have hxx : sqN b cs (c ++ [k]) = x := by
      have he : (sqN b cs (c ++ [k])).eos = 0 := by
        show (if (nxR cs (rsL b cs) ((c ++ [k]).getLastD 0)).isSome = true then (0 : Int) else eosN b cs ((c ++ [k]).headD 0) ((c ++ [k]).getLastD 0)) = 0
        rw [hld, hn]; rfl
      have h1 := h.pl
      have h2 := h.lv
      have h3 := h.sos
      have h4 := h.eos
      generalize sqN b cs (c ++ [k]) = y at *
      cases y; cases x
      simp only at h1 h2 h3 h4 he
      subst h1; subst h2; subst h3; rw [h4, he]
    rw [hxx]
    apply List.ext_getElem?
    intro j
    rw [List.getElem?_set]
    by_cases he : i = j
    · subst he
      rw [if_pos rfl, if_pos hlt2]; exact h.hx.symm
    · rw [if_neg he]
  refine ⟨?_, h.awm.set _ hl _, h.aw1 k' hn, h.apart, h.below.setCell hgB.1 _⟩
  rw [hset]
  refine ⟨h.sq.nest.stays fun b hb _ => Below.heap_setCell _ _ _ _ (fun e => ?_), h.sq.vals⟩
  rcases hb with hb | ⟨j, y, hj, hb⟩
  · exact h.apart.1 g rfl (by rw [hb, e])
  · exact h.apart.2 j y hj g rfl (by rw [hb, e])
end
end Go.Proofs.Ytjdkpnmejkbkiaa
