/-
  Mathematics of explicit levels: the stack of entries and its three counters, sign by sign; levels and classes; what holds of the stack throughout; that without explicit signs nothing changes, and that the contents of an isolate do not matter outside. No program, no condition.
-/
import Derived.Test.YtjdkpnmejkbkiaaDep
set_option linter.unusedVariables false
set_option linter.unusedSimpArgs false
namespace Go.Proofs.Ytjdkpnmejkbkiaa

/-- an entry of the stack: level, override (0 none, 1 L, 2 R), isolate -/
structure En where
  lv : Nat
  ov : Nat
  iso : Bool
/-- the stack (the last entry at the end) and three counters -/
structure Xs where
  l : List En
  isos : Nat
  embs : Nat
  vals : Nat
def nextL (n : Nat) (odd : Bool) : Nat := if ((n + 1) % 2 == 1) = odd then n + 1 else n + 2
def lastE (l : List En) : En := l.getLastD ⟨0, 0, false⟩
def roomX (s : Xs) (n : Nat) : Bool := decide (n ≤ 125) && (s.isos == 0 && s.embs == 0)
def ovC (c : Int) : Nat := if c = 16 then 1 else if c = 18 then 2 else 0
def embedX (s : Xs) (c : Int) : Xs :=
  if roomX s (nextL (lastE s.l).lv (c == 17 || c == 18)) = true then ⟨s.l ++ [⟨nextL (lastE s.l).lv (c == 17 || c == 18), ovC c, false⟩], s.isos, s.embs, s.vals⟩
  else if s.isos = 0 then ⟨s.l, s.isos, s.embs + 1, s.vals⟩ else s
def isoX (s : Xs) (odd : Bool) : Xs :=
  if roomX s (nextL (lastE s.l).lv odd) = true then ⟨s.l ++ [⟨nextL (lastE s.l).lv odd, 0, true⟩], s.isos, s.embs, s.vals + 1⟩
  else ⟨s.l, s.isos + 1, s.embs, s.vals⟩
def cutX (l : List En) : List En := (l.reverse.dropWhile (fun e => !e.iso)).tail.reverse
def endX (s : Xs) : Xs := if 0 < s.isos then ⟨s.l, s.isos - 1, s.embs, s.vals⟩ else if s.vals = 0 then s else ⟨cutX s.l, s.isos, 0, s.vals - 1⟩
def popX (s : Xs) : Xs :=
  if 0 < s.isos then s else if 0 < s.embs then ⟨s.l, s.isos, s.embs - 1, s.vals⟩
  else if (lastE s.l).iso = false ∧ 1 < s.l.length then ⟨s.l.dropLast, s.isos, s.embs, s.vals⟩ else s
def begX (b : Nat) : Xs := ⟨[⟨b, 0, false⟩], 0, 0, 0⟩
def ownX (s : Xs) (c : Int) : Int := if (lastE s.l).ov ≠ 0 then ((lastE s.l).ov : Int) else c
def remC (c : Int) : Bool := c == 15 || (c == 17 || (c == 16 || (c == 18 || (c == 19 || c == 10))))
/-- one sign: the state behind it, its level, its class -/
def stepX (b : Nat) (s : Xs) (prev : Nat) (c : Int) (r : Bool) : Xs × Nat × Int :=
  if remC c = true then ((if c = 19 then popX s else if c = 10 then s else embedX s c), prev, 10)
  else if c = 20 ∨ c = 21 then (isoX s (c == 21), (lastE s.l).lv, ownX s c)
  else if c = 22 then (isoX s r, (lastE s.l).lv, ownX s c)
  else if c = 23 then (endX s, (lastE (endX s).l).lv, ownX (endX s) c)
  else if c = 11 then (begX b, b, c)
  else (s, (lastE s.l).lv, ownX s c)
def raC (c : Int) : Bool := c == 2 || c == 3
/-- each class, and whether an FSI there isolates from right to left -/
def toks : List Int → List (Int × Bool)
  | [] => []
  | c :: l => (c, raC (fstI 0 l)) :: toks l
def goX (b : Nat) : Xs × Nat → List (Int × Bool) → Xs × Nat
  | p, [] => p
  | p, t :: ts => goX b ((stepX b p.1 p.2 t.1 t.2).1, (stepX b p.1 p.2 t.1 t.2).2.1) ts
def outX (b : Nat) : Xs × Nat → List (Int × Bool) → List (Nat × Int)
  | p, [] => []
  | p, t :: ts => (stepX b p.1 p.2 t.1 t.2).2 :: outX b ((stepX b p.1 p.2 t.1 t.2).1, (stepX b p.1 p.2 t.1 t.2).2.1) ts
theorem goX_append (b : Nat) : ∀ (u v : List (Int × Bool)) (p : Xs × Nat), goX b p (u ++ v) = goX b (goX b p u) v
  | [], v, p => rfl
  | t :: u, v, p => by rw [List.cons_append, goX, goX]; exact goX_append b u v _
theorem outX_append (b : Nat) : ∀ (u v : List (Int × Bool)) (p : Xs × Nat), outX b p (u ++ v) = outX b p u ++ outX b (goX b p u) v
  | [], v, p => rfl
  | t :: u, v, p => by rw [List.cons_append, outX, outX, goX, outX_append b u v, List.cons_append]
theorem outX_len (b : Nat) : ∀ (u : List (Int × Bool)) (p : Xs × Nat), (outX b p u).length = u.length
  | [], p => rfl
  | t :: u, p => by rw [outX, List.length_cons, List.length_cons, outX_len b u]
theorem toks_len : ∀ l : List Int, (toks l).length = l.length
  | [] => rfl
  | c :: l => by rw [toks, List.length_cons, List.length_cons, toks_len l]
theorem toks_get : ∀ (l : List Int) (i : Nat), i < l.length → (toks l)[i]? = some (l.getD i 0, raC (fstI 0 (l.drop (i + 1))))
  | [], i, h => by simp at h
  | c :: l, 0, h => by simp [toks]
  | c :: l, i + 1, h => by
    rw [toks, List.getElem?_cons_succ, toks_get l i (by simpa using h)]
    simp

/-- the state before place i, the level before it; what was told up to it -/
def stN (b : Nat) (cs : List Int) (i : Nat) : Xs × Nat := goX b (begX b, b) ((toks cs).take i)
def outN (b : Nat) (cs : List Int) (i : Nat) : List (Nat × Int) := outX b (begX b, b) ((toks cs).take i)
def lvN (b : Nat) (cs : List Int) (i : Nat) : List Nat := (outN b cs i).map (·.1)
def clN (b : Nat) (cs : List Int) (i : Nat) : List Int := (outN b cs i).map (·.2)
def lvL (b : Nat) (cs : List Int) : List Nat := lvN b cs cs.length
def clL (b : Nat) (cs : List Int) : List Int := clN b cs cs.length
/-- what is told at place i -/
def atN (b : Nat) (cs : List Int) (i : Nat) : Xs × Nat × Int := stepX b (stN b cs i).1 (stN b cs i).2 (cs.getD i 0) (raC (fstI 0 (cs.drop (i + 1))))
theorem take_snoc {α : Type} (l : List α) (i : Nat) (x : α) (h : l[i]? = some x) : l.take (i + 1) = l.take i ++ [x] := by
  rw [List.take_add_one, h]; rfl
theorem stN_succ (b : Nat) (cs : List Int) (i : Nat) (h : i < cs.length) : stN b cs (i + 1) = ((atN b cs i).1, (atN b cs i).2.1) := by
  unfold stN atN
  rw [take_snoc _ _ _ (toks_get cs i h), goX_append]
  rfl
theorem outN_succ (b : Nat) (cs : List Int) (i : Nat) (h : i < cs.length) : outN b cs (i + 1) = outN b cs i ++ [(atN b cs i).2] := by
  unfold outN atN stN
  rw [take_snoc _ _ _ (toks_get cs i h), outX_append]
  rfl
theorem lvN_succ (b : Nat) (cs : List Int) (i : Nat) (h : i < cs.length) : lvN b cs (i + 1) = lvN b cs i ++ [(atN b cs i).2.1] := by
  unfold lvN; rw [outN_succ b cs i h, List.map_append]; rfl
theorem clN_succ (b : Nat) (cs : List Int) (i : Nat) (h : i < cs.length) : clN b cs (i + 1) = clN b cs i ++ [(atN b cs i).2.2] := by
  unfold clN; rw [outN_succ b cs i h, List.map_append]; rfl
theorem outN_len (b : Nat) (cs : List Int) (i : Nat) (h : i ≤ cs.length) : (outN b cs i).length = i := by
  unfold outN; rw [outX_len, List.length_take, toks_len]; omega
theorem lvN_len (b : Nat) (cs : List Int) (i : Nat) (h : i ≤ cs.length) : (lvN b cs i).length = i := by unfold lvN; rw [List.length_map, outN_len b cs i h]
theorem clN_len (b : Nat) (cs : List Int) (i : Nat) (h : i ≤ cs.length) : (clN b cs i).length = i := by unfold clN; rw [List.length_map, outN_len b cs i h]
/-- the level before a place -/
theorem prev_is (b : Nat) (cs : List Int) : ∀ i, i ≤ cs.length → (stN b cs i).2 = if i = 0 then b else (lvN b cs i).getD (i - 1) 0
  | 0, h => rfl
  | i + 1, h => by
    rw [stN_succ b cs i (by omega), lvN_succ b cs i (by omega), if_neg (by omega), Nat.add_sub_cancel, List.getD_eq_getElem?_getD, List.getElem?_append_right (by rw [lvN_len b cs i (by omega)]; exact Nat.le_refl _), lvN_len b cs i (by omega)]
    simp

/-- what holds of the stack -/
structure InvX (b n : Nat) (s : Xs) : Prop where
  low : ∃ t, s.l = ⟨b, 0, false⟩ :: t ∧ t.length ≤ n
  each : ∀ e ∈ s.l, b ≤ e.lv ∧ e.lv ≤ 125 ∧ e.ov ≤ 2
  vals : s.vals = (s.l.filter (fun e => e.iso)).length
  bnd : s.isos ≤ n ∧ s.embs ≤ n ∧ s.vals ≤ n
theorem lastE_snoc (l : List En) (e : En) : lastE (l ++ [e]) = e := by unfold lastE; simp
theorem lastE_mem (l : List En) (h : l ≠ []) : lastE l ∈ l := by
  have : l = l.dropLast ++ [l.getLast h] := (List.dropLast_concat_getLast h).symm
  rw [this, lastE_snoc]; simp
theorem nextL_bnd (n : Nat) (odd : Bool) : n < nextL n odd ∧ nextL n odd ≤ n + 2 := by unfold nextL; split <;> omega
theorem inv_beg (b n : Nat) (hb : b ≤ 125) : InvX b n (begX b) :=
  ⟨⟨[], rfl, Nat.zero_le _⟩, fun e he => by simp [begX] at he; subst he; exact ⟨Nat.le_refl _, hb, by simp⟩, by simp [begX], ⟨Nat.zero_le _, Nat.zero_le _, Nat.zero_le _⟩⟩
section
variable {b n : Nat} {s : Xs}
theorem InvX.ne (h : InvX b n s) : s.l ≠ [] := by
  obtain ⟨t, h1, _⟩ := h.low
  rw [h1]; simp
theorem InvX.len (h : InvX b n s) : 0 < s.l.length ∧ s.l.length ≤ n + 1 := by
  obtain ⟨t, h1, h2⟩ := h.low
  rw [h1]; simp; omega
theorem InvX.last (h : InvX b n s) : b ≤ (lastE s.l).lv ∧ (lastE s.l).lv ≤ 125 ∧ (lastE s.l).ov ≤ 2 := h.each _ (lastE_mem _ h.ne)
theorem InvX.more (h : InvX b n s) : InvX b (n + 1) s := by
  obtain ⟨⟨t, h1, h2⟩, h3, h4, h5⟩ := h
  exact ⟨⟨t, h1, by omega⟩, h3, h4, by omega⟩
theorem InvX.push (h : InvX b n s) (e : En) (h1 : b ≤ e.lv ∧ e.lv ≤ 125 ∧ e.ov ≤ 2) (i m v : Nat) (hv : v = s.vals + (if e.iso then 1 else 0)) (hb : i ≤ n ∧ m ≤ n) : InvX b (n + 1) ⟨s.l ++ [e], i, m, v⟩ := by
  obtain ⟨⟨t, h2, h3⟩, h4, h5, h6⟩ := h
  refine ⟨⟨t ++ [e], by rw [h2]; rfl, by simp; omega⟩, fun x hx => ?_, ?_, ?_⟩
  · rcases List.mem_append.1 hx with hx | hx
    · exact h4 x hx
    · simp at hx; subst hx; exact h1
  · show v = _
    rw [hv, List.filter_append, List.length_append, ← h5]
    cases he : e.iso <;> simp [he]
  · have : v ≤ n + 1 := by rw [hv]; split <;> omega
    exact ⟨by show i ≤ _; omega, by show m ≤ _; omega, this⟩
theorem room_is (h : roomX s n = true) : n ≤ 125 ∧ s.isos = 0 ∧ s.embs = 0 := by
  unfold roomX at h
  simpa using h
theorem inv_embed (h : InvX b n s) (c : Int) : InvX b (n + 1) (embedX s c) := by
  unfold embedX
  split
  · rename_i hr
    obtain ⟨r1, r2, r3⟩ := room_is hr
    have hl := h.last
    have hn := nextL_bnd (lastE s.l).lv (c == 17 || c == 18)
    refine h.push _ ⟨Nat.le_trans hl.1 (Nat.le_of_lt hn.1), r1, ?_⟩ _ _ _ (by simp) ⟨h.bnd.1, h.bnd.2.1⟩
    show ovC c ≤ 2
    unfold ovC; split
    · omega
    · split <;> omega
  split
  · obtain ⟨⟨t, h2, h3⟩, h4, h5, h6⟩ := h
    exact ⟨⟨t, h2, by omega⟩, h4, h5, ⟨by show s.isos ≤ _; omega, by show s.embs + 1 ≤ _; omega, by show s.vals ≤ _; omega⟩⟩
  · exact h.more
theorem inv_iso (h : InvX b n s) (odd : Bool) : InvX b (n + 1) (isoX s odd) := by
  unfold isoX
  split
  · rename_i hr
    obtain ⟨r1, r2, r3⟩ := room_is hr
    have hl := h.last
    have hn := nextL_bnd (lastE s.l).lv odd
    exact h.push _ ⟨Nat.le_trans hl.1 (Nat.le_of_lt hn.1), r1, by simp⟩ _ _ _ (by simp) ⟨h.bnd.1, h.bnd.2.1⟩
  · obtain ⟨⟨t, h2, h3⟩, h4, h5, h6⟩ := h
    exact ⟨⟨t, h2, by omega⟩, h4, h5, ⟨by show s.isos + 1 ≤ _; omega, by show s.embs ≤ _; omega, by show s.vals ≤ _; omega⟩⟩
/-- a stack parts at its last isolate -/
theorem last_iso : ∀ l : List En, 0 < (l.filter (fun e => e.iso)).length → ∃ u e w, l = u ++ e :: w ∧ e.iso = true ∧ ∀ x ∈ w, x.iso = false := by
  intro l
  induction l with
  | nil => intro h; simp at h
  | cons a l ih =>
    intro h
    by_cases hl : 0 < (l.filter (fun e => e.iso)).length
    · obtain ⟨u, e, w, h1, h2, h3⟩ := ih hl
      exact ⟨a :: u, e, w, by rw [h1]; rfl, h2, h3⟩
    · have h0 : l.filter (fun e => e.iso) = [] := List.eq_nil_of_length_eq_zero (by omega)
      have ha : a.iso = true := by
        rw [List.filter_cons] at h
        split at h
        · assumption
        · rw [h0] at h; simp at h
      refine ⟨[], a, l, rfl, ha, fun x hx => ?_⟩
      have := List.filter_eq_nil_iff.1 h0 x hx
      simpa using this
theorem split_last (l : List En) (h : l ≠ []) : l = l.dropLast ++ [lastE l] := by
  obtain ⟨u, x, hx⟩ : ∃ u x, l = u ++ [x] := ⟨_, _, (List.dropLast_concat_getLast h).symm⟩
  subst hx
  rw [lastE_snoc]; simp
theorem dropW (p : En → Bool) : ∀ l : List En, (∀ x ∈ l, p x = true) → l.dropWhile p = []
  | [], _ => rfl
  | a :: l, h => by
    rw [List.dropWhile_cons, if_pos (h a (by simp))]
    exact dropW p l fun x hx => h x (by simp [hx])
theorem cut_is (u : List En) (e : En) (w : List En) (he : e.iso = true) (hw : ∀ x ∈ w, x.iso = false) : cutX (u ++ e :: w) = u := by
  unfold cutX
  have h1 : (u ++ e :: w).reverse = w.reverse ++ e :: u.reverse := by simp
  rw [h1, List.dropWhile_append]
  have h2 : w.reverse.dropWhile (fun e => !e.iso) = [] := dropW _ _ fun x hx => by simp [hw x (by simpa using hx)]
  rw [h2]
  simp [he]
theorem inv_end (h : InvX b n s) : InvX b (n + 1) (endX s) := by
  unfold endX
  split
  · obtain ⟨⟨t, h2, h3⟩, h4, h5, h6⟩ := h
    exact ⟨⟨t, h2, by omega⟩, h4, h5, ⟨by show s.isos - 1 ≤ _; omega, by show s.embs ≤ _; omega, by show s.vals ≤ _; omega⟩⟩
  split
  · exact h.more
  · rename_i h1 h2
    obtain ⟨⟨t, ht, ht2⟩, h4, h5, h6⟩ := h
    obtain ⟨u, e, w, p1, p2, p3⟩ := last_iso s.l (by omega)
    have hc : cutX s.l = u := by rw [p1]; exact cut_is u e w p2 p3
    cases u with
    | nil =>
      rw [p1] at ht
      simp at ht
      rw [ht.1] at p2
      cases p2
    | cons a u =>
      rw [p1] at ht
      simp at ht
      obtain ⟨q1, q2⟩ := ht
      rw [hc]
      refine ⟨⟨u, by rw [q1], ?_⟩, fun x hx => h4 x (by rw [p1]; simp at hx ⊢; rcases hx with hx | hx; exact .inl hx; exact .inr (.inl hx)), ?_, ⟨by show s.isos ≤ _; omega, Nat.zero_le _, by show s.vals - 1 ≤ _; omega⟩⟩
      · rw [← q2] at ht2; simp at ht2; omega
      · show s.vals - 1 = _
        have hw0 : w.filter (fun e => e.iso) = [] := by
          rw [List.filter_eq_nil_iff]
          intro x hx; simp [p3 x hx]
        have hw1 : ((e :: w).filter (fun e => e.iso)).length = 1 := by rw [List.filter_cons, if_pos p2, hw0]; rfl
        rw [h5, p1, List.filter_append, List.length_append, hw1]
        exact Nat.add_sub_cancel _ _
theorem inv_pop (h : InvX b n s) : InvX b (n + 1) (popX s) := by
  unfold popX
  split
  · exact h.more
  split
  · obtain ⟨⟨t, h2, h3⟩, h4, h5, h6⟩ := h
    exact ⟨⟨t, h2, by omega⟩, h4, h5, ⟨by show s.isos ≤ _; omega, by show s.embs - 1 ≤ _; omega, by show s.vals ≤ _; omega⟩⟩
  split
  · rename_i _ _ hc
    obtain ⟨c1, c2⟩ := hc
    have hne := h.ne
    obtain ⟨⟨t, h2, h3⟩, h4, h5, h6⟩ := h
    have hsp := split_last s.l hne
    refine ⟨?_, fun x hx => h4 x (by rw [hsp]; exact List.mem_append_left _ hx), ?_, ⟨by show s.isos ≤ _; omega, by show s.embs ≤ _; omega, by show s.vals ≤ _; omega⟩⟩
    · cases t with
      | nil => rw [h2] at c2; simp at c2
      | cons x t => exact ⟨(x :: t).dropLast, by show s.l.dropLast = _; rw [h2]; rfl, by simp at h3 ⊢; omega⟩
    · show s.vals = _
      rw [h5]
      conv => lhs; rw [hsp]
      rw [List.filter_append]
      simp [c1]
  · exact h.more
theorem inv_stepX (hb : b ≤ 125) (h : InvX b n s) (p : Nat) (c : Int) (r : Bool) : InvX b (n + 1) (stepX b s p c r).1 := by
  unfold stepX
  split
  · show InvX b (n + 1) (if c = 19 then popX s else if c = 10 then s else embedX s c)
    split
    · exact inv_pop h
    split
    · exact h.more
    · exact inv_embed h c
  split
  · exact inv_iso h _
  split
  · exact inv_iso h _
  split
  · exact inv_end h
  split
  · exact inv_beg b _ hb
  · exact h.more
end
theorem inv_stN (b : Nat) (cs : List Int) (hb : b ≤ 125) : ∀ i, i ≤ cs.length → InvX b i (stN b cs i).1
  | 0, h => inv_beg b 0 hb
  | i + 1, h => by
    rw [stN_succ b cs i (by omega)]
    exact inv_stepX hb (inv_stN b cs hb i (by omega)) _ _ _
end Go.Proofs.Ytjdkpnmejkbkiaa
