/-
  Mathematics of explicit levels: what the consequences say: levels from the base to 125, classes as they were or an override's, BN of what is removed (P11.5); without explicit signs nothing changes (P11.4); what stands within an isolate does not change what is told outside (P11.6). No program, no condition.
-/
import Derived.Test.YtjdkpnmejkbkiaaXpl
set_option linter.unusedVariables false
set_option linter.unusedSimpArgs false
namespace Go.Proofs.Ytjdkpnmejkbkiaa

theorem own_is (b n : Nat) (s : Xs) (h : InvX b n s) (c : Int) : ownX s c = c ∨ ownX s c = 1 ∨ ownX s c = 2 := by
  unfold ownX
  have := h.last.2.2
  split
  · rename_i h0
    right
    have : (lastE s.l).ov = 1 ∨ (lastE s.l).ov = 2 := by omega
    rcases this with h | h <;> rw [h] <;> simp
  · exact .inl rfl
/-- P11.5 at one place -/
theorem at_keeps (b : Nat) (cs : List Int) (hb : b ≤ 125) (i : Nat) (hi : i < cs.length) (hp : b ≤ (stN b cs i).2 ∧ (stN b cs i).2 ≤ 125) :
    (b ≤ (atN b cs i).2.1 ∧ (atN b cs i).2.1 ≤ 125) ∧ (remC (cs.getD i 0) = true → (atN b cs i).2.2 = 10 ∧ (atN b cs i).2.1 = (stN b cs i).2) ∧
    (remC (cs.getD i 0) = false → (atN b cs i).2.2 = cs.getD i 0 ∨ (atN b cs i).2.2 = 1 ∨ (atN b cs i).2.2 = 2) := by
  have h := inv_stN b cs hb i (by omega)
  unfold atN stepX
  split
  · rename_i hr
    exact ⟨hp, fun _ => ⟨rfl, rfl⟩, fun h0 => by rw [hr] at h0; cases h0⟩
  · rename_i hr
    have hr' : remC (cs.getD i 0) = false := by simpa using hr
    refine ⟨?_, fun h0 => absurd h0 hr, fun _ => ?_⟩
    all_goals
      split
      · first | exact ⟨h.last.1, h.last.2.1⟩ | exact own_is b _ _ h _
      split
      · first | exact ⟨h.last.1, h.last.2.1⟩ | exact own_is b _ _ h _
      split
      · first | exact ⟨(inv_end h).last.1, (inv_end h).last.2.1⟩ | exact own_is b _ _ (inv_end h) _
      split
      · first | exact ⟨Nat.le_refl _, hb⟩ | exact .inl rfl
      · first | exact ⟨h.last.1, h.last.2.1⟩ | exact own_is b _ _ h _
theorem prev_keeps (b : Nat) (cs : List Int) (hb : b ≤ 125) : ∀ i, i ≤ cs.length → b ≤ (stN b cs i).2 ∧ (stN b cs i).2 ≤ 125
  | 0, h => ⟨Nat.le_refl _, hb⟩
  | i + 1, h => by
    rw [stN_succ b cs i (by omega)]
    exact (at_keeps b cs hb i (by omega) (prev_keeps b cs hb i (by omega))).1
theorem lvN_get (b : Nat) (cs : List Int) (i : Nat) (hi : i < cs.length) : ∀ n, i < n → n ≤ cs.length → (lvN b cs n).getD i 0 = (atN b cs i).2.1
  | 0, h, _ => by omega
  | n + 1, h, hn => by
    rw [lvN_succ b cs n (by omega)]
    by_cases e : i = n
    · subst e
      rw [List.getD_eq_getElem?_getD, List.getElem?_append_right (by rw [lvN_len b cs i (by omega)]; exact Nat.le_refl _), lvN_len b cs i (by omega)]
      simp
    · rw [List.getD_eq_getElem?_getD, List.getElem?_append_left (by rw [lvN_len b cs n (by omega)]; omega), ← List.getD_eq_getElem?_getD]
      exact lvN_get b cs i hi n (by omega) (by omega)
theorem clN_get (b : Nat) (cs : List Int) (i : Nat) (hi : i < cs.length) : ∀ n, i < n → n ≤ cs.length → (clN b cs n).getD i 0 = (atN b cs i).2.2
  | 0, h, _ => by omega
  | n + 1, h, hn => by
    rw [clN_succ b cs n (by omega)]
    by_cases e : i = n
    · subst e
      rw [List.getD_eq_getElem?_getD, List.getElem?_append_right (by rw [clN_len b cs i (by omega)]; exact Nat.le_refl _), clN_len b cs i (by omega)]
      simp
    · rw [List.getD_eq_getElem?_getD, List.getElem?_append_left (by rw [clN_len b cs n (by omega)]; omega), ← List.getD_eq_getElem?_getD]
      exact clN_get b cs i hi n (by omega) (by omega)
theorem lvL_len (b : Nat) (cs : List Int) : (lvL b cs).length = cs.length := lvN_len b cs _ (Nat.le_refl _)
theorem clL_len (b : Nat) (cs : List Int) : (clL b cs).length = cs.length := clN_len b cs _ (Nat.le_refl _)
/-- P11.5 -/
theorem keeps_all (b : Nat) (cs : List Int) (hb : b ≤ 125) (i : Nat) (hi : i < cs.length) :
    (b ≤ (lvL b cs).getD i 0 ∧ (lvL b cs).getD i 0 ≤ 125) ∧
    (remC (cs.getD i 0) = true → (clL b cs).getD i 0 = 10 ∧ (0 < i → (lvL b cs).getD i 0 = (lvL b cs).getD (i - 1) 0) ∧ (i = 0 → (lvL b cs).getD i 0 = b)) ∧
    (remC (cs.getD i 0) = false → (clL b cs).getD i 0 = cs.getD i 0 ∨ (clL b cs).getD i 0 = 1 ∨ (clL b cs).getD i 0 = 2) := by
  have hk := at_keeps b cs hb i hi (prev_keeps b cs hb i (by omega))
  unfold lvL clL
  rw [lvN_get b cs i hi _ hi (Nat.le_refl _), clN_get b cs i hi _ hi (Nat.le_refl _)]
  refine ⟨hk.1, fun h => ?_, hk.2.2⟩
  obtain ⟨h1, h2⟩ := hk.2.1 h
  refine ⟨h1, fun h0 => ?_, fun h0 => ?_⟩
  · rw [h2, prev_is b cs i (by omega), if_neg (by omega), lvN_get b cs (i - 1) (by omega) i (by omega) (by omega), lvN_get b cs (i - 1) (by omega) _ (by omega) (Nat.le_refl _)]
  · rw [h2, prev_is b cs i (by omega), if_pos h0]

/-- P11.4 -/
def plainC (c : Int) : Prop := remC c = false ∧ c ≠ 20 ∧ c ≠ 21 ∧ c ≠ 22 ∧ c ≠ 23 ∧ c ≠ 11
theorem out_plain (b : Nat) : ∀ (cs : List Int), (∀ c ∈ cs, plainC c) → ∀ p, p.1 = begX b → outX b p (toks cs) = cs.map fun c => (b, c)
  | [], _, p, _ => rfl
  | c :: cs, h, p, hp => by
    obtain ⟨h1, h2, h3, h4, h5, h6⟩ := h c (by simp)
    have hs : ∀ r, stepX b p.1 p.2 c r = (begX b, b, c) := fun r => by
      unfold stepX
      rw [if_neg (by rw [h1]; decide), if_neg (by intro e; rcases e with e | e; exact h2 e; exact h3 e), if_neg h4, if_neg h5, if_neg h6, hp]
      rfl
    rw [toks, outX, hs, List.map_cons]
    congr 1
    exact out_plain b cs (fun x hx => h x (by simp [hx])) _ rfl
theorem plain_all (b : Nat) (cs : List Int) (h : ∀ c ∈ cs, plainC c) : lvL b cs = List.replicate cs.length b ∧ clL b cs = cs := by
  have ho : outN b cs cs.length = cs.map fun c => (b, c) := by
    unfold outN
    rw [List.take_of_length_le (by rw [toks_len]; exact Nat.le_refl _)]
    exact out_plain b cs h _ rfl
  unfold lvL clL lvN clN
  rw [ho, List.map_map, List.map_map]
  refine ⟨?_, by simp [Function.comp_def]⟩
  simp only [Function.comp_def]
  exact List.map_const'

/-- the greatest level -/
def depL (b : Nat) (cs : List Int) : Nat := (lvL b cs).foldl max b
theorem foldl_max_rep (b : Nat) : ∀ n, (List.replicate n b).foldl max b = b
  | 0 => rfl
  | n + 1 => by rw [List.replicate_succ, List.foldl_cons, Nat.max_self]; exact foldl_max_rep b n
theorem dep_plain (b : Nat) (cs : List Int) (h : ∀ c ∈ cs, plainC c) : depL b cs = b := by
  unfold depL; rw [(plain_all b cs h).1]; exact foldl_max_rep b _

/-- classes that may stand within: no isolate sign, no B -/
def midC (c : Int) : Prop := c ≠ 11 ∧ opnC c = false ∧ c ≠ 23
/-- the first tokens of a list, by what follows them -/
def tokf : List Int → List Int → List (Int × Bool)
  | [], q => []
  | c :: p, q => (c, raC (fstI 0 (p ++ q))) :: tokf p q
theorem toks_append : ∀ p q : List Int, toks (p ++ q) = tokf p q ++ toks q
  | [], q => rfl
  | c :: p, q => by rw [List.cons_append, toks, tokf, toks_append p q]; rfl
theorem tokf_len : ∀ p q : List Int, (tokf p q).length = p.length
  | [], q => rfl
  | c :: p, q => by rw [tokf, List.length_cons, List.length_cons, tokf_len p q]
theorem fstI_congr (q q' : List Int) (h : ∀ d, fstI d q = fstI d q') : ∀ (p : List Int) (d : Nat), fstI d (p ++ q) = fstI d (p ++ q')
  | [], d => h d
  | c :: p, 0 => by
    rw [List.cons_append, List.cons_append, fstI, fstI, fstI_congr q q' h p 1, fstI_congr q q' h p 0]
  | c :: p, d + 1 => by
    rw [List.cons_append, List.cons_append, fstI, fstI, fstI_congr q q' h p (d + 2), fstI_congr q q' h p d, fstI_congr q q' h p (d + 1)]
theorem tokf_congr (q q' : List Int) (h : ∀ d, fstI d q = fstI d q') : ∀ p : List Int, tokf p q = tokf p q'
  | [] => rfl
  | c :: p => by rw [tokf, tokf, fstI_congr q q' h p 0, tokf_congr q q' h p]
theorem fstI_mid : ∀ (u v : List Int) (d : Nat), (∀ c ∈ u, midC c) → fstI (d + 1) (u ++ v) = fstI (d + 1) v
  | [], v, d, _ => rfl
  | c :: u, v, d, h => by
    obtain ⟨a, b, e⟩ := h c (by simp)
    rw [List.cons_append, fstI, if_neg a, if_neg (by rw [b]; decide), if_neg e]
    exact fstI_mid u v d fun x hx => h x (by simp [hx])
theorem fstI_isolate (o : Int) (ho : o = 20 ∨ o = 21) (u y : List Int) (hu : ∀ c ∈ u, midC c) (d : Nat) : fstI d (o :: (u ++ 23 :: y)) = fstI d y := by
  have h1 : opnC o = true := by rcases ho with rfl | rfl <;> rfl
  obtain ⟨a, b⟩ := open_not o h1
  cases d with
  | zero =>
    rw [fstI, if_neg (by rw [a]; decide), if_neg b, if_pos h1, fstI_mid u _ 0 hu, fstI, if_neg (by decide), if_neg (by decide), if_pos rfl]
  | succ d =>
    rw [fstI, if_neg b, if_pos h1, fstI_mid u _ (d + 1) hu, fstI, if_neg (by decide), if_neg (by decide), if_pos rfl]
/-- what a state within an isolate has to do with the state at its begin -/
def Within (S s : Xs) : Prop :=
  (0 < S.isos ∧ s = S) ∨ (S.isos = 0 ∧ S.embs = 0 ∧ ∃ L e w V, S.l = L ++ [e] ∧ e.iso = true ∧ S.vals = V + 1 ∧ s.l = L ++ e :: w ∧ (∀ x ∈ w, x.iso = false) ∧ s.isos = 0 ∧ s.vals = V + 1)
theorem within_iso (s : Xs) (odd : Bool) : Within (isoX s odd) (isoX s odd) := by
  unfold isoX
  split
  · rename_i hr
    obtain ⟨r1, r2, r3⟩ := room_is hr
    exact .inr ⟨r2, r3, s.l, _, [], s.vals, rfl, rfl, rfl, rfl, by simp, r2, rfl⟩
  · exact .inl ⟨Nat.succ_pos _, rfl⟩
theorem within_end {S s : Xs} (h : Within S s) : endX s = endX S := by
  rcases h with ⟨_, rfl⟩ | ⟨h1, h2, L, e, w, V, p1, p2, p3, p4, p5, p6, p7⟩
  · rfl
  · unfold endX
    rw [if_neg (by omega), if_neg (by omega), if_neg (by omega), if_neg (by omega), p4, p1, p3, p6, p7, h1, cut_is L e w p2 p5]
    have := cut_is L e [] p2 (by simp)
    rw [this]
theorem within_step {S s : Xs} (b : Nat) (h : Within S s) (p : Nat) (c : Int) (r : Bool) (hc : midC c) : Within S (stepX b s p c r).1 := by
  obtain ⟨h11, ho, h23⟩ := hc
  have h20 : ¬(c = 20 ∨ c = 21) := fun e => by rcases e with rfl | rfl <;> cases ho
  have h22 : c ≠ 22 := fun e => by subst e; cases ho
  unfold stepX
  split
  · show Within S (if c = 19 then popX s else if c = 10 then s else embedX s c)
    split
    · rcases h with ⟨h1, rfl⟩ | ⟨h1, h2, L, e, w, V, p1, p2, p3, p4, p5, p6, p7⟩
      · left
        refine ⟨h1, ?_⟩
        unfold popX
        rw [if_pos h1]
      · right
        refine ⟨h1, h2, L, e, ?_⟩
        unfold popX
        rw [if_neg (by omega)]
        split
        · exact ⟨w, V, p1, p2, p3, p4, p5, p6, p7⟩
        split
        · rename_i _ hl
          obtain ⟨hl1, hl2⟩ := hl
          have hw : w ≠ [] := fun e0 => by
            subst e0
            rw [p4, lastE_snoc, p2] at hl1
            cases hl1
          refine ⟨w.dropLast, V, p1, p2, p3, ?_, fun x hx => p5 x (by rw [split_last w hw]; exact List.mem_append_left _ hx), p6, p7⟩
          show s.l.dropLast = _
          rw [p4, List.dropLast_append_of_ne_nil (by simp), List.dropLast_cons_of_ne_nil hw]
        · exact ⟨w, V, p1, p2, p3, p4, p5, p6, p7⟩
    split
    · exact h
    · rcases h with ⟨h1, rfl⟩ | ⟨h1, h2, L, e, w, V, p1, p2, p3, p4, p5, p6, p7⟩
      · left
        refine ⟨h1, ?_⟩
        unfold embedX
        rw [if_neg (fun hr => by have := (room_is hr).2.1; omega), if_neg (by omega)]
      · right
        refine ⟨h1, h2, L, e, ?_⟩
        unfold embedX
        split
        · refine ⟨w ++ [_], V, p1, p2, p3, by show s.l ++ _ = _; rw [p4]; simp; rfl, fun x hx => ?_, p6, p7⟩
          rcases List.mem_append.1 hx with hx | hx
          · exact p5 x hx
          · simp at hx; subst hx; rfl
        · exact ⟨w, V, p1, p2, p3, p4, p5, p6, p7⟩
  · exact h
theorem within_go (b : Nat) (S : Xs) : ∀ (ts : List (Int × Bool)) (p : Xs × Nat), (∀ t ∈ ts, midC t.1) → Within S p.1 → Within S (goX b p ts).1
  | [], p, _, h => h
  | t :: ts, p, hm, h => by
    rw [goX]
    exact within_go b S ts _ (fun x hx => hm x (by simp [hx])) (within_step b h _ _ _ (hm t (by simp)))
theorem tokf_mid (u q : List Int) (hu : ∀ c ∈ u, midC c) : ∀ t ∈ tokf u q, midC t.1 := by
  induction u with
  | nil => intro t ht; cases ht
  | cons c u ih =>
    intro t ht
    rw [tokf, List.mem_cons] at ht
    rcases ht with rfl | ht
    · exact hu c (by simp)
    · exact ih (fun x hx => hu x (by simp [hx])) t ht
theorem stepX_flag (b : Nat) (s : Xs) (p : Nat) (c : Int) (r r' : Bool) (h : c ≠ 22) : stepX b s p c r = stepX b s p c r' := by
  unfold stepX
  rw [if_neg h, if_neg h]
/-- P11.6 -/
theorem isolates (b : Nat) (x y : List Int) (o : Int) (ho : o = 20 ∨ o = 21) : ∃ A C : List (Nat × Int), A.length = x.length + 1 ∧ C.length = y.length + 1 ∧
    ∀ u : List Int, (∀ c ∈ u, midC c) → ∃ B : List (Nat × Int), B.length = u.length ∧ outN b (x ++ o :: (u ++ 23 :: y)) (x ++ o :: (u ++ 23 :: y)).length = A ++ B ++ C := by
  have ho22 : o ≠ 22 := by rcases ho with rfl | rfl <;> decide
  obtain ⟨tx, htx⟩ : ∃ tx, tokf x y = tx := ⟨_, rfl⟩
  obtain ⟨p1, hp1⟩ : ∃ p1, goX b (begX b, b) tx = p1 := ⟨_, rfl⟩
  obtain ⟨S, hS⟩ : ∃ S, (stepX b p1.1 p1.2 o false) = S := ⟨_, rfl⟩
  have hSi : ∃ odd, S.1 = isoX p1.1 odd := by
    rw [← hS]
    unfold stepX
    have hr : remC o = false := by rcases ho with rfl | rfl <;> rfl
    rw [if_neg (by rw [hr]; decide), if_pos ho]
    exact ⟨_, rfl⟩
  have hE : ∀ s p r, endX s = endX S.1 → stepX b s p 23 r = (endX S.1, (lastE (endX S.1).l).lv, ownX (endX S.1) 23) := fun s p r h => by
    unfold stepX
    rw [if_neg (by decide), if_neg (by decide), if_neg (by decide), if_pos rfl, h]
  refine ⟨outX b (begX b, b) tx ++ [S.2], ((lastE (endX S.1).l).lv, ownX (endX S.1) 23) :: outX b (endX S.1, (lastE (endX S.1).l).lv) (toks y), ?_, ?_, fun u hu => ?_⟩
  · rw [List.length_append, outX_len, ← htx, tokf_len]; rfl
  · rw [List.length_cons, outX_len, toks_len]
  · refine ⟨outX b (S.1, S.2.1) (tokf u (23 :: y)), by rw [outX_len, tokf_len], ?_⟩
    have hfx : tokf x (o :: (u ++ 23 :: y)) = tx := by
      rw [← htx]
      exact tokf_congr _ _ (fun d => fstI_isolate o ho u y hu d) x
    unfold outN
    rw [List.take_of_length_le (by rw [toks_len]; exact Nat.le_refl _), toks_append, hfx, outX_append, hp1, toks, outX, toks_append, outX_append, toks, outX, stepX_flag b p1.1 p1.2 o _ false ho22, hS]
    obtain ⟨odd, hodd⟩ := hSi
    have hw : Within S.1 (goX b (S.1, S.2.1) (tokf u (23 :: y))).1 := within_go b S.1 _ _ (tokf_mid u _ hu) (by rw [hodd]; exact within_iso _ _)
    rw [hE _ _ _ (within_end hw)]
    simp
end Go.Proofs.Ytjdkpnmejkbkiaa
