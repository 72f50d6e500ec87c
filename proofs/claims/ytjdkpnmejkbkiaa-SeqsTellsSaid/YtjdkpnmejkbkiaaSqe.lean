/-
  Mathematics of isolating run sequences, run by run: the sequences so far, with their level and what stands before and after; which of them waits for a run. No program, no condition.
-/
import Derived.Test.YtjdkpnmejkbkiaaSqd
set_option linter.unusedVariables false
set_option linter.unusedSimpArgs false
namespace Go.Proofs.Ytjdkpnmejkbkiaa

/-- what the greater of two levels stands for -/
def dirC (a b : Int) : Int := if max a b % 2 = 0 then 1 else 2
structure Sq where
  pl : List Nat
  lv : Int
  sos : Int
  eos : Int
def befR (f : Nat → Int) (d : Int) (rs : List (List Nat)) (k : Nat) : Int := if k = 0 then d else f (laR rs (k - 1))
def aftR (f : Nat → Int) (d : Int) (rs : List (List Nat)) (k : Nat) : Int := if k + 1 = rs.length then d else f (hdR rs (k + 1))
def eosN (b : Nat) (cs : List Int) (h k : Nat) : Int := dirC (lvF b cs (hdR (rsL b cs) h)) (if opnC (cs.getD (laR (rsL b cs) k) 0) = true then (b : Int) else aftR (lvF b cs) b (rsL b cs) k)
def sqN (b : Nat) (cs : List Int) (c : List Nat) : Sq :=
  ⟨atS (rsL b cs) c, lvF b cs (hdR (rsL b cs) (c.headD 0)), dirC (lvF b cs (hdR (rsL b cs) (c.headD 0))) (befR (lvF b cs) b (rsL b cs) (c.headD 0)),
    if (nxR cs (rsL b cs) (c.getLastD 0)).isSome = true then 0 else eosN b cs (c.headD 0) (c.getLastD 0)⟩
def grpN (b : Nat) (cs : List Int) (m : Nat) : List (List Nat) := grp (pvR cs (rsL b cs)) m
def seqN (b : Nat) (cs : List Int) (m : Nat) : List Sq := (grpN b cs m).map (sqN b cs)
def seqL (b : Nat) (cs : List Int) : List Sq := seqN b cs (rsL b cs).length

section
variable {b : Nat} {cs : List Int}
theorem inv_grpN (m : Nat) (hm : m ≤ (rsL b cs).length) : InvG (nxR cs (rsL b cs)) (pvR cs (rsL b cs)) m (grpN b cs m) := inv_grp (links b cs) m hm
/-- what a run's last place tells -/
theorem nx_cases {m : Nat} (hm : m < (rsL b cs).length) :
    (opnC (cs.getD (laR (rsL b cs) m) 0) = false ∧ nxR cs (rsL b cs) m = none) ∨
    (opnC (cs.getD (laR (rsL b cs) m) 0) = true ∧ (matL cs).getD (laR (rsL b cs) m) 0 = -1 ∧ nxR cs (rsL b cs) m = none) ∨
    (opnC (cs.getD (laR (rsL b cs) m) 0) = true ∧ ∃ k', nxR cs (rsL b cs) m = some k' ∧ (matL cs).getD (laR (rsL b cs) m) 0 = (hdR (rsL b cs) k' : Int) ∧ m < k' ∧ k' < (rsL b cs).length) := by
  have H := rs_x b cs
  have hin := last_in H hm
  have hi := (in_kept hin).1
  cases ho : opnC (cs.getD (laR (rsL b cs) m) 0) with
  | false =>
    left
    refine ⟨rfl, ?_⟩
    unfold nxR
    rw [if_neg]
    rintro ⟨_, h, _⟩
    rw [ho] at h; cases h
  | true =>
    right
    rcases (inv_mat cs cs.length).vals _ hi with hv | ⟨p, hv, _⟩
    · have hv' : (matL cs).getD (laR (rsL b cs) m) 0 = -1 := hv
      left
      refine ⟨rfl, hv', ?_⟩
      unfold nxR
      rw [if_neg]
      rintro ⟨_, _, h⟩
      omega
    · have hv' : (matL cs).getD (laR (rsL b cs) m) 0 = p := hv
      right
      refine ⟨rfl, ?_⟩
      obtain ⟨q1, q2, q3, q4⟩ := pair_of hi hv' ho
      obtain ⟨k2, hk2⟩ := run_of b cs q2 (by rw [q3]; rfl)
      obtain ⟨g1, g2⟩ := link_fwd hi ho hv' hin rfl hk2
      refine ⟨k2, ?_, by rw [hv', g1], g2, getD_out hk2⟩
      unfold nxR
      rw [if_pos ⟨hm, ho, by omega⟩, hv', Int.toNat_natCast, idx_is H hk2]
/-- runs begin at places of their own -/
theorem hd_inj {k k' : Nat} (hk : k < (rsL b cs).length) (hk' : k' < (rsL b cs).length) (h : hdR (rsL b cs) k = hdR (rsL b cs) k') : k = k' := by
  have H := rs_x b cs
  have h1 := head_in H hk
  have h2 := head_in H hk'
  rw [← idx_is H h1, ← idx_is H h2, h]
theorem hd_lt {k : Nat} (hk : k < (rsL b cs).length) : hdR (rsL b cs) k < cs.length := (in_kept (head_in (rs_x b cs) hk)).1
theorem la_lt {k : Nat} (hk : k < (rsL b cs).length) : laR (rsL b cs) k < cs.length := (in_kept (last_in (rs_x b cs) hk)).1
/-- which sequence waits for a run -/
structure AwI (b : Nat) (cs : List Int) (m : Nat) (aw : List Int) : Prop where
  len : aw.length = cs.length
  wait : ∀ k, m ≤ k → k < (rsL b cs).length → ∀ j, pvR cs (rsL b cs) k = some j → j < m → ∃ (i : Nat) (c : List Nat), (grpN b cs m)[i]? = some c ∧ c.getLast? = some j ∧ aw.getD (hdR (rsL b cs) k) 0 = (i : Int)
  free : ∀ k, m ≤ k → k < (rsL b cs).length → (∀ j, pvR cs (rsL b cs) k = some j → m ≤ j) → aw.getD (hdR (rsL b cs) k) 0 = -1
theorem aw_start : AwI b cs 0 (List.replicate cs.length (-1)) := by
  refine ⟨by simp, fun k _ _ j _ h => by omega, fun k _ hk _ => ?_⟩
  rw [List.getD_eq_getElem?_getD, List.getElem?_replicate, if_pos (hd_lt hk)]; rfl
/-- one list that ends with k at most -/
theorem last_one {m : Nat} (hm : m ≤ (rsL b cs).length) {i j : Nat} {c d : List Nat} {k : Nat} (hi : (grpN b cs m)[i]? = some c) (hj : (grpN b cs m)[j]? = some d) (hc : c.getLast? = some k) (hd : d.getLast? = some k) : i = j := by
  have hp := (inv_grpN (b := b) (cs := cs) m hm).perm
  have hnd : (grpN b cs m).flatten.Nodup := hp.nodup_iff.2 List.nodup_range
  have key : ∀ (out : List (List Nat)), out.flatten.Nodup → ∀ (i j : Nat) (c d : List Nat), out[i]? = some c → out[j]? = some d → k ∈ c → k ∈ d → i < j → False := by
    intro out hnd i j c d hi hj h1 h2 hlt
    have hs : out = out.take j ++ out.drop j := (List.take_append_drop j out).symm
    rw [hs, List.flatten_append, List.nodup_append] at hnd
    refine hnd.2.2 k (List.mem_flatten.2 ⟨c, ?_, h1⟩) k (List.mem_flatten.2 ⟨d, ?_, h2⟩) rfl
    · refine List.mem_of_getElem? (i := i) ?_
      rw [List.getElem?_take, if_pos hlt]; exact hi
    · refine List.mem_of_getElem? (i := 0) ?_
      rw [List.getElem?_drop]; exact hj
  rcases Nat.lt_trichotomy i j with h | h | h
  · exact (key _ hnd i j c d hi hj (List.mem_of_getLast? hc) (List.mem_of_getLast? hd) h).elim
  · exact h
  · exact (key _ hnd j i d c hj hi (List.mem_of_getLast? hd) (List.mem_of_getLast? hc) h).elim
/-- a run that nothing is linked to begins a sequence -/
theorem grp_new {m : Nat} (hp : pvR cs (rsL b cs) m = none) : grpN b cs (m + 1) = grpN b cs m ++ [[m]] := by
  show stepG _ (grpN b cs m) m = _
  unfold stepG
  rw [hp]
/-- another one goes on with one -/
theorem grp_old {m k : Nat} (hm : m < (rsL b cs).length) (hp : pvR cs (rsL b cs) m = some k) {i : Nat} {c : List Nat} (hi : (grpN b cs m)[i]? = some c) (hc : c.getLast? = some k) : grpN b cs (m + 1) = (grpN b cs m).set i (c ++ [m]) := by
  show stepG _ (grpN b cs m) m = _
  unfold stepG
  rw [hp]
  apply List.ext_getElem?
  intro x
  rw [List.getElem?_map, List.getElem?_set]
  by_cases hx : i = x
  · subst hx
    rw [if_pos rfl, if_pos (List.getElem?_eq_some_iff.1 hi).1, hi]
    simp [hc]
  · rw [if_neg hx]
    cases hd : (grpN b cs m)[x]? with
    | none => rfl
    | some d =>
      show some (if d.getLast? = some k then d ++ [m] else d) = some d
      rw [if_neg]
      intro e
      exact hx (last_one (Nat.le_of_lt hm) hi hd hc e)
/-- one run more -/
theorem aw_step {m : Nat} {aw : List Int} (hm : m < (rsL b cs).length) (H : AwI b cs m aw) :
    ∃ (at_ : Nat) (c : List Nat), (grpN b cs (m + 1))[at_]? = some (c ++ [m]) ∧
      ((aw.getD (hdR (rsL b cs) m) 0 = -1 ∧ c = [] ∧ at_ = (grpN b cs m).length ∧ grpN b cs (m + 1) = grpN b cs m ++ [[m]]) ∨
       (aw.getD (hdR (rsL b cs) m) 0 = (at_ : Int) ∧ (grpN b cs m)[at_]? = some c ∧ c ≠ [] ∧ grpN b cs (m + 1) = (grpN b cs m).set at_ (c ++ [m]))) ∧
      (nxR cs (rsL b cs) m = none → AwI b cs (m + 1) aw) ∧
      (∀ k', nxR cs (rsL b cs) m = some k' → AwI b cs (m + 1) (aw.set (hdR (rsL b cs) k') (at_ : Int))) := by
  have L := links b cs
  obtain ⟨at_, c, h1, h2, h3⟩ : ∃ (at_ : Nat) (c : List Nat), (grpN b cs (m + 1))[at_]? = some (c ++ [m]) ∧
      ((aw.getD (hdR (rsL b cs) m) 0 = -1 ∧ c = [] ∧ at_ = (grpN b cs m).length ∧ grpN b cs (m + 1) = grpN b cs m ++ [[m]]) ∨
       (aw.getD (hdR (rsL b cs) m) 0 = (at_ : Int) ∧ (grpN b cs m)[at_]? = some c ∧ c ≠ [] ∧ grpN b cs (m + 1) = (grpN b cs m).set at_ (c ++ [m]))) ∧
      (∀ k, m + 1 ≤ k → k < (rsL b cs).length → ∀ j, pvR cs (rsL b cs) k = some j → j < m → ∀ (i : Nat) (d : List Nat), (grpN b cs m)[i]? = some d → d.getLast? = some j → (grpN b cs (m + 1))[i]? = some d) := by
    cases hp : pvR cs (rsL b cs) m with
    | none =>
      have hg := grp_new (b := b) (cs := cs) hp
      refine ⟨(grpN b cs m).length, [], by rw [hg]; simp, .inl ⟨?_, rfl, rfl, hg⟩, fun k _ _ j _ _ i d hi _ => ?_⟩
      · exact H.free m (Nat.le_refl _) hm fun j hj => by rw [hp] at hj; cases hj
      · rw [hg, List.getElem?_append_left (List.getElem?_eq_some_iff.1 hi).1]; exact hi
    | some j0 =>
      have hj0 := L.up _ _ hp
      obtain ⟨i, c, hi, hc, hv⟩ := H.wait m (Nat.le_refl _) hm j0 hp hj0.1
      have hg := grp_old hm hp hi hc
      refine ⟨i, c, ?_, .inr ⟨hv, hi, fun e => by rw [e] at hc; simp at hc, hg⟩, fun k hk hkR j hj hjm i' d hi' hd => ?_⟩
      · rw [hg, List.getElem?_set_self (List.getElem?_eq_some_iff.1 hi).1]
      · rw [hg, List.getElem?_set]
        rw [if_neg]
        · exact hi'
        · intro e
          subst e
          rw [hi] at hi'
          injection hi' with hi'
          subst hi'
          rw [hc] at hd
          injection hd with hd
          subst hd
          have a1 := (L.link _ _).2 hp
          have a2 := (L.link _ _).2 hj
          rw [a1] at a2
          injection a2 with a2
          omega
  refine ⟨at_, c, h1, h2, fun hn => ⟨H.len, fun k hk hkR j hj hjm => ?_, fun k hk hkR hj => ?_⟩, fun k' hn => ⟨by rw [List.length_set]; exact H.len, fun k hk hkR j hj hjm => ?_, fun k hk hkR hj => ?_⟩⟩
  · have hne : j ≠ m := fun e => by
      subst e
      have := (L.link _ _).2 hj
      rw [hn] at this; cases this
    obtain ⟨i, d, g1, g2, g3⟩ := H.wait k (by omega) hkR j hj (by omega)
    exact ⟨i, d, h3 k hk hkR j hj (by omega) i d g1 g2, g2, g3⟩
  · exact H.free k (by omega) hkR fun j h => by have := hj j h; omega
  · have hk' := L.up _ _ ((L.link _ _).1 hn)
    rw [getD_set _ _ _ _ (by rw [H.len]; exact hd_lt hk'.2)]
    by_cases hjm' : j = m
    · subst hjm'
      have a2 := (L.link _ _).2 hj
      rw [hn] at a2
      injection a2 with a2
      subst a2
      exact ⟨at_, _, h1, by simp, by rw [if_pos rfl]⟩
    · obtain ⟨i, d, g1, g2, g3⟩ := H.wait k (by omega) hkR j hj (by omega)
      refine ⟨i, d, h3 k hk hkR j hj (by omega) i d g1 g2, g2, ?_⟩
      rw [if_neg]
      · exact g3
      · intro e
        have e2 := hd_inj hkR hk'.2 e
        subst e2
        have := (L.link _ _).1 hn
        rw [hj] at this
        injection this with this
        exact hjm' this
  · have hk' := L.up _ _ ((L.link _ _).1 hn)
    rw [getD_set _ _ _ _ (by rw [H.len]; exact hd_lt hk'.2), if_neg]
    · exact H.free k (by omega) hkR fun j h => by have := hj j h; omega
    · intro e
      have e2 := hd_inj hkR hk'.2 e
      subst e2
      have := hj _ ((L.link _ _).1 hn)
      omega
/-- all runs of a sequence have its level -/
theorem grp_lv {m i : Nat} {c : List Nat} (hm : m ≤ (rsL b cs).length) (hi : (grpN b cs m)[i]? = some c) : ∀ k ∈ c, lvF b cs (hdR (rsL b cs) k) = lvF b cs (hdR (rsL b cs) (c.headD 0)) := by
  obtain ⟨c1, c2⟩ := (inv_grpN (b := b) (cs := cs) m hm).chain c (List.mem_of_getElem? hi)
  have hlv := chain_lv b cs c.length (c.headD 0)
  rw [← c2] at hlv
  exact hlv
theorem sq_new (b : Nat) (cs : List Int) (m : Nat) : (sqN b cs [m]).pl = (rsL b cs).getD m [] := by
  show atS _ [m] = _
  unfold atS
  simp
theorem sq_more {c : List Nat} {m : Nat} (hc : c ≠ []) : (sqN b cs (c ++ [m])).pl = (sqN b cs c).pl ++ (rsL b cs).getD m [] ∧ (sqN b cs (c ++ [m])).lv = (sqN b cs c).lv ∧ (sqN b cs (c ++ [m])).sos = (sqN b cs c).sos := by
  have hh : (c ++ [m]).headD 0 = c.headD 0 := by cases c with | nil => exact absurd rfl hc | cons a c => rfl
  unfold sqN
  simp only
  rw [hh]
  refine ⟨?_, rfl, rfl⟩
  unfold atS
  simp
end
end Go.Proofs.Ytjdkpnmejkbkiaa
