/-
  Mathematics of isolates by a depth that is counted along a list: what lies between an initiator and its PDI comes back to its depth, what lies behind an initiator without a PDI never falls below it; what an FSI isolates, told by the rest of the list alone. No program, no condition.
-/
import Derived.Test.YtjdkpnmejkbkiaaMaF
set_option linter.unusedVariables false
set_option linter.unusedSimpArgs false
namespace Go.Proofs.Ytjdkpnmejkbkiaa

/-- the depth behind a list: none where a B stands in it, or a PDI that closes more than was opened -/
def depD : Nat → List Int → Option Nat
  | d, [] => some d
  | 0, c :: l => if c = 11 then none else if opnC c = true then depD 1 l else if c = 23 then none else depD 0 l
  | d + 1, c :: l => if c = 11 then none else if opnC c = true then depD (d + 2) l else if c = 23 then depD d l else depD (d + 1) l
/-- the first strong class up to the PDI that ends the list's isolate -/
def fstI : Nat → List Int → Int
  | _, [] => 0
  | 0, c :: l => if strC c = true then c else if c = 11 then 0 else if opnC c = true then fstI 1 l else if c = 23 then 0 else fstI 0 l
  | d + 1, c :: l => if c = 11 then 0 else if opnC c = true then fstI (d + 2) l else if c = 23 then fstI d l else fstI (d + 1) l
theorem dep_append : ∀ (u v : List Int) (d : Nat), depD d (u ++ v) = (depD d u).bind fun d' => depD d' v
  | [], v, d => by cases d <;> simp [depD]
  | c :: u, v, 0 => by
    rw [List.cons_append, depD, depD]
    split
    · rfl
    split
    · exact dep_append u v 1
    split
    · rfl
    · exact dep_append u v 0
  | c :: u, v, d + 1 => by
    rw [List.cons_append, depD, depD]
    split
    · rfl
    split
    · exact dep_append u v (d + 2)
    split
    · exact dep_append u v d
    · exact dep_append u v (d + 1)
theorem open_not23 (c : Int) (h : opnC c = true) : c ≠ 23 := fun e => by rw [e] at h; cases h
theorem dep_open (d : Nat) (c : Int) (l : List Int) (h : opnC c = true) : depD d (c :: l) = depD (d + 1) l := by
  have hb := (open_not c h).2
  cases d <;> rw [depD, if_neg hb, if_pos h]
theorem dep_pdi (d : Nat) (l : List Int) : depD (d + 1) (23 :: l) = depD d l := by
  rw [depD, if_neg (by decide), if_neg (by decide), if_pos rfl]
theorem dep_skip (d : Nat) (c : Int) (l : List Int) (h1 : c ≠ 11) (h2 : opnC c = false) (h3 : c ≠ 23) : depD d (c :: l) = depD d l := by
  cases d <;> rw [depD, if_neg h1, if_neg (by rw [h2]; decide), if_neg h3]
/-- what both automata do behind a list that keeps its depth -/
theorem fstI_dep : ∀ (u v : List Int) (d d' : Nat), depD d u = some d' → fstI d (u ++ v) = if fst0 d u ≠ 0 then fst0 d u else fstI d' v
  | [], v, d, d', h => by
    have e : d = d' := by cases d <;> (simp only [depD, Option.some.injEq] at h; exact h)
    subst e
    have : fst0 d [] = 0 := by cases d <;> rfl
    rw [this]; simp
  | c :: u, v, 0, d', h => by
    rw [List.cons_append, fstI, fst0]
    rw [depD] at h
    split
    · rename_i hs
      have : c ≠ 0 := fun e => by subst e; cases hs
      rw [if_pos this]
    split
    · rename_i hb; rw [if_pos hb] at h; cases h
    · rename_i hs hb
      rw [if_neg hb] at h
      split
      · rename_i ho; rw [if_pos ho] at h; exact fstI_dep u v 1 d' h
      · rename_i ho
        rw [if_neg ho] at h
        split
        · rename_i hp; rw [if_pos hp] at h; cases h
        · rename_i hp; rw [if_neg hp] at h; exact fstI_dep u v 0 d' h
  | c :: u, v, d + 1, d', h => by
    rw [List.cons_append, fstI, fst0]
    rw [depD] at h
    split
    · rename_i hb; rw [if_pos hb] at h; cases h
    · rename_i hb
      rw [if_neg hb] at h
      split
      · rename_i ho; rw [if_pos ho] at h; exact fstI_dep u v (d + 2) d' h
      · rename_i ho
        rw [if_neg ho] at h
        split
        · rename_i hp; rw [if_pos hp] at h; exact fstI_dep u v d d' h
        · rename_i hp; rw [if_neg hp] at h; exact fstI_dep u v (d + 1) d' h
theorem fst0_dep : ∀ (u v : List Int) (d d' : Nat), depD d u = some d' → fst0 d (u ++ v) = if fst0 d u ≠ 0 then fst0 d u else fst0 d' v
  | [], v, d, d', h => by
    have e : d = d' := by cases d <;> (simp only [depD, Option.some.injEq] at h; exact h)
    subst e
    have : fst0 d [] = 0 := by cases d <;> rfl
    rw [this]; simp
  | c :: u, v, 0, d', h => by
    rw [List.cons_append, fst0, fst0]
    rw [depD] at h
    split
    · rename_i hs
      have : c ≠ 0 := fun e => by subst e; cases hs
      rw [if_pos this]
    split
    · rename_i hb; rw [if_pos hb] at h; cases h
    · rename_i hs hb
      rw [if_neg hb] at h
      split
      · rename_i ho; rw [if_pos ho] at h; exact fst0_dep u v 1 d' h
      · rename_i ho
        rw [if_neg ho] at h
        by_cases hp : c = 23
        · rw [if_pos hp] at h; cases h
        · rw [if_neg hp] at h; exact fst0_dep u v 0 d' h
  | c :: u, v, d + 1, d', h => by
    rw [List.cons_append, fst0, fst0]
    rw [depD] at h
    split
    · rename_i hb; rw [if_pos hb] at h; cases h
    · rename_i hb
      rw [if_neg hb] at h
      split
      · rename_i ho; rw [if_pos ho] at h; exact fst0_dep u v (d + 2) d' h
      · rename_i ho
        rw [if_neg ho] at h
        split
        · rename_i hp; rw [if_pos hp] at h; exact fst0_dep u v d d' h
        · rename_i hp; rw [if_neg hp] at h; exact fst0_dep u v (d + 1) d' h

/-- the part of a list from x up to k -/
def segL (cs : List Int) (x k : Nat) : List Int := (cs.drop x).take (k - x)
theorem seg_nil (cs : List Int) (x : Nat) : segL cs x x = [] := by unfold segL; simp
theorem seg_cons (cs : List Int) (x k : Nat) (h : x < k) (hk : x < cs.length) : segL cs x k = cs.getD x 0 :: segL cs (x + 1) k := by
  unfold segL
  rw [drop_at cs x hk, show k - x = (k - (x + 1)) + 1 by omega, List.take_succ_cons]
theorem seg_append (cs : List Int) (x y k : Nat) (h : x ≤ y) (hk : y ≤ k) : segL cs x k = segL cs x y ++ segL cs y k := by
  unfold segL
  rw [show k - x = (y - x) + (k - y) by omega, List.take_add, List.drop_drop, show x + (y - x) = y by omega]
theorem seg_rest (cs : List Int) (x k : Nat) (h : x ≤ k) : cs.drop x = segL cs x k ++ cs.drop k := by
  unfold segL
  conv => lhs; rw [← List.take_append_drop (k - x) (cs.drop x)]
  rw [List.drop_drop, show x + (k - x) = k by omega]

section
variable {cs : List Int}
/-- between an initiator and its PDI -/
theorem pair_dep : ∀ (m i k : Nat), k - i ≤ m → i < k → k < cs.length → PairM cs (matL cs) i k → ∀ d, depD d (segL cs (i + 1) k) = some d := by
  intro m
  induction m with
  | zero => intro i k h1 h2; omega
  | succ m ih =>
    intro i k hm hik hk hP d
    have key : ∀ (r x : Nat), k - x ≤ r → i < x → x ≤ k → (∀ z, i < z → z < x → (matL cs).getD z 0 = -1 ∨ ∃ y : Nat, (matL cs).getD z 0 = y ∧ y < x) → depD d (segL cs x k) = some d := by
      intro r
      induction r with
      | zero => intro x h1 h2 h3 _; obtain rfl : x = k := by omega
                rw [seg_nil]; cases d <;> rfl
      | succ r ihr =>
        intro x h1 h2 h3 hlev
        by_cases e : x = k
        · subst e; rw [seg_nil]; cases d <;> rfl
        obtain ⟨c1, c2⟩ := hP x h2 (by omega)
        rcases c2 with ⟨c3, c4, c5⟩ | ⟨y, y1, y2, y3⟩
        · rw [seg_cons cs x k (by omega) (by omega), dep_skip d _ _ c1 c5 c4]
          refine ihr (x + 1) (by omega) (by omega) (by omega) fun z z1 z2 => ?_
          by_cases ez : z = x
          · subst ez; exact .inl c3
          · rcases hlev z z1 (by omega) with h | ⟨q, q1, q2⟩
            · exact .inl h
            · exact .inr ⟨q, q1, by omega⟩
        · rcases (inv_mat cs cs.length).vals x (by omega) with hv | ⟨q, q1, q2, q3, q4, q5, q6⟩
          · have hv' : (matL cs).getD x 0 = -1 := hv
            omega
          · have q1' : (matL cs).getD x 0 = q := q1
            have q3' : (matL cs).getD q 0 = x := q3
            obtain rfl : q = y := by omega
            have hxq : x < q := by
              rcases Nat.lt_or_ge x q with h | h
              · exact h
              · rcases hlev q y2 (by omega) with h5 | ⟨q', h5, h6⟩
                · omega
                · omega
            obtain ⟨o1, o2, o3⟩ := q4 hxq
            rw [seg_cons cs x k (by omega) (by omega), dep_open d _ _ o1, seg_append cs (x + 1) q k (by omega) (by omega), dep_append, ih x q (by omega) hxq q2 o3 (d + 1), Option.bind_some, seg_cons cs q k y3 q2, o2, dep_pdi]
            refine ihr (q + 1) (by omega) (by omega) (by omega) fun z z1 z2 => ?_
            by_cases ez : z < x
            · rcases hlev z z1 ez with h | ⟨u, u1, u2⟩
              · exact .inl h
              · exact .inr ⟨u, u1, by omega⟩
            · by_cases ez2 : z = x
              · subst ez2; exact .inr ⟨q, q1', by omega⟩
              · by_cases ez3 : z = q
                · subst ez3; exact .inr ⟨x, q3', by omega⟩
                · obtain ⟨_, p2⟩ := o3 z (by omega) (by omega)
                  rcases p2 with ⟨p3, _⟩ | ⟨u, u1, u2, u3⟩
                  · exact .inl p3
                  · exact .inr ⟨u, u1, by omega⟩
    exact key (k - (i + 1)) (i + 1) (Nat.le_refl _) (by omega) hik (fun z z1 z2 => by omega)
/-- behind an initiator without a PDI -/
theorem lone_dep (i b : Nat) (hb : b ≤ cs.length) (hL : LoneM cs (matL cs) i b) : ∀ (r x d : Nat), b - x ≤ r → i < x → x ≤ b → (∀ z, i < z → z < x → (matL cs).getD z 0 = -1 ∨ ∃ y : Nat, (matL cs).getD z 0 = y ∧ y < x) → ∃ d', depD d (segL cs x b) = some d' := by
  intro r
  induction r with
  | zero =>
    intro x d h1 h2 h3 _
    obtain rfl : x = b := by omega
    exact ⟨d, by rw [seg_nil]; cases d <;> rfl⟩
  | succ r ih =>
    intro x d h1 h2 h3 hlev
    by_cases e : x = b
    · subst e; exact ⟨d, by rw [seg_nil]; cases d <;> rfl⟩
    obtain ⟨c1, c2⟩ := hL x h2 (by omega)
    rcases c2 with ⟨c3, c4⟩ | ⟨y, y1, y2, y3⟩
    · have hnext : ∀ z, i < z → z < x + 1 → (matL cs).getD z 0 = -1 ∨ ∃ y : Nat, (matL cs).getD z 0 = y ∧ y < x + 1 := fun z z1 z2 => by
        by_cases ez : z = x
        · subst ez; exact .inl c3
        · rcases hlev z z1 (by omega) with h | ⟨q, q1, q2⟩
          · exact .inl h
          · exact .inr ⟨q, q1, by omega⟩
      rw [seg_cons cs x b (by omega) (by omega)]
      cases ho : opnC (cs.getD x 0) with
      | true =>
        rw [dep_open d _ _ ho]
        exact ih (x + 1) (d + 1) (by omega) (by omega) (by omega) hnext
      | false =>
        rw [dep_skip d _ _ c1 ho c4]
        exact ih (x + 1) d (by omega) (by omega) (by omega) hnext
    · rcases (inv_mat cs cs.length).vals x (by omega) with hv | ⟨q, q1, q2, q3, q4, q5, q6⟩
      · have hv' : (matL cs).getD x 0 = -1 := hv
        omega
      · have q1' : (matL cs).getD x 0 = q := q1
        have q3' : (matL cs).getD q 0 = x := q3
        obtain rfl : q = y := by omega
        have hxq : x < q := by
          rcases Nat.lt_or_ge x q with h | h
          · exact h
          · rcases hlev q y2 (by omega) with h5 | ⟨q', h5, h6⟩
            · omega
            · omega
        obtain ⟨o1, o2, o3⟩ := q4 hxq
        rw [seg_cons cs x b (by omega) (by omega), dep_open d _ _ o1, seg_append cs (x + 1) q b (by omega) (by omega), dep_append, pair_dep (q - x) x q (Nat.le_refl _) hxq q2 o3 (d + 1), Option.bind_some, seg_cons cs q b y3 q2, o2, dep_pdi]
        refine ih (q + 1) d (by omega) (by omega) (by omega) fun z z1 z2 => ?_
        by_cases ez : z < x
        · rcases hlev z z1 ez with h | ⟨u, u1, u2⟩
          · exact .inl h
          · exact .inr ⟨u, u1, by omega⟩
        · by_cases ez2 : z = x
          · subst ez2; exact .inr ⟨q, q1', by omega⟩
          · by_cases ez3 : z = q
            · subst ez3; exact .inr ⟨x, q3', by omega⟩
            · obtain ⟨_, p2⟩ := o3 z (by omega) (by omega)
              rcases p2 with ⟨p3, _⟩ | ⟨u, u1, u2, u3⟩
              · exact .inl p3
              · exact .inr ⟨u, u1, by omega⟩
/-- where the isolate of an initiator ends: at its PDI, else at the list's end -/
def endI (cs : List Int) (i : Nat) : Int := if (matL cs).getD i 0 < 0 then cs.length else (matL cs).getD i 0
/-- what an FSI isolates, told by the rest of the list alone -/
theorem first_iso (i : Nat) (hi : i < cs.length) (ho : opnC (cs.getD i 0) = true) : firstV cs ((i : Int) + 1) (endI cs i) = fstI 0 (cs.drop (i + 1)) := by
  rcases (inv_mat cs cs.length).vals i hi with hv | ⟨k, k1, k2, k3, k4, k5, k6⟩
  · have hv' : (matL cs).getD i 0 = -1 := hv
    have he : endI cs i = cs.length := by unfold endI; rw [hv', if_pos (by decide)]
    rw [he]
    have hfv : firstV cs ((i : Int) + 1) cs.length = fst0 0 (cs.drop (i + 1)) := by
      unfold firstV
      simp only
      have e1 : max ((i : Int) + 1) 0 = ((i + 1 : Nat) : Int) := by omega
      rw [e1, Int.min_self]
      by_cases h : (cs.length : Int) ≤ ((i + 1 : Nat) : Int)
      · rw [if_pos h, List.drop_of_length_le (by omega)]; rfl
      · rw [if_neg h]
        congr 1
        simp only [Int.toNat_natCast]
        exact List.take_of_length_le (by rw [List.length_drop]; omega)
    rw [hfv]
    have hcase : ∃ b, b ≤ cs.length ∧ i < b ∧ (b = cs.length ∨ cs.getD b 0 = 11) ∧ LoneM cs (matL cs) i b := by
      rcases (inv_mat cs cs.length).lone i hi ho hv with hm | ⟨q, q1, q2, q3, q4⟩
      · exact ⟨cs.length, Nat.le_refl _, hi, .inl rfl, ((inv_mat cs cs.length).stk_lt i hm).2.2.2⟩
      · exact ⟨q, by omega, q1, .inr q3, q4⟩
    obtain ⟨b, b1, b2, b3, b4⟩ := hcase
    obtain ⟨d', hd⟩ := lone_dep i b b1 b4 (b - (i + 1)) (i + 1) 0 (Nat.le_refl _) (by omega) (by omega) (fun z z1 z2 => by omega)
    rw [seg_rest cs (i + 1) b (by omega), fst0_dep _ _ 0 d' hd, fstI_dep _ _ 0 d' hd]
    have hz : ∀ e, fst0 e (cs.drop b) = 0 ∧ fstI e (cs.drop b) = 0 := fun e => by
      by_cases hbl : b = cs.length
      · rw [List.drop_of_length_le (by omega)]
        exact ⟨by cases e <;> rfl, by cases e <;> rfl⟩
      · have h11 : cs.getD b 0 = 11 := by
          rcases b3 with h | h
          · exact absurd h hbl
          · exact h
        rw [drop_at cs b (by omega), h11]
        refine ⟨?_, ?_⟩
        · cases e with
          | zero => rw [fst0, if_neg (by decide), if_pos rfl]
          | succ e => rw [fst0, if_pos rfl]
        · cases e with
          | zero => rw [fstI, if_neg (by decide), if_pos rfl]
          | succ e => rw [fstI, if_pos rfl]
    rw [(hz d').1, (hz d').2]
  · have k1' : (matL cs).getD i 0 = k := k1
    have he : endI cs i = k := by unfold endI; rw [k1', if_neg (by omega)]
    rw [he]
    have hik : i < k := by
      rcases Nat.lt_or_ge i k with h5 | h5
      · exact h5
      · have := (k5 (by omega)).2
        rw [this] at ho; cases ho
    obtain ⟨o1, o2, o3⟩ := k4 hik
    have hfv : firstV cs ((i : Int) + 1) k = fst0 0 (segL cs (i + 1) k) := by
      unfold firstV segL
      simp only
      have e1 : max ((i : Int) + 1) 0 = ((i + 1 : Nat) : Int) := by omega
      have e2 : min (k : Int) (cs.length : Int) = (k : Int) := by omega
      rw [e1, e2]
      by_cases h : (k : Int) ≤ ((i + 1 : Nat) : Int)
      · rw [if_pos h, show k - (i + 1) = 0 by omega, List.take_zero]; rfl
      · rw [if_neg h]
        simp
    rw [hfv, seg_rest cs (i + 1) k (by omega), fstI_dep _ _ 0 0 (pair_dep (k - i) i k (Nat.le_refl _) hik k2 o3 0), drop_at cs k k2, o2]
    have : fstI 0 (23 :: cs.drop (k + 1)) = 0 := by rw [fstI, if_neg (by decide), if_neg (by decide), if_neg (by decide), if_pos rfl]
    rw [this]
    split
    · rfl
    · rename_i h
      simpa using h
end
end Go.Proofs.Ytjdkpnmejkbkiaa
