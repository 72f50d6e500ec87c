/-
  Mathematics of the first strong class: an automaton that counts its depth, that it skips what lies between an initiator and its PDI, that the contents of an isolate do not matter. No program, no condition.
-/
import Derived.Test.YtjdkpnmejkbkiaaMat
set_option linter.unusedVariables false
set_option linter.unusedSimpArgs false
namespace Go.Proofs.Ytjdkpnmejkbkiaa

def strC (c : Int) : Bool := c == 1 || c == 2 || c == 3
/-- the first strong class, at a depth -/
def fst0 : Nat → List Int → Int
  | _, [] => 0
  | 0, c :: l => if strC c = true then c else if c = 11 then 0 else if opnC c = true then fst0 1 l else fst0 0 l
  | d + 1, c :: l => if c = 11 then 0 else if opnC c = true then fst0 (d + 2) l else if c = 23 then fst0 d l else fst0 (d + 1) l
theorem drop_at (cs : List Int) (x : Nat) (h : x < cs.length) : cs.drop x = cs.getD x 0 :: cs.drop (x + 1) := by
  rw [List.drop_eq_getElem_cons h, List.getD_eq_getElem?_getD, List.getElem?_eq_getElem h]; rfl
theorem fst_in_open (d : Nat) (cs : List Int) (x : Nat) (h : x < cs.length) (ho : opnC (cs.getD x 0) = true) : fst0 (d + 1) (cs.drop x) = fst0 (d + 2) (cs.drop (x + 1)) := by
  rw [drop_at cs x h, fst0, if_neg (fun e => by rw [e] at ho; cases ho), if_pos ho]
theorem fst_in_pdi (d : Nat) (cs : List Int) (x : Nat) (h : x < cs.length) (ho : cs.getD x 0 = 23) : fst0 (d + 1) (cs.drop x) = fst0 d (cs.drop (x + 1)) := by
  rw [drop_at cs x h, fst0, if_neg (by rw [ho]; decide), if_neg (by rw [ho]; decide), if_pos ho]
theorem fst_in_skip (d : Nat) (cs : List Int) (x : Nat) (h : x < cs.length) (h1 : cs.getD x 0 ≠ 11) (h2 : opnC (cs.getD x 0) = false) (h3 : cs.getD x 0 ≠ 23) : fst0 (d + 1) (cs.drop x) = fst0 (d + 1) (cs.drop (x + 1)) := by
  rw [drop_at cs x h, fst0, if_neg h1, if_neg (by rw [h2]; decide), if_neg h3]
theorem fst_in_b (d : Nat) (cs : List Int) (x : Nat) (h : x < cs.length) (h1 : cs.getD x 0 = 11) : fst0 (d + 1) (cs.drop x) = 0 := by
  rw [drop_at cs x h, fst0, if_pos h1]
theorem fst_end (d : Nat) (cs : List Int) (x : Nat) (h : cs.length ≤ x) : fst0 d (cs.drop x) = 0 := by
  rw [List.drop_of_length_le h, fst0]

section
variable {cs : List Int}
/-- between an initiator and its PDI the depth comes back to what it was -/
theorem fst_pair : ∀ (m i k : Nat), k - i ≤ m → i < k → k < cs.length → PairM cs (matL cs) i k → ∀ d, fst0 (d + 1) (cs.drop (i + 1)) = fst0 (d + 1) (cs.drop k) := by
  intro m
  induction m with
  | zero => intro i k h1 h2; omega
  | succ m ih =>
    intro i k hm hik hk hP d
    have key : ∀ (r x : Nat), k - x ≤ r → i < x → x ≤ k → (∀ z, i < z → z < x → (matL cs).getD z 0 = -1 ∨ ∃ y : Nat, (matL cs).getD z 0 = y ∧ y < x) → fst0 (d + 1) (cs.drop x) = fst0 (d + 1) (cs.drop k) := by
      intro r
      induction r with
      | zero => intro x h1 h2 h3 _; obtain rfl : x = k := by omega
                rfl
      | succ r ihr =>
        intro x h1 h2 h3 hlev
        by_cases e : x = k
        · subst e; rfl
        obtain ⟨c1, c2⟩ := hP x h2 (by omega)
        rcases c2 with ⟨c3, c4, c5⟩ | ⟨y, y1, y2, y3⟩
        · rw [fst_in_skip d cs x (by omega) c1 c5 c4]
          refine ihr (x + 1) (by omega) (by omega) (by omega) fun z z1 z2 => ?_
          by_cases ez : z = x
          · subst ez; exact .inl c3
          · rcases hlev z z1 (by omega) with h | ⟨q, q1, q2⟩
            · exact .inl h
            · exact .inr ⟨q, q1, by omega⟩
        · rcases (inv_mat cs cs.length).vals x (by omega) with hv | ⟨q, q1, q2, q3, q4, q5, q6⟩
          · have hv' : (matL cs).getD x 0 = -1 := hv
            omega
          · have q1' : (matL cs).getD x 0 = q := q1
            have q3' : (matL cs).getD q 0 = x := q3
            obtain rfl : q = y := by omega
            have hxq : x < q := by
              rcases Nat.lt_or_ge x q with h | h
              · exact h
              · rcases hlev q y2 (by omega) with h5 | ⟨q', h5, h6⟩
                · omega
                · omega
            obtain ⟨o1, o2, o3⟩ := q4 hxq
            rw [fst_in_open d cs x (by omega) o1, ih x q (by omega) hxq q2 o3 (d + 1), fst_in_pdi (d + 1) cs q q2 o2]
            refine ihr (q + 1) (by omega) (by omega) (by omega) fun z z1 z2 => ?_
            by_cases ez : z < x
            · rcases hlev z z1 ez with h | ⟨u, u1, u2⟩
              · exact .inl h
              · exact .inr ⟨u, u1, by omega⟩
            · by_cases ez2 : z = x
              · subst ez2; exact .inr ⟨q, q1', by omega⟩
              · by_cases ez3 : z = q
                · subst ez3; exact .inr ⟨x, q3', by omega⟩
                · obtain ⟨_, p2⟩ := o3 z (by omega) (by omega)
                  rcases p2 with ⟨p3, _⟩ | ⟨u, u1, u2, u3⟩
                  · exact .inl p3
                  · exact .inr ⟨u, u1, by omega⟩
    exact key (k - (i + 1)) (i + 1) (Nat.le_refl _) (by omega) hik (fun z z1 z2 => by omega)
/-- behind an initiator without a PDI nothing is found -/
theorem fst_lone (i b : Nat) (hb : b ≤ cs.length) (hB : b = cs.length ∨ cs.getD b 0 = 11) (hL : LoneM cs (matL cs) i b) : ∀ (r x d : Nat), b - x ≤ r → i < x → x ≤ b → (∀ z, i < z → z < x → (matL cs).getD z 0 = -1 ∨ ∃ y : Nat, (matL cs).getD z 0 = y ∧ y < x) → fst0 (d + 1) (cs.drop x) = 0 := by
  intro r
  induction r with
  | zero =>
    intro x d h1 h2 h3 _
    obtain rfl : x = b := by omega
    rcases hB with h | h
    · exact fst_end _ _ _ (by omega)
    · rcases Nat.lt_or_ge x cs.length with h4 | h4
      · exact fst_in_b _ _ _ h4 h
      · exact fst_end _ _ _ h4
  | succ r ih =>
    intro x d h1 h2 h3 hlev
    by_cases e : x = b
    · subst e
      rcases hB with h | h
      · exact fst_end _ _ _ (by omega)
      · rcases Nat.lt_or_ge x cs.length with h4 | h4
        · exact fst_in_b _ _ _ h4 h
        · exact fst_end _ _ _ h4
    obtain ⟨c1, c2⟩ := hL x h2 (by omega)
    rcases c2 with ⟨c3, c4⟩ | ⟨y, y1, y2, y3⟩
    · have hnext : ∀ z, i < z → z < x + 1 → (matL cs).getD z 0 = -1 ∨ ∃ y : Nat, (matL cs).getD z 0 = y ∧ y < x + 1 := fun z z1 z2 => by
        by_cases ez : z = x
        · subst ez; exact .inl c3
        · rcases hlev z z1 (by omega) with h | ⟨q, q1, q2⟩
          · exact .inl h
          · exact .inr ⟨q, q1, by omega⟩
      cases ho : opnC (cs.getD x 0) with
      | true =>
        rw [fst_in_open d cs x (by omega) ho]
        exact ih (x + 1) (d + 1) (by omega) (by omega) (by omega) hnext
      | false =>
        rw [fst_in_skip d cs x (by omega) c1 ho c4]
        exact ih (x + 1) d (by omega) (by omega) (by omega) hnext
    · rcases (inv_mat cs cs.length).vals x (by omega) with hv | ⟨q, q1, q2, q3, q4, q5, q6⟩
      · have hv' : (matL cs).getD x 0 = -1 := hv
        omega
      · have q1' : (matL cs).getD x 0 = q := q1
        have q3' : (matL cs).getD q 0 = x := q3
        obtain rfl : q = y := by omega
        have hxq : x < q := by
          rcases Nat.lt_or_ge x q with h | h
          · exact h
          · rcases hlev q y2 (by omega) with h5 | ⟨q', h5, h6⟩
            · omega
            · omega
        obtain ⟨o1, o2, o3⟩ := q4 hxq
        rw [fst_in_open d cs x (by omega) o1, fst_pair (q - x) x q (Nat.le_refl _) hxq q2 o3 (d + 1), fst_in_pdi (d + 1) cs q q2 o2]
        refine ih (q + 1) d (by omega) (by omega) (by omega) fun z z1 z2 => ?_
        by_cases ez : z < x
        · rcases hlev z z1 ez with h | ⟨u, u1, u2⟩
          · exact .inl h
          · exact .inr ⟨u, u1, by omega⟩
        · by_cases ez2 : z = x
          · subst ez2; exact .inr ⟨q, q1', by omega⟩
          · by_cases ez3 : z = q
            · subst ez3; exact .inr ⟨x, q3', by omega⟩
            · obtain ⟨_, p2⟩ := o3 z (by omega) (by omega)
              rcases p2 with ⟨p3, _⟩ | ⟨u, u1, u2, u3⟩
              · exact .inl p3
              · exact .inr ⟨u, u1, by omega⟩
/-- what the loop over the matches does at each place that it comes to -/
theorem fst_strong (x : Nat) (h : x < cs.length) (h1 : strC (cs.getD x 0) = true) : fst0 0 (cs.drop x) = cs.getD x 0 := by
  rw [drop_at cs x h, fst0, if_pos h1]
theorem fst_b (x : Nat) (h : x < cs.length) (h1 : cs.getD x 0 = 11) : fst0 0 (cs.drop x) = 0 := by
  rw [drop_at cs x h, fst0, if_neg (by rw [h1]; decide), if_pos h1]
theorem open_not (c : Int) (h : opnC c = true) : strC c = false ∧ c ≠ 11 := by
  unfold opnC at h
  simp only [Bool.or_eq_true, beq_iff_eq] at h
  rcases h with (rfl | rfl) | rfl <;> exact ⟨rfl, by decide⟩
theorem fst_open_none (x : Nat) (h : x < cs.length) (h1 : opnC (cs.getD x 0) = true) (h2 : (matL cs).getD x 0 = -1) : fst0 0 (cs.drop x) = 0 := by
  obtain ⟨a, b⟩ := open_not _ h1
  rw [drop_at cs x h, fst0, if_neg (by rw [a]; decide), if_neg b, if_pos h1]
  have hi := inv_mat cs cs.length
  rcases hi.lone x h h1 h2 with hm | ⟨q, q1, q2, q3, q4⟩
  · exact fst_lone x cs.length (Nat.le_refl _) (.inl rfl) (hi.stk_lt x hm).2.2.2 (cs.length - (x + 1)) (x + 1) 0 (Nat.le_refl _) (by omega) (by omega) (fun z z1 z2 => by omega)
  · exact fst_lone x q (by omega) (.inr q3) q4 (q - (x + 1)) (x + 1) 0 (Nat.le_refl _) (by omega) (by omega) (fun z z1 z2 => by omega)
theorem fst_open_some (x k : Nat) (h : x < cs.length) (h1 : opnC (cs.getD x 0) = true) (h2 : (matL cs).getD x 0 = k) : x < k ∧ k < cs.length ∧ fst0 0 (cs.drop x) = fst0 0 (cs.drop (k + 1)) := by
  obtain ⟨a, b⟩ := open_not _ h1
  rcases (inv_mat cs cs.length).vals x h with hv | ⟨q, q1, q2, q3, q4, q5, q6⟩
  · have hv' : (matL cs).getD x 0 = -1 := hv
    omega
  · have q1' : (matL cs).getD x 0 = q := q1
    obtain rfl : q = k := by omega
    have hxq : x < q := by
      rcases Nat.lt_or_ge x q with h5 | h5
      · exact h5
      · have := (q5 (by omega)).2
        rw [this] at h1; cases h1
    obtain ⟨o1, o2, o3⟩ := q4 hxq
    refine ⟨hxq, q2, ?_⟩
    rw [drop_at cs x h, fst0, if_neg (by rw [a]; decide), if_neg b, if_pos h1, fst_pair (q - x) x q (Nat.le_refl _) hxq q2 o3 0, fst_in_pdi 0 cs q q2 o2]
theorem fst_skip (x : Nat) (h : x < cs.length) (h1 : strC (cs.getD x 0) = false) (h2 : cs.getD x 0 ≠ 11) (h3 : opnC (cs.getD x 0) = false) : fst0 0 (cs.drop x) = fst0 0 (cs.drop (x + 1)) := by
  rw [drop_at cs x h, fst0, if_neg (by rw [h1]; decide), if_neg h2, if_neg (by rw [h3]; decide)]
end

/-- what a front part leads to: an answer, or a depth -/
def run0 : Nat → List Int → Int ⊕ Nat
  | d, [] => .inr d
  | 0, c :: l => if strC c = true then .inl c else if c = 11 then .inl 0 else if opnC c = true then run0 1 l else run0 0 l
  | d + 1, c :: l => if c = 11 then .inl 0 else if opnC c = true then run0 (d + 2) l else if c = 23 then run0 d l else run0 (d + 1) l
theorem fst_run : ∀ (u v : List Int) (d : Nat), fst0 d (u ++ v) = (match run0 d u with | .inl r => r | .inr d' => fst0 d' v)
  | [], v, d => by simp [run0]
  | c :: u, v, 0 => by
    rw [List.cons_append, fst0, run0]
    split
    · rfl
    split
    · rfl
    split
    · exact fst_run u v 1
    · exact fst_run u v 0
  | c :: u, v, d + 1 => by
    rw [List.cons_append, fst0, run0]
    split
    · rfl
    split
    · exact fst_run u v (d + 2)
    split
    · exact fst_run u v d
    · exact fst_run u v (d + 1)
theorem fst_plain : ∀ (u v : List Int) (d : Nat), (∀ c ∈ u, c ≠ 11 ∧ opnC c = false ∧ c ≠ 23) → fst0 (d + 1) (u ++ v) = fst0 (d + 1) v
  | [], v, d, _ => rfl
  | c :: u, v, d, h => by
    obtain ⟨a, b, e⟩ := h c (by simp)
    rw [List.cons_append, fst0, if_neg a, if_neg (by rw [b]; decide), if_neg e]
    exact fst_plain u v d (fun x hx => h x (by simp [hx]))
/-- other classes between an initiator and its PDI do not change what is found first -/
theorem fst_hides (cs more : List Int) (i k : Nat) (hi : i < cs.length) (hm : (matL cs).getD i 0 = (k : Int)) (hik : i < k) (hmore : ∀ c ∈ more, c ≠ 11 ∧ opnC c = false ∧ c ≠ 23) : fst0 0 cs = fst0 0 (cs.take (i + 1) ++ more ++ cs.drop k) := by
  rcases (inv_mat cs cs.length).vals i hi with hv | ⟨q, q1, q2, q3, q4, q5, q6⟩
  · have hv' : (matL cs).getD i 0 = -1 := hv
    omega
  · have q1' : (matL cs).getD i 0 = q := q1
    obtain rfl : q = k := by omega
    obtain ⟨o1, o2, o3⟩ := q4 hik
    have e1 : cs = cs.take i ++ (cs.getD i 0 :: cs.drop (i + 1)) := by
      rw [← drop_at cs i hi, List.take_append_drop]
    have e2 : cs.take (i + 1) ++ more ++ cs.drop q = cs.take i ++ (cs.getD i 0 :: (more ++ cs.drop q)) := by
      have e3 : cs.take (i + 1) = cs.take i ++ [cs.getD i 0] := by
        rw [List.take_add_one, List.getD_eq_getElem?_getD, List.getElem?_eq_getElem hi]; rfl
      rw [e3, List.append_assoc, List.append_assoc]
      rfl
    rw [e2]
    conv => lhs; rw [e1]
    rw [fst_run, fst_run]
    obtain ⟨a, b⟩ := open_not _ o1
    cases hr : run0 0 (cs.take i) with
    | inl r => rfl
    | inr d =>
      show fst0 d _ = fst0 d _
      cases d with
      | zero =>
        rw [fst0, if_neg (by rw [a]; decide), if_neg b, if_pos o1, fst0, if_neg (by rw [a]; decide), if_neg b, if_pos o1, fst_pair (q - i) i q (Nat.le_refl _) hik q2 o3 0, fst_plain more _ 0 hmore]
      | succ d =>
        rw [fst0, if_neg b, if_pos o1, fst0, if_neg b, if_pos o1, fst_pair (q - i) i q (Nat.le_refl _) hik q2 o3 (d + 1), fst_plain more _ (d + 1) hmore]
/-- the first strong class of a range, and the level -/
def firstV (cs : List Int) (a b : Int) : Int :=
  let f := max a 0
  let t := min b cs.length
  if t ≤ f then 0 else fst0 0 ((cs.drop f.toNat).take (t.toNat - f.toNat))
theorem firstV_all (cs : List Int) : firstV cs 0 cs.length = fst0 0 cs := by
  unfold firstV
  simp only [Int.max_self, Int.min_self]
  split
  · have : cs = [] := List.eq_nil_of_length_eq_zero (by omega)
    subst this
    rfl
  · simp
theorem fst_or : ∀ (d : Nat) (l : List Int), fst0 d l = 0 ∨ strC (fst0 d l) = true
  | d, [] => .inl (by cases d <;> rfl)
  | 0, c :: l => by
    rw [fst0]
    split
    · rename_i h; exact .inr h
    split
    · exact .inl rfl
    split
    · exact fst_or 1 l
    · exact fst_or 0 l
  | d + 1, c :: l => by
    rw [fst0]
    split
    · exact .inl rfl
    split
    · exact fst_or (d + 2) l
    split
    · exact fst_or d l
    · exact fst_or (d + 1) l
end Go.Proofs.Ytjdkpnmejkbkiaa
