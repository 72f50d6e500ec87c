/-
  Mathematics of reordering: levels as they count, the greatest and the least odd one, the maximal runs of one level, that turning the runs round is turning the places round, how many stretches all rounds turn, lists turned round in place. No program, no condition.
-/
import Derived.Test.YtnocdminhcpmpaaRoa
set_option linter.unusedVariables false
set_option linter.unusedSimpArgs false
namespace Go.Proofs.Ytnocdminhcpmpaa

/-! levels -/
def clP (z : Int) : Nat := if z < 0 then 0 else if 126 < z then 126 else z.toNat
theorem cl_int (z : Int) : ((clP z : Nat) : Int) = min (max z 0) 126 := by unfold clP; split <;> (try split) <;> omega
theorem cl_int2 (z : Int) : ((clP z : Nat) : Int) = max 0 (min z 126) := by unfold clP; split <;> (try split) <;> omega
theorem cl_le (z : Int) : clP z ≤ 126 := by unfold clP; split <;> (try split) <;> omega
def lvX (xs : List Int) (i : Nat) : Nat := clP (xs.getD i 0)
theorem lv_le (xs : List Int) (i : Nat) : lvX xs i ≤ 126 := cl_le _

def highK (lv : Nat → Nat) : Nat → Nat
  | 0 => 0
  | k + 1 => max (highK lv k) (lv k)
def lowK (lv : Nat → Nat) : Nat → Nat
  | 0 => 127
  | k + 1 => if lv k % 2 = 1 then min (lowK lv k) (lv k) else lowK lv k
section
variable {lv : Nat → Nat}
theorem high_ge : ∀ (n i : Nat), i < n → lv i ≤ highK lv n
  | n + 1, i, h => by
    rw [highK]
    by_cases e : i = n
    · subst e; omega
    · have := high_ge n i (by omega); omega
theorem high_le (h : ∀ i, lv i ≤ 126) : ∀ n, highK lv n ≤ 126
  | 0 => by simp [highK]
  | n + 1 => by rw [highK]; have := high_le h n; have := h n; omega
theorem low_odd : ∀ n, lowK lv n % 2 = 1
  | 0 => by rw [lowK]
  | n + 1 => by
    rw [lowK]
    have := low_odd n
    split
    · rename_i h
      rcases Nat.le_total (lowK lv n) (lv n) with h2 | h2
      · rw [Nat.min_eq_left h2]; exact this
      · rw [Nat.min_eq_right h2]; exact h
    · exact this
theorem low_le127 : ∀ n, lowK lv n ≤ 127
  | 0 => Nat.le_refl _
  | n + 1 => by
    rw [lowK]
    have := low_le127 n
    split <;> omega
theorem low_le : ∀ (n i : Nat), i < n → lv i % 2 = 1 → lowK lv n ≤ lv i
  | n + 1, i, h, ho => by
    rw [lowK]
    by_cases e : i = n
    · subst e; rw [if_pos ho]; omega
    · have := low_le n i (by omega) ho
      split <;> omega
end

/-! the order behind all rounds -/
def numR (lv : Nat → Nat) (n : Nat) : Nat := highK lv n + 1 - lowK lv n
def ordX (lv : Nat → Nat) (n : Nat) : List Nat := rdsG lv (lowK lv n) (numR lv n) (List.range n)
theorem ord_perm (lv : Nat → Nat) (n : Nat) : (ordX lv n).Perm (List.range n) := rds_perm lv _ _ _
theorem ord_len (lv : Nat → Nat) (n : Nat) : (ordX lv n).length = n := by rw [(ord_perm lv n).length_eq, List.length_range]
theorem ord_lt (lv : Nat → Nat) (n : Nat) {x : Nat} (h : x ∈ ordX lv n) : x < n := List.mem_range.1 ((ord_perm lv n).mem_iff.1 h)
theorem ord_vis (lv : Nat → Nat) (n : Nat) (h : ∀ i, lv i ≤ 126) : ordX lv n = visG lv (List.range n) := by
  have ho := low_odd (lv := lv) n
  have h7 := low_le127 (lv := lv) n
  have hh := high_le h n
  have hle : ∀ x ∈ List.range n, lv x ≤ highK lv n := fun x hx => high_ge n x (List.mem_range.1 hx)
  have hlo : ∀ x ∈ List.range n, lv x % 2 = 1 → lowK lv n ≤ lv x := fun x hx => low_le n x (List.mem_range.1 hx)
  unfold ordX visG numR
  generalize lowK lv n = l at *
  generalize highK lv n = m at *
  obtain ⟨c, rfl⟩ : ∃ c, l = 2 * c + 1 := ⟨l / 2, by omega⟩
  rw [show (126 : Nat) = 2 * c + (126 - 2 * c) by omega, rds_odd lv c _ _ fun x hx i hi e => by have := hlo x hx (by omega); omega]
  by_cases hml : 2 * c + 1 ≤ m + 1
  · rw [show 126 - 2 * c = (m + 1 - (2 * c + 1)) + (126 - m) by omega, rds_more lv (m + 1 - (2 * c + 1)), rds_above lv (126 - m) (2 * c + 1 + (m + 1 - (2 * c + 1))) _ fun x hx => by have := hle x hx; omega]
  · rw [show m + 1 - (2 * c + 1) = 0 by omega, rds_above lv (126 - 2 * c) (2 * c + 1) _ fun x hx => by have := hle x hx; omega]; rfl

/-! runs: from, to, level -/
abbrev Rn : Type := Nat × Nat × Nat
def gq (rs : List Rn) (j : Nat) : Rn := rs.getD j (0, 0, 0)
theorem gq_get (rs : List Rn) (j : Nat) (h : j < rs.length) : rs[j]? = some (gq rs j) := by
  unfold gq; rw [List.getD_eq_getElem?_getD, List.getElem?_eq_getElem h]; rfl
def addQ (lv : Nat → Nat) (rs : List Rn) (i : Nat) : List Rn :=
  if 0 < rs.length ∧ (gq rs (rs.length - 1)).2.2 = lv i then rs.set (rs.length - 1) ((gq rs (rs.length - 1)).1, i + 1, lv i) else rs ++ [(i, i + 1, lv i)]
def eqQ (lv : Nat → Nat) : Nat → List Rn
  | 0 => []
  | k + 1 => addQ lv (eqQ lv k) k
def spanL (r : Rn) : List Nat := List.range' r.1 (r.2.1 - r.1)
/-- a run that ends before the end -/
def MidQ (lv : Nat → Nat) (k : Nat) (r : Rn) : Prop := r.1 < r.2.1 ∧ r.2.1 < k ∧ (∀ x, r.1 ≤ x → x < r.2.1 → lv x = r.2.2) ∧ (r.1 = 0 ∨ lv (r.1 - 1) ≠ r.2.2) ∧ lv r.2.1 ≠ r.2.2
def EndQ (lv : Nat → Nat) (k : Nat) (r : Rn) : Prop := r.1 < r.2.1 ∧ r.2.1 = k ∧ (∀ x, r.1 ≤ x → x < r.2.1 → lv x = r.2.2) ∧ (r.1 = 0 ∨ lv (r.1 - 1) ≠ r.2.2)
/-- a maximal run of n places -/
def MaxQ (lv : Nat → Nat) (n : Nat) (r : Rn) : Prop := r.1 < r.2.1 ∧ r.2.1 ≤ n ∧ (∀ x, r.1 ≤ x → x < r.2.1 → lv x = r.2.2) ∧ (r.1 = 0 ∨ lv (r.1 - 1) ≠ r.2.2) ∧ (r.2.1 = n ∨ lv r.2.1 ≠ r.2.2)
theorem range'_snoc (f k : Nat) (h : f ≤ k) : List.range' f (k + 1 - f) = List.range' f (k - f) ++ [k] := by
  rw [show k + 1 - f = (k - f) + 1 by omega, List.range'_concat]
  congr 2
  omega
theorem eq_inv (lv : Nat → Nat) : ∀ k, (k = 0 ∧ eqQ lv k = []) ∨ (0 < k ∧ ∃ rs' f, eqQ lv k = rs' ++ [(f, k, lv (k - 1))] ∧ (∀ r ∈ rs', MidQ lv k r) ∧ EndQ lv k (f, k, lv (k - 1)) ∧ (eqQ lv k).flatMap spanL = List.range k)
  | 0 => .inl ⟨rfl, rfl⟩
  | k + 1 => by
    right
    refine ⟨Nat.succ_pos k, ?_⟩
    rcases eq_inv lv k with ⟨rfl, h0⟩ | ⟨hk, rs', f, h1, h2, h3, h4⟩
    · refine ⟨[], 0, ?_, (fun r hr => by cases hr), ⟨by show 0 < 0 + 1; omega, rfl, (fun x _ hx => ?_), .inl rfl⟩, ?_⟩
      · rw [eqQ, h0]; rfl
      · have : x < 0 + 1 := hx
        obtain rfl : x = 0 := by omega
        rfl
      · rw [eqQ, h0]; rfl
    · have hlen : (eqQ lv k).length = rs'.length + 1 := by rw [h1]; simp
      have hg : gq (eqQ lv k) ((eqQ lv k).length - 1) = (f, k, lv (k - 1)) := by
        unfold gq
        rw [hlen, h1, Nat.add_sub_cancel, List.getD_eq_getElem?_getD, List.getElem?_append_right (Nat.le_refl _), Nat.sub_self]; rfl
      obtain ⟨e1, e2, e3, e4⟩ := h3
      rw [eqQ]
      unfold addQ
      rw [hg]
      by_cases hs : lv (k - 1) = lv k
      · rw [if_pos ⟨by omega, hs⟩, hlen, Nat.add_sub_cancel]
        have hset : (eqQ lv k).set rs'.length (f, k + 1, lv k) = rs' ++ [(f, k + 1, lv k)] := by
          rw [h1, List.set_append_right _ _ (Nat.le_refl _), Nat.sub_self]; rfl
        refine ⟨rs', f, by rw [hset]; rfl, fun r hr => ?_, ⟨by show f < k + 1; have : f < k := e1; omega, rfl, fun x hx hx2 => ?_, ?_⟩, ?_⟩
        · obtain ⟨a, b, c, d, e⟩ := h2 r hr
          exact ⟨a, by omega, c, d, e⟩
        · show lv x = lv (k + 1 - 1)
          rw [Nat.add_sub_cancel]
          by_cases ex : x = k
          · rw [ex]
          · rw [← hs]
            exact e3 x hx (by have : x < k + 1 := hx2; show x < k; omega)
        · rcases e4 with e4 | e4
          · exact .inl e4
          · right
            show lv (f - 1) ≠ lv (k + 1 - 1)
            rw [Nat.add_sub_cancel, ← hs]
            exact e4
        · rw [hset, List.flatMap_append]
          rw [h1, List.flatMap_append] at h4
          show rs'.flatMap spanL ++ (List.range' f (k + 1 - f) ++ []) = _
          have h4' : rs'.flatMap spanL ++ (List.range' f (k - f) ++ []) = List.range k := h4
          rw [List.append_nil] at h4' ⊢
          rw [range'_snoc f k (by have : f < k := e1; omega), ← List.append_assoc, h4', List.range_succ]
      · rw [if_neg (fun h => hs h.2)]
        refine ⟨eqQ lv k, k, by rfl, fun r hr => ?_, ⟨by show k < k + 1; omega, rfl, fun x hx hx2 => ?_, .inr hs⟩, ?_⟩
        · rw [h1, List.mem_append] at hr
          rcases hr with hr | hr
          · obtain ⟨a, b, c, d, e⟩ := h2 r hr
            exact ⟨a, by omega, c, d, e⟩
          · simp at hr
            subst hr
            exact ⟨e1, Nat.lt_succ_self k, e3, e4, fun h => hs h.symm⟩
        · obtain rfl : x = k := by have : x < k + 1 := hx2; have : k ≤ x := hx; omega
          rfl
        · rw [List.flatMap_append, h4, List.range_succ]
          show List.range k ++ (List.range' k (k + 1 - k) ++ []) = _
          rw [Nat.add_sub_cancel_left]; rfl
theorem eq_flat (lv : Nat → Nat) (n : Nat) : (eqQ lv n).flatMap spanL = List.range n := by
  rcases eq_inv lv n with ⟨rfl, h⟩ | ⟨_, _, _, _, _, _, h⟩
  · rw [h]; rfl
  · exact h
theorem eq_max (lv : Nat → Nat) (n : Nat) : ∀ r ∈ eqQ lv n, MaxQ lv n r := fun r hr => by
  rcases eq_inv lv n with ⟨rfl, h⟩ | ⟨_, rs', f, h1, h2, h3, _⟩
  · rw [h] at hr; cases hr
  · rw [h1, List.mem_append] at hr
    rcases hr with hr | hr
    · obtain ⟨a, b, c, d, e⟩ := h2 r hr
      exact ⟨a, by omega, c, d, .inr e⟩
    · simp at hr
      subst hr
      obtain ⟨a, b, c, d⟩ := h3
      exact ⟨a, Nat.le_refl _, c, d, .inl rfl⟩
theorem eq_len (lv : Nat → Nat) : ∀ k, (eqQ lv k).length ≤ k
  | 0 => Nat.le_refl _
  | k + 1 => by
    have := eq_len lv k
    rw [eqQ]
    unfold addQ
    split
    · rw [List.length_set]; omega
    · simp; omega

/-! turning runs -/
def turnQ (k : Nat) (rs : List Rn) : List Rn := revG (fun r => decide (k ≤ r.2.2)) [] rs
def rdsQ (j : Nat) : Nat → List Rn → List Rn
  | 0, rs => rs
  | n + 1, rs => turnQ j (rdsQ (j + 1) n rs)
theorem rdsQ_perm : ∀ (n j : Nat) (rs : List Rn), (rdsQ j n rs).Perm rs
  | 0, j, rs => List.Perm.refl _
  | n + 1, j, rs => (rev_perm _ []).trans (rdsQ_perm n (j + 1) rs)
/-- a run behind the rounds down to k -/
def exQ (k : Nat) (r : Rn) : List Nat := if k ≤ r.2.2 ∧ (r.2.2 + 1 - k) % 2 = 1 then (spanL r).reverse else spanL r
theorem ex_mem {k : Nat} {r : Rn} {x : Nat} (h : x ∈ exQ k r) : r.1 ≤ x ∧ x < r.2.1 := by
  have : x ∈ spanL r := by
    unfold exQ at h
    split at h
    · exact List.mem_reverse.1 h
    · exact h
  unfold spanL at this
  rw [List.mem_range'_1] at this
  omega
theorem ex_len (k : Nat) (r : Rn) : (exQ k r).length = r.2.1 - r.1 := by
  unfold exQ spanL; split <;> simp
theorem ex_step (k : Nat) (r : Rn) : exQ k r = if k ≤ r.2.2 then (exQ (k + 1) r).reverse else exQ (k + 1) r := by
  unfold exQ
  by_cases h : k ≤ r.2.2
  · rw [if_pos h]
    by_cases h2 : (r.2.2 + 1 - k) % 2 = 1
    · rw [if_pos ⟨h, h2⟩, if_neg (by omega)]
    · rw [if_neg (fun e => h2 e.2), if_pos (by omega), List.reverse_reverse]
  · rw [if_neg h, if_neg (by omega), if_neg (by omega)]
theorem rev_flat {α : Type} (p : α → Bool) (q : Rn → Bool) (F G : Rn → List α) : ∀ (rs acc : List Rn), (∀ r ∈ rs, ∀ x ∈ F r, p x = q r) → (∀ r ∈ rs, F r ≠ []) → (∀ r ∈ rs, G r = if q r = true then (F r).reverse else F r) →
    revG p (acc.flatMap G) (rs.flatMap F) = (revG q acc rs).flatMap G
  | [], acc, _, _, _ => by rw [List.flatMap_nil, revG, revG]
  | r :: rs, acc, h1, h2, h3 => by
    have ih := fun a => rev_flat p q F G rs a (fun x hx => h1 x (by simp [hx])) (fun x hx => h2 x (by simp [hx])) (fun x hx => h3 x (by simp [hx]))
    have a1 := h1 r (by simp)
    have a3 := h3 r (by simp)
    rw [List.flatMap_cons, revG]
    have key : ∀ (s : List α) (acc l : List α), (∀ x ∈ s, p x = true) → revG p acc (s ++ l) = revG p (s.reverse ++ acc) l := by
      intro s
      induction s with
      | nil => intro acc l _; rfl
      | cons a s ihs =>
        intro acc l hs
        show revG p acc (a :: (s ++ l)) = _
        rw [revG, if_pos (hs a (by simp)), ihs (a :: acc) l fun x hx => hs x (by simp [hx]), List.reverse_cons]
        simp
    have key2 : ∀ (s : List α) (l : List α), (∀ x ∈ s, p x = false) → revG p [] (s ++ l) = s ++ revG p [] l := by
      intro s
      induction s with
      | nil => intro l _; rfl
      | cons a s ihs =>
        intro l hs
        show revG p [] (a :: (s ++ l)) = _
        rw [revG, if_neg (by rw [hs a (by simp)]; decide), ihs l fun x hx => hs x (by simp [hx])]; rfl
    cases hq : q r with
    | true =>
      rw [if_pos rfl, key _ _ _ fun x hx => by rw [a1 x hx, hq]]
      rw [if_pos hq] at a3
      rw [← a3, ← List.flatMap_cons (f := G)]
      exact ih (r :: acc)
    | false =>
      rw [if_neg (by decide)]
      rw [if_neg (by rw [hq]; decide)] at a3
      have a2 := h2 r (by simp)
      obtain ⟨y, s, hs⟩ : ∃ y s, F r = y :: s := by
        cases hF : F r with
        | nil => exact absurd hF a2
        | cons y s => exact ⟨y, s, rfl⟩
      have hy : p y = false := by rw [a1 y (by rw [hs]; simp), hq]
      rw [hs]
      show revG p (acc.flatMap G) (y :: (s ++ rs.flatMap F)) = _
      rw [revG, if_neg (by rw [hy]; decide), key2 s _ fun x hx => by rw [a1 x (by rw [hs]; simp [hx]), hq], List.flatMap_append, List.flatMap_cons, a3, hs]
      have := ih []
      rw [List.flatMap_nil] at this
      rw [this]
      simp
/-- runs of places, each of one level and not empty -/
def RunL (lv : Nat → Nat) (rs : List Rn) : Prop := ∀ r ∈ rs, r.1 < r.2.1 ∧ ∀ x, r.1 ≤ x → x < r.2.1 → lv x = r.2.2
theorem turn_flat (lv : Nat → Nat) (k : Nat) (rs : List Rn) (h : RunL lv rs) : rndG lv k (rs.flatMap (exQ (k + 1))) = (turnQ k rs).flatMap (exQ k) := by
  unfold rndG turnQ
  have := rev_flat (fun x => decide (k ≤ lv x)) (fun r => decide (k ≤ r.2.2)) (exQ (k + 1)) (exQ k) rs [] (fun r hr x hx => by
    obtain ⟨a, b⟩ := ex_mem hx
    rw [(h r hr).2 x a b]) (fun r hr e => by
    have := ex_len (k + 1) r
    rw [e] at this
    have := (h r hr).1
    simp at *; omega) fun r hr => by
    rw [ex_step]
    by_cases hk : k ≤ r.2.2
    · rw [if_pos hk, if_pos (decide_eq_true hk)]
    · rw [if_neg hk, if_neg (by simpa using hk)]
  rw [List.flatMap_nil] at this
  exact this
theorem rds_flat (lv : Nat → Nat) (rs : List Rn) (h : RunL lv rs) : ∀ (n j : Nat), rdsG lv j n (rs.flatMap (exQ (j + n))) = (rdsQ j n rs).flatMap (exQ j)
  | 0, j => rfl
  | n + 1, j => by
    rw [rdsG, rdsQ, show j + (n + 1) = j + 1 + n by omega, rds_flat lv rs h n (j + 1)]
    exact turn_flat lv j _ fun r hr => h r ((rdsQ_perm _ _ _).mem_iff.1 hr)

/-- the runs in their order -/
def runX (lv : Nat → Nat) (n : Nat) : List Rn := rdsQ (lowK lv n) (numR lv n) (eqQ lv n)
theorem run_max (lv : Nat → Nat) (n : Nat) : ∀ r ∈ runX lv n, MaxQ lv n r := fun r hr => eq_max lv n r ((rdsQ_perm _ _ _).mem_iff.1 hr)
theorem run_len (lv : Nat → Nat) (n : Nat) : (runX lv n).length ≤ n := by unfold runX; rw [(rdsQ_perm _ _ _).length_eq]; exact eq_len lv n
theorem run_flat (lv : Nat → Nat) (n : Nat) : ordX lv n = (runX lv n).flatMap (exQ (lowK lv n)) := by
  unfold ordX runX
  rw [← rds_flat lv (eqQ lv n) (fun r hr => by obtain ⟨a, _, c, _⟩ := eq_max lv n r hr; exact ⟨a, c⟩)]
  congr 1
  have : (eqQ lv n).flatMap (exQ (lowK lv n + numR lv n)) = (eqQ lv n).flatMap spanL := by
    rw [List.flatMap_def, List.flatMap_def]
    congr 1
    refine List.map_congr_left fun r hr => ?_
    unfold exQ
    rw [if_neg]
    rintro ⟨h1, _⟩
    obtain ⟨a, b, c, _⟩ := eq_max lv n r hr
    have h2 := high_ge (lv := lv) n r.1 (by omega)
    rw [c r.1 (Nat.le_refl _) a] at h2
    unfold numR at h1
    omega
  rw [this, eq_flat]
/-- a run as the program lays it down -/
def layQ (r : Rn) : List Nat := if r.2.2 % 2 = 1 then (spanL r).reverse else spanL r
theorem lay_len (r : Rn) : (layQ r).length = r.2.1 - r.1 := by unfold layQ spanL; split <;> simp
theorem run_lay (lv : Nat → Nat) (n : Nat) : ordX lv n = (runX lv n).flatMap layQ := by
  rw [run_flat, List.flatMap_def, List.flatMap_def]
  congr 1
  refine List.map_congr_left fun r hr => ?_
  obtain ⟨a, b, c, _⟩ := run_max lv n r hr
  have ho := low_odd (lv := lv) n
  have hl := low_le (lv := lv) n r.1 (by omega)
  rw [c r.1 (Nat.le_refl _) a] at hl
  unfold exQ layQ
  by_cases h : r.2.2 % 2 = 1
  · rw [if_pos h, if_pos ⟨hl h, by have := hl h; omega⟩]
  · rw [if_neg h, if_neg (by omega)]

/-! how many stretches -/
def cntB : Bool → List Bool → Nat
  | _, [] => 0
  | b, x :: l => (if x = true ∧ b = false then 1 else 0) + cntB x l
theorem cnt_true : ∀ (s : List Bool) (l : List Bool), (∀ x ∈ s, x = true) → cntB true (s ++ l) = cntB true l
  | [], l, _ => rfl
  | x :: s, l, h => by
    have hx := h x (by simp)
    subst hx
    show (if (true = true ∧ true = false) then 1 else 0) + cntB true (s ++ l) = _
    rw [cnt_true s l fun y hy => h y (by simp [hy])]
    simp
theorem cnt_false (b : Bool) (l : List Bool) : cntB b (false :: l) = cntB false l := by simp [cntB]
theorem cnt_stretch (s l : List Bool) (h : ∀ x ∈ s, x = true) : cntB false (s ++ false :: l) = (if s = [] then 0 else 1) + cntB false l := by
  cases s with
  | nil => rw [List.nil_append, cnt_false]; simp
  | cons x s =>
    have hx := h x (by simp)
    subst hx
    show (if (true = true ∧ false = false) then 1 else 0) + cntB true (s ++ false :: l) = _
    rw [cnt_true s _ fun y hy => h y (by simp [hy]), cnt_false]
    simp
theorem cnt_all (s : List Bool) (h : ∀ x ∈ s, x = true) : cntB false s = if s = [] then 0 else 1 := by
  cases s with
  | nil => rfl
  | cons x s =>
    have hx := h x (by simp)
    subst hx
    have := cnt_true s [] fun y hy => h y (by simp [hy])
    rw [List.append_nil] at this
    show (if (true = true ∧ false = false) then 1 else 0) + cntB true s = _
    rw [this]
    simp [cntB]
theorem cnt_snoc : ∀ (l : List Bool) (b x : Bool), cntB b (l ++ [x]) = cntB b l + if x = true ∧ l.getLastD b = false then 1 else 0
  | [], b, x => by simp [cntB]
  | y :: l, b, x => by
    show (if y = true ∧ b = false then 1 else 0) + cntB y (l ++ [x]) = (if y = true ∧ b = false then 1 else 0) + cntB y l + _
    rw [cnt_snoc l y x]
    have e : (y :: l).getLastD b = l.getLastD y := by cases l <;> rfl
    rw [e, Nat.add_assoc]
theorem map_rev {α : Type} (p q : α → Bool) (h : ∀ x, q x = true → p x = true) : ∀ (l acc : List α), (∀ x ∈ acc, p x = true) → (revG q acc l).map p = (acc ++ l).map p
  | [], acc, _ => by rw [revG, List.append_nil]
  | x :: l, acc, ha => by
    rw [revG]
    split
    · rename_i hq
      have hall : ∀ y ∈ x :: acc, p y = true := fun y hy => by
        rw [List.mem_cons] at hy
        rcases hy with rfl | hy
        · exact h _ hq
        · exact ha y hy
      rw [map_rev p q h l (x :: acc) hall, List.map_append, List.map_append, List.map_cons, List.map_cons]
      have e : ∀ (s : List α), (∀ y ∈ s, p y = true) → s.map p = List.replicate s.length true := fun s hs => by
        rw [List.eq_replicate_iff]
        refine ⟨by simp, fun b hb => ?_⟩
        obtain ⟨y, hy, rfl⟩ := List.mem_map.1 hb
        exact hs y hy
      rw [e acc ha, h _ hq]
      have : ∀ (n : Nat) (t : List Bool), true :: List.replicate n true ++ t = List.replicate n true ++ true :: t := by
        intro n t
        induction n with
        | zero => rfl
        | succ n ih => rw [List.replicate_succ, List.cons_append, ih]; rfl
      exact this _ _
    · have := map_rev p q h l [] (fun y hy => by cases hy)
      rw [List.nil_append] at this
      rw [List.map_append, List.map_cons, this, List.map_append, List.map_cons]
theorem map_rds (lv : Nat → Nat) (L : Nat) : ∀ (n j : Nat) (out : List Nat), L ≤ j → (rdsG lv j n out).map (fun x => decide (L ≤ lv x)) = out.map (fun x => decide (L ≤ lv x))
  | 0, j, out, _ => rfl
  | n + 1, j, out, h => by
    rw [rdsG]
    unfold rndG
    rw [map_rev (fun x => decide (L ≤ lv x)) (fun x => decide (j ≤ lv x)) (fun x hx => by simp at hx ⊢; omega) _ [] (fun y hy => by cases hy), List.nil_append, map_rds lv L n (j + 1) out (by omega)]
/-- stretches of the round of a level -/
def cntL (lv : Nat → Nat) (L n : Nat) : Nat := cntB false ((List.range n).map fun x => decide (L ≤ lv x))
def prevK (lv : Nat → Nat) : Nat → Nat
  | 0 => 0
  | k + 1 => lv k
theorem cnt_step (lv : Nat → Nat) (L n : Nat) (hL : 1 ≤ L) : cntL lv L (n + 1) = cntL lv L n + if prevK lv n < L ∧ L ≤ lv n then 1 else 0 := by
  unfold cntL
  rw [List.range_succ, List.map_append, List.map_cons, List.map_nil, cnt_snoc]
  congr 1
  have e : (((List.range n).map fun x => decide (L ≤ lv x)).getLastD false = false) ↔ prevK lv n < L := by
    cases n with
    | zero => simp [prevK]; omega
    | succ m =>
      rw [List.range_succ, List.map_append, List.map_cons, List.map_nil, List.getLastD_concat]
      show decide (L ≤ lv m) = false ↔ lv m < L
      simp
  by_cases h1 : L ≤ lv n
  · rw [decide_eq_true h1]
    by_cases h2 : prevK lv n < L
    · rw [if_pos ⟨rfl, e.2 h2⟩, if_pos ⟨h2, h1⟩]
    · rw [if_neg (fun h => h2 (e.1 h.2)), if_neg (fun h => h2 h.1)]
  · rw [decide_eq_false h1, if_neg (fun h => by cases h.1), if_neg (fun h => h1 h.2)]
/-- of all rounds down to level j -/
def cR (lv : Nat → Nat) (n : Nat) (j : Nat) : Nat → Nat
  | 0 => 0
  | N + 1 => cR lv n (j + 1) N + cntL lv j n
def befK (lv : Nat → Nat) (low : Nat) : Nat → Nat
  | 0 => low - 1
  | k + 1 => max (lv k) (low - 1)
def tS (lv : Nat → Nat) (low : Nat) : Nat → Nat
  | 0 => 0
  | k + 1 => tS lv low k + (max (lv k) (low - 1) - befK lv low k)
theorem cR_zero (lv : Nat → Nat) : ∀ (N j : Nat), cR lv 0 j N = 0
  | 0, j => rfl
  | N + 1, j => by rw [cR, cR_zero lv N (j + 1)]; rfl
theorem cR_succ (lv : Nat → Nat) (n : Nat) : ∀ (N j : Nat), 1 ≤ j → cR lv (n + 1) j N = cR lv n j N + (min (lv n) (j + N - 1) - max (prevK lv n) (j - 1))
  | 0, j, hj => by rw [cR, cR]; omega
  | N + 1, j, hj => by
    rw [cR, cR, cR_succ lv n N (j + 1) (by omega), cnt_step lv j n hj]
    split <;> omega
theorem turns_all (lv : Nat → Nat) (low N : Nat) (hlow : 1 ≤ low) : ∀ n, (∀ i, i < n → lv i < low + N) → cR lv n low N = tS lv low n
  | 0, _ => cR_zero lv N low
  | n + 1, h => by
    rw [cR_succ lv n N low hlow, turns_all lv low N hlow n fun i hi => h i (by omega), tS]
    have h1 := h n (by omega)
    have h2 : befK lv low n = max (prevK lv n) (low - 1) := by
      cases n with
      | zero => simp [befK, prevK]
      | succ m => rfl
    rw [h2]
    omega
def trnX (lv : Nat → Nat) (n : Nat) : Nat := cR lv n (lowK lv n) (numR lv n)
theorem trn_all (lv : Nat → Nat) (n : Nat) (h : ∀ i, lv i ≤ 126) : trnX lv n = tS lv (lowK lv n) n := by
  unfold trnX
  have ho := low_odd (lv := lv) n
  by_cases h1 : lowK lv n ≤ highK lv n + 1
  · exact turns_all lv _ _ (by omega) n fun i hi => by have := high_ge (lv := lv) n i hi; unfold numR; omega
  · exact turns_all lv _ _ (by omega) n fun i hi => by have := high_ge (lv := lv) n i hi; unfold numR; omega
end Go.Proofs.Ytnocdminhcpmpaa
