/-
  Plain mathematics of Norm: cells between the ends of the parts, put together. No condition.
-/
import Derived.Test.YtojplkkmpnaibaaPaintMath2
import Derived.Test.YtojplkkmpnaibaaEnds
set_option linter.unusedVariables false
namespace Go.Proofs.Ytojplkkmpnaibaa

theorem clip_mem {N : Int} : ∀ {l : List Sp} {s : Sp}, s ∈ clipP N l → 0 ≤ s.f ∧ s.f < s.t ∧ s.t ≤ N := by
  intro l s hs
  unfold clipP at hs
  obtain ⟨a, ha, h⟩ := List.mem_flatMap.1 hs
  unfold clip1 at h
  split at h
  · simp at h
    subst h
    simp only
    omega
  · cases h
theorem ends0_bounds {N : Int} {l : List Sp} (hN : 0 ≤ N) : ∀ x ∈ ends0 N (clipP N l), 0 ≤ x ∧ x ≤ N := by
  intro x hx
  unfold ends0 at hx
  rcases List.mem_append.1 hx with h | h
  · simp at h; omega
  · obtain ⟨s, hs, h2⟩ := List.mem_flatMap.1 h
    have := clip_mem hs
    simp at h2
    omega
theorem clip_foldl {N i : Int} (h0 : 0 ≤ i) (hN : i < N) : ∀ (l : List Sp) (v : Int), (clipP N l).foldl (fun v s => if s.f ≤ i ∧ i < s.t then s.v else v) v = l.foldl (fun v s => if s.f ≤ i ∧ i < s.t then s.v else v) v
  | [], v => rfl
  | s :: l, v => by
    have ih := clip_foldl h0 hN l
    unfold clipP at ih ⊢
    rw [List.flatMap_cons, List.foldl_append, ih, List.foldl_cons]
    congr 1
    unfold clip1
    split
    · simp only [List.foldl_cons, List.foldl_nil]
      by_cases h : s.f ≤ i ∧ i < s.t
      · rw [if_pos h, if_pos (by omega)]
      · rw [if_neg h, if_neg (by omega)]
    · simp only [List.foldl_nil]
      rw [if_neg (by omega)]
theorem lastVal_clip {N i : Int} (h0 : 0 ≤ i) (hN : i < N) (l : List Sp) : lastVal (clipP N l) i = lastVal l i := clip_foldl h0 hN l 0
theorem lastVal_congr {l : List Sp} {i j : Int} (h : ∀ s ∈ l, (s.f ≤ i ↔ s.f ≤ j) ∧ (i < s.t ↔ j < s.t)) : lastVal l i = lastVal l j := by
  unfold lastVal
  have : ∀ (l : List Sp) (v : Int), (∀ s ∈ l, (s.f ≤ i ↔ s.f ≤ j) ∧ (i < s.t ↔ j < s.t)) → l.foldl (fun v s => if s.f ≤ i ∧ i < s.t then s.v else v) v = l.foldl (fun v s => if s.f ≤ j ∧ j < s.t then s.v else v) v := by
    intro l
    induction l with
    | nil => intro v _; rfl
    | cons s l ih =>
      intro v h
      simp only [List.foldl_cons]
      obtain ⟨h1, h2⟩ := h s (by simp)
      rw [ih _ (fun s hs => h s (by simp [hs]))]
      congr 1
      by_cases hc : s.f ≤ i ∧ i < s.t
      · rw [if_pos hc, if_pos ⟨h1.1 hc.1, h2.1 hc.2⟩]
      · rw [if_neg hc, if_neg (fun hd => hc ⟨h1.2 hd.1, h2.2 hd.2⟩)]
  exact this l 0 h
section
variable {N : Int} {l : List Sp} {m : Nat}
theorem ends_lt (hm : m + 1 = (endsP N (clipP N l)).length) {i j : Nat} (hij : i < j) (hj : j ≤ m) : eAt (endsP N (clipP N l)) i < eAt (endsP N (clipP N l)) j := by
  have h := (endsP_spec N (clipP N l)).1
  have e1 : eAt (endsP N (clipP N l)) j = (endsP N (clipP N l))[j]'(by omega) := by unfold eAt; simp [List.getD, List.getElem?_eq_getElem (show j < (endsP N (clipP N l)).length by omega)]
  have e2 : eAt (endsP N (clipP N l)) i = (endsP N (clipP N l))[i]'(by omega) := by unfold eAt; simp [List.getD, List.getElem?_eq_getElem (show i < (endsP N (clipP N l)).length by omega)]
  rw [e1, e2]
  exact List.pairwise_iff_getElem.1 h i j (by omega) (by omega) hij
theorem ends_mem (hm : m + 1 = (endsP N (clipP N l)).length) {j : Nat} (hj : j ≤ m) : eAt (endsP N (clipP N l)) j ∈ ends0 N (clipP N l) := by
  have e1 : eAt (endsP N (clipP N l)) j = (endsP N (clipP N l))[j]'(by omega) := by unfold eAt; simp [List.getD, List.getElem?_eq_getElem (show j < (endsP N (clipP N l)).length by omega)]
  rw [e1]
  exact ((endsP_spec N (clipP N l)).2 _).1 (List.getElem_mem _)
theorem ends_idx (hm : m + 1 = (endsP N (clipP N l)).length) {x : Int} (hx : x ∈ ends0 N (clipP N l)) : ∃ j, j ≤ m ∧ eAt (endsP N (clipP N l)) j = x := by
  obtain ⟨j, hj, he⟩ := List.getElem_of_mem (((endsP_spec N (clipP N l)).2 x).2 hx)
  exact ⟨j, by omega, by unfold eAt; simp [List.getD, List.getElem?_eq_getElem hj, he]⟩
theorem ends_zero (hN : 0 ≤ N) (hm : m + 1 = (endsP N (clipP N l)).length) : eAt (endsP N (clipP N l)) 0 = 0 := by
  obtain ⟨j, hj, he⟩ := ends_idx hm (x := 0) (by simp [ends0])
  have h0 := (ends0_bounds hN _ (ends_mem hm (j := 0) (by omega))).1
  cases j with
  | zero => exact he
  | succ j =>
    have := ends_lt hm (i := 0) (j := j + 1) (by omega) hj
    omega
theorem ends_last (hN : 0 ≤ N) (hm : m + 1 = (endsP N (clipP N l)).length) : eAt (endsP N (clipP N l)) m = N := by
  obtain ⟨j, hj, he⟩ := ends_idx hm (x := N) (by simp [ends0])
  have h0 := (ends0_bounds hN _ (ends_mem hm (j := m) (by omega))).2
  rcases Nat.eq_or_lt_of_le hj with h | h
  · subst h; exact he
  · have := ends_lt hm h (Nat.le_refl _)
    omega
/-- within a cell one value stands -/
theorem cell_val (hN : 0 ≤ N) (hm : m + 1 = (endsP N (clipP N l)).length) {k : Nat} (hk : k < m) {i : Int} (h1 : eAt (endsP N (clipP N l)) k ≤ i) (h2 : i < eAt (endsP N (clipP N l)) (k + 1)) :
    lastVal l i = lastVal (clipP N l) (eAt (endsP N (clipP N l)) k) := by
  have b1 := (ends0_bounds hN _ (ends_mem hm (j := k) (by omega))).1
  have b2 := (ends0_bounds hN _ (ends_mem hm (j := k + 1) (by omega))).2
  rw [← lastVal_clip (N := N) (by omega) (by omega)]
  apply lastVal_congr
  intro s hs
  have key : ∀ x ∈ ends0 N (clipP N l), (x ≤ i ↔ x ≤ eAt (endsP N (clipP N l)) k) := fun x hx => by
    obtain ⟨j, hj, he⟩ := ends_idx hm hx
    constructor
    · intro hxi
      rcases Nat.lt_or_ge k j with h | h
      · rcases Nat.eq_or_lt_of_le h with h' | h'
        · have : j = k + 1 := by omega
          subst this
          omega
        · have := ends_lt hm h' hj
          have e : Nat.succ k = k + 1 := rfl
          rw [e] at this
          omega
      · rcases Nat.eq_or_lt_of_le h with h' | h'
        · subst h'; omega
        · have := ends_lt hm h' (by omega)
          omega
    · intro h; omega
  have k1 := key s.f (by unfold ends0; exact List.mem_append_right _ (List.mem_flatMap.2 ⟨s, hs, by simp⟩))
  have k2 := key s.t (by unfold ends0; exact List.mem_append_right _ (List.mem_flatMap.2 ⟨s, hs, by simp⟩))
  constructor
  · exact k1
  · omega
theorem norm_step (hN : 0 ≤ N) (hm : m + 1 = (endsP N (clipP N l)).length) {k : Nat} (hk : k < m) :
    ext (of ((vals l N).take (eAt (endsP N (clipP N l)) k).toNat)) (eAt (endsP N (clipP N l)) (k + 1)) (lastVal (clipP N l) (eAt (endsP N (clipP N l)) k)) = of ((vals l N).take (eAt (endsP N (clipP N l)) (k + 1)).toNat) := by
  have b1 := ends0_bounds hN _ (ends_mem hm (j := k) (by omega))
  have b2 := ends0_bounds hN _ (ends_mem hm (j := k + 1) (by omega))
  have b3 := ends_lt hm (i := k) (j := k + 1) (by omega) (by omega)
  have hl := length_vals l N
  rw [ext_of, List.length_take, hl]
  congr 1
  apply List.ext_getElem
  · simp [hl]; omega
  · intro i h1 h2
    have hi : (i : Int) < eAt (endsP N (clipP N l)) (k + 1) := by simp [hl] at h2; omega
    rw [List.getElem_take]
    have hv : (vals l N)[i]'(by rw [hl]; omega) = lastVal l i := by simp [vals]
    rw [hv]
    by_cases hc : (i : Int) < eAt (endsP N (clipP N l)) k
    · rw [List.getElem_append_left (by simp [hl]; omega), List.getElem_take, hv]
    · rw [List.getElem_append_right (by simp [hl]; omega), List.getElem_replicate]
      exact (cell_val hN hm hk (by omega) hi).symm
theorem norm_end (hN : 0 ≤ N) (hm : m + 1 = (endsP N (clipP N l)).length) : (vals l N).take (eAt (endsP N (clipP N l)) m).toNat = vals l N := by
  rw [ends_last hN hm, List.take_of_length_le (by rw [length_vals]; exact Nat.le_refl _)]
theorem ends_two (hN : 0 < N) : ∃ m, m + 1 = (endsP N (clipP N l)).length ∧ 0 < m := by
  have h1 := ((endsP_spec N (clipP N l)).2 0).2 (by simp [ends0])
  have h2 := ((endsP_spec N (clipP N l)).2 N).2 (by simp [ends0])
  match h : endsP N (clipP N l), h1, h2 with
  | [], h1, _ => simp at h1
  | [x], h1, h2 => simp at h1 h2; omega
  | x :: y :: r, _, _ => exact ⟨r.length + 1, by simp, by omega⟩
end
end Go.Proofs.Ytojplkkmpnaibaa
