/-
  Mathematics of texts of letters, digits and spaces: their word boundaries, the number of words, their kinds. No program, no condition.
-/
import Derived.Test.YtcplhbafbjpnlaaWrd
import Derived.KernelRfl
set_option linter.unusedVariables false
set_option linter.unusedSimpArgs false
namespace Go.Proofs.Ytcplhbafbjpnlaa

theorem sorted_ext : ∀ l m : List Nat, l.Pairwise (· < ·) → m.Pairwise (· < ·) → (∀ x, x ∈ l ↔ x ∈ m) → l = m
  | [], [], _, _, _ => rfl
  | [], b :: m, _, _, h => by have := (h b).2 (by simp); simp at this
  | a :: l, [], _, _, h => by have := (h a).1 (by simp); simp at this
  | a :: l, b :: m, hl, hm, h => by
    rw [List.pairwise_cons] at hl hm
    have hab : a = b := by
      have h1 := (h a).1 (by simp)
      have h2 := (h b).2 (by simp)
      rw [List.mem_cons] at h1 h2
      rcases h1 with h1 | h1
      · exact h1
      · rcases h2 with h2 | h2
        · exact h2.symm
        · have := hm.1 a h1
          have := hl.1 b h2
          omega
    subst hab
    rw [sorted_ext l m hl.2 hm.2 fun x => ?_]
    have hx := h x
    rw [List.mem_cons, List.mem_cons] at hx
    constructor
    · intro h1
      have := hl.1 x h1
      rcases hx.1 (.inr h1) with h2 | h2
      · omega
      · exact h2
    · intro h1
      have := hm.1 x h1
      rcases hx.2 (.inr h1) with h2 | h2
      · omega
      · exact h2

/-- all code points are clusters of their own -/
def Plain (zs : List Int) : Prop := ∀ x ∈ zs, cl x = 0 ∧ wd x ≠ 6
theorem plain_hang (zs : List Int) (h : Plain zs) (j : Nat) (h0 : 0 < j) (hj : j < zs.length) : hang (cls zs) j = false := by
  unfold hang
  rw [g_cls zs (j - 1) (by omega), g_cls zs j hj, (h _ (List.getElem_mem (show j - 1 < zs.length by omega))).1, (h _ (List.getElem_mem hj)).1]
  unfold hangF syll stopB
  simp
theorem plain_bP (zs : List Int) (h : Plain zs) (hn : 0 < zs.length) (j : Nat) (hj : j ≤ zs.length) : bP (cls zs) j = true := by
  have hL := cls_len zs
  rcases Nat.eq_zero_or_pos j with rfl | h0
  · exact bP_zero _ (by omega)
  by_cases he : j = zs.length
  · subst he
    have := bP_end (cls zs) (by omega)
    rwa [hL] at this
  · rw [bP_mid _ _ h0 (by omega), plain_hang zs h j h0 (by omega)]; rfl
theorem plain_Bs (zs : List Int) (h : Plain zs) (hn : 0 < zs.length) : ∀ k, k ≤ zs.length + 1 → Bs (cls zs) k = List.range k
  | 0, _ => rfl
  | k + 1, hk => by rw [Bs_yes _ k (plain_bP zs h hn k (by omega)), plain_Bs zs h hn k (by omega), List.range_succ]
theorem plain_ix (zs : List Int) (h : Plain zs) (hn : 0 < zs.length) (j : Nat) (hj : j ≤ zs.length) : ix zs j = j := by
  unfold ix
  rw [plain_Bs zs h hn j (by omega), List.length_range]
theorem plain_gk (zs : List Int) (h : Plain zs) (hn : 0 < zs.length) (j : Nat) (hj : j < zs.length) : gk (KL zs) (j + 2) = wd zs[j] := by
  have hb : bnds (cls zs) = List.range (zs.length + 1) := by unfold bnds; rw [cls_len]; exact plain_Bs zs h hn _ (Nat.le_refl _)
  rw [K_get zs j j (j + 1) (by rw [hb, List.getElem?_range (by omega)]) (by rw [hb, List.getElem?_range (by omega)]), kOf_step zs j (j + 1) (by omega) (by omega), if_neg (h _ (List.getElem_mem hj)).2]
theorem plain_wf (zs : List Int) (h : Plain zs) (hn : 0 < zs.length) (j : Nat) (h0 : 0 < j) (hj : j < zs.length) : ∃ a d, wf zs j = !J a (wd (zs[j - 1]'(by omega))) (wd zs[j]) d := by
  refine ⟨gk (KL zs) j, gk (KL zs) (j + 3), ?_⟩
  unfold wf cutAt
  rw [plain_ix zs h hn j (by omega)]
  have h1 := plain_gk zs h hn j hj
  have h2 := plain_gk zs h hn (j - 1) (by omega)
  rw [show j - 1 + 2 = j + 1 by omega] at h2
  rw [h1, h2]
theorem plain_mem (zs : List Int) (h : Plain zs) (hn : 0 < zs.length) (j : Nat) : j ∈ wbs zs ↔ j ≤ zs.length ∧ wf zs j = true := by
  rw [mem_wbs]
  exact ⟨fun ⟨a, b, c⟩ => ⟨a, c⟩, fun ⟨a, c⟩ => ⟨a, plain_bP zs h hn j a, c⟩⟩

theorem J_al (a b c d : Int) (hb : alB b = true) (hc : alB c = true) : J a b c d = true := by unfold J; rw [hb, hc]; rfl
theorem J_sp (a d : Int) : J a 7 7 d = true := rfl
theorem al_cases (b : Int) (h : alB b = true) : b = 1 ∨ b = 2 := by unfold alB at h; simpa using h
theorem J_al_sp (a b d : Int) (hb : alB b = true) : J a b 7 d = false := by
  rcases al_cases b hb with rfl | rfl <;> simp [J, alB, brB]
theorem J_sp_al (a c d : Int) (hc : alB c = true) : J a 7 c d = false := by
  rcases al_cases c hc with rfl | rfl <;> simp [J, alB, brB]

theorem pairs_two (a b : Nat) : pairs [a, b] = [(a, b)] := rfl
theorem pairs_four (a b c d : Nat) : pairs [a, b, c, d] = [(a, b), (b, c), (c, d)] := rfl
theorem mem_rng (zs : List Int) (a b : Nat) (x : Int) (h : x ∈ rng zs a b) : ∃ j, a ≤ j ∧ j < b ∧ zs[j]? = some x := by
  unfold rng at h
  obtain ⟨i, hi, he⟩ := List.getElem_of_mem h
  rw [List.length_take, List.length_drop] at hi
  refine ⟨a + i, by omega, by omega, ?_⟩
  rw [List.getElem_take, List.getElem_drop] at he
  rw [List.getElem?_eq_getElem (by omega), he]
theorem rng_mem (zs : List Int) (a b j : Nat) (x : Int) (h1 : a ≤ j) (h2 : j < b) (h : zs[j]? = some x) : x ∈ rng zs a b := by
  obtain ⟨hj, he⟩ := List.getElem?_eq_some_iff.1 h
  unfold rng
  refine List.mem_of_getElem? (i := j - a) ?_
  rw [List.getElem?_take, if_pos (by omega), List.getElem?_drop, show a + (j - a) = j by omega]
  exact h
theorem hasC_not (zs : List Int) (a b : Nat) (c : Int) (h : ∀ j x, a ≤ j → j < b → zs[j]? = some x → wd x ≠ c) : hasC zs a b c = false := by
  unfold hasC
  rw [List.any_eq_false]
  intro x hx
  obtain ⟨j, h1, h2, h3⟩ := mem_rng zs a b x hx
  simpa using h j x h1 h2 h3
theorem hasC_yes (zs : List Int) (a b j : Nat) (c x : Int) (h1 : a ≤ j) (h2 : j < b) (h : zs[j]? = some x) (hw : wd x = c) : hasC zs a b c = true := by
  unfold hasC
  rw [List.any_eq_true]
  exact ⟨x, rng_mem zs a b j x h1 h2 h, by simpa using hw⟩
theorem kind_al (zs : List Int) (a b : Nat) (hab : a < b) (hb : b ≤ zs.length) (h : ∀ j x, a ≤ j → j < b → zs[j]? = some x → alB (wd x) = true) : alB (kindV zs a b) = true := by
  have hv : kindV zs a b = kindN zs a b := by unfold kindV; rw [if_neg (by omega)]; rfl
  rw [hv]
  unfold kindN
  by_cases h1 : hasC zs a b 1 = true
  · rw [if_pos h1]; rfl
  · rw [if_neg h1]
    have hg : zs[a]? = some zs[a] := List.getElem?_eq_getElem (by omega)
    have h2 : hasC zs a b 2 = true := by
      rcases al_cases _ (h a _ (Nat.le_refl _) hab hg) with h3 | h3
      · exact absurd (hasC_yes zs a b a 1 _ (Nat.le_refl _) hab hg h3) h1
      · exact hasC_yes zs a b a 2 _ (Nat.le_refl _) hab hg h3
    rw [if_pos h2]; rfl
theorem kind_sp (zs : List Int) (a b : Nat) (hab : a < b) (hb : b ≤ zs.length) (h : ∀ j x, a ≤ j → j < b → zs[j]? = some x → wd x = 7) : kindV zs a b = 7 := by
  have hv : kindV zs a b = kindN zs a b := by unfold kindV; rw [if_neg (by omega)]; rfl
  rw [hv]
  unfold kindN
  rw [hasC_not zs a b 1 (fun j x h1 h2 h3 => by rw [h j x h1 h2 h3]; decide), hasC_not zs a b 2 (fun j x h1 h2 h3 => by rw [h j x h1 h2 h3]; decide),
    hasC_yes zs a b a 7 _ (Nat.le_refl _) hab (List.getElem?_eq_getElem (by omega)) (h a _ (Nat.le_refl _) hab (List.getElem?_eq_getElem (by omega)))]; rfl

/-- letters and digits alone -/
theorem own_wbs (zs : List Int) (hn : 0 < zs.length) (h : ∀ x ∈ zs, cl x = 0 ∧ alB (wd x) = true) : wbs zs = [0, zs.length] ∧ cntV zs = 1 := by
  have hp : Plain zs := fun x hx => ⟨(h x hx).1, fun e => by have := (h x hx).2; rw [e] at this; cases this⟩
  have hw : wbs zs = [0, zs.length] := by
    refine sorted_ext _ _ (wbs_pair zs) (by simp; omega) fun j => ?_
    rw [plain_mem zs hp hn]
    simp only [List.mem_cons, List.not_mem_nil, or_false]
    constructor
    · rintro ⟨h1, h2⟩
      by_cases h0 : j = 0
      · exact .inl h0
      by_cases he : j = zs.length
      · exact .inr he
      exfalso
      obtain ⟨a, d, hd⟩ := plain_wf zs hp hn j (by omega) (by omega)
      rw [hd, J_al _ _ _ _ (h _ (List.getElem_mem _)).2 (h _ (List.getElem_mem _)).2] at h2
      cases h2
    · rintro (rfl | rfl)
      · exact ⟨by omega, wf_zero zs⟩
      · exact ⟨Nat.le_refl _, wf_end zs hn⟩
  refine ⟨hw, ?_⟩
  unfold cntV
  rw [hw, pairs_two]
  have := kind_al zs 0 zs.length hn (Nat.le_refl _) (fun j x _ _ hx => (h x (List.mem_of_getElem? hx)).2)
  simp only [List.countP_cons, List.countP_nil]
  rw [if_pos this]
/-- spaces alone -/
theorem gap_wbs (zs : List Int) (hn : 0 < zs.length) (h : ∀ x ∈ zs, cl x = 0 ∧ wd x = 7) : wbs zs = [0, zs.length] ∧ cntV zs = 0 := by
  have hp : Plain zs := fun x hx => ⟨(h x hx).1, fun e => by have := (h x hx).2; omega⟩
  have hw : wbs zs = [0, zs.length] := by
    refine sorted_ext _ _ (wbs_pair zs) (by simp; omega) fun j => ?_
    rw [plain_mem zs hp hn]
    simp only [List.mem_cons, List.not_mem_nil, or_false]
    constructor
    · rintro ⟨h1, h2⟩
      by_cases h0 : j = 0
      · exact .inl h0
      by_cases he : j = zs.length
      · exact .inr he
      exfalso
      obtain ⟨a, d, hd⟩ := plain_wf zs hp hn j (by omega) (by omega)
      rw [hd, (h _ (List.getElem_mem _)).2, (h _ (List.getElem_mem _)).2, J_sp] at h2
      cases h2
    · rintro (rfl | rfl)
      · exact ⟨by omega, wf_zero zs⟩
      · exact ⟨Nat.le_refl _, wf_end zs hn⟩
  refine ⟨hw, ?_⟩
  unfold cntV
  rw [hw, pairs_two]
  have := kind_sp zs 0 zs.length hn (Nat.le_refl _) (fun j x _ _ hx => (h x (List.mem_of_getElem? hx)).2)
  simp only [List.countP_cons, List.countP_nil]
  rw [this]; rfl
/-- two words with a gap between them -/
theorem all_wbs (p q : List Int) (hp0 : 0 < p.length) (hq0 : 0 < q.length) (hp : ∀ x ∈ p, cl x = 0 ∧ alB (wd x) = true) (hq : ∀ x ∈ q, cl x = 0 ∧ wd x = 7) :
    wbs (p ++ q ++ p) = [0, p.length, p.length + q.length, 2 * p.length + q.length] ∧ cntV (p ++ q ++ p) = 2 ∧ kindV (p ++ q ++ p) p.length ((p.length + q.length : Nat) : Int) = 7 := by
  obtain ⟨zs, hz⟩ : ∃ zs, p ++ q ++ p = zs := ⟨_, rfl⟩
  have hl : zs.length = 2 * p.length + q.length := by rw [← hz]; simp; omega
  have hA : ∀ j x, j < p.length → zs[j]? = some x → x ∈ p := fun j x hj hx => by
    rw [← hz, List.append_assoc, List.getElem?_append_left hj] at hx
    exact List.mem_of_getElem? hx
  have hB : ∀ j x, p.length ≤ j → j < p.length + q.length → zs[j]? = some x → x ∈ q := fun j x h1 h2 hx => by
    rw [← hz, List.append_assoc, List.getElem?_append_right h1, List.getElem?_append_left (by omega)] at hx
    exact List.mem_of_getElem? hx
  have hC : ∀ j x, p.length + q.length ≤ j → zs[j]? = some x → x ∈ p := fun j x h1 hx => by
    rw [← hz, List.getElem?_append_right (by rw [List.length_append]; exact h1)] at hx
    exact List.mem_of_getElem? hx
  rw [hz]
  have hn : 0 < zs.length := by omega
  have hP : Plain zs := fun x hx => by
    rw [← hz, List.mem_append, List.mem_append] at hx
    have h1 : x ∈ p ∨ x ∈ q := by rcases hx with (h | h) | h; exact .inl h; exact .inr h; exact .inl h
    rcases h1 with h1 | h1
    · exact ⟨(hp x h1).1, fun e => by have := (hp x h1).2; rw [e] at this; cases this⟩
    · exact ⟨(hq x h1).1, fun e => by have := (hq x h1).2; omega⟩
  have hg : ∀ j (hj : j < zs.length), zs[j]? = some zs[j] := fun j hj => List.getElem?_eq_getElem hj
  have hw : wbs zs = [0, p.length, p.length + q.length, 2 * p.length + q.length] := by
    refine sorted_ext _ _ (wbs_pair zs) (by simp; omega) fun j => ?_
    rw [plain_mem zs hP hn]
    simp only [List.mem_cons, List.not_mem_nil, or_false]
    by_cases h0 : j = 0
    · subst h0
      exact ⟨fun _ => .inl rfl, fun _ => ⟨by omega, wf_zero zs⟩⟩
    by_cases he : j = zs.length
    · subst he
      exact ⟨fun _ => .inr (.inr (.inr hl)), fun _ => ⟨Nat.le_refl _, wf_end zs hn⟩⟩
    by_cases hj : j < zs.length
    · obtain ⟨a, d, hd⟩ := plain_wf zs hP hn j (by omega) hj
      rw [hd]
      by_cases h1 : j < p.length
      · rw [J_al _ _ _ _ (hp _ (hA _ _ (by omega) (hg (j - 1) (by omega)))).2 (hp _ (hA _ _ h1 (hg j hj))).2]
        exact ⟨fun h => absurd h.2 (by decide), fun h => by omega⟩
      by_cases h2 : j = p.length
      · rw [(hq _ (hB _ _ (by omega) (by omega) (hg j hj))).2, J_al_sp _ _ _ (hp _ (hA _ _ (by omega) (hg (j - 1) (by omega)))).2]
        exact ⟨fun _ => .inr (.inl h2), fun _ => ⟨by omega, rfl⟩⟩
      by_cases h3 : j < p.length + q.length
      · rw [(hq _ (hB _ _ (by omega) h3 (hg j hj))).2, (hq _ (hB _ _ (by omega) (by omega) (hg (j - 1) (by omega)))).2, J_sp]
        exact ⟨fun h => absurd h.2 (by decide), fun h => by omega⟩
      by_cases h4 : j = p.length + q.length
      · rw [(hq _ (hB _ _ (by omega) (by omega) (hg (j - 1) (by omega)))).2, J_sp_al _ _ _ (hp _ (hC _ _ (by omega) (hg j hj))).2]
        exact ⟨fun _ => .inr (.inr (.inl h4)), fun _ => ⟨by omega, rfl⟩⟩
      · rw [J_al _ _ _ _ (hp _ (hC _ _ (by omega) (hg (j - 1) (by omega)))).2 (hp _ (hC _ _ (by omega) (hg j hj))).2]
        exact ⟨fun h => absurd h.2 (by decide), fun h => by omega⟩
    · exact ⟨fun h => by omega, fun h => by omega⟩
  have k1 := kind_al zs 0 p.length hp0 (by omega) (fun j x _ h2 hx => (hp x (hA j x h2 hx)).2)
  have k2 := kind_sp zs p.length (p.length + q.length) (by omega) (by omega) (fun j x h1 h2 hx => (hq x (hB j x h1 h2 hx)).2)
  have k3 := kind_al zs (p.length + q.length) (2 * p.length + q.length) (by omega) (by omega) (fun j x h1 h2 hx => (hp x (hC j x h1 hx)).2)
  refine ⟨hw, ?_, k2⟩
  unfold cntV
  rw [hw, pairs_four]
  simp only [List.countP_cons, List.countP_nil]
  rw [if_pos k1, if_pos k3, k2]; rfl

/-- the letter or digit that the statement makes of a code point -/
def letN (r : Int) : Int := if (r.tmod 36).natAbs < 10 then 48 + ((r.tmod 36).natAbs : Int) else 87 + ((r.tmod 36).natAbs : Int)
def letB (n : Nat) : Bool := let x : Int := if n < 10 then 48 + (n : Int) else 87 + (n : Int); cl x == 0 && alB (wd x)
theorem let_all : (List.range 36).all letB = true := by kernel_rfl
theorem let_al (r : Int) : cl (letN r) = 0 ∧ alB (wd (letN r)) = true := by
  have hn : (r.tmod 36).natAbs < 36 := by
    rw [Int.natAbs_tmod]
    exact Nat.mod_lt _ (by decide)
  have h := let_all
  rw [List.all_eq_true] at h
  have h1 := h _ (List.mem_range.2 hn)
  unfold letB at h1
  simp only [Bool.and_eq_true, beq_iff_eq] at h1
  exact h1
theorem sp_cl : cl 32 = 0 ∧ wd 32 = 7 := ⟨by kernel_rfl, by kernel_rfl⟩
end Go.Proofs.Ytcplhbafbjpnlaa
