/-
  Plain mathematics of whole lists of spans: 'ext' (the program's extend), 'of' (the document's Of), 'pick' (a stretch of values), Edit, Set, Part and Meet over values. No condition; no program text.
-/
set_option linter.unusedVariables false
namespace Go.Proofs.YtnpcakeagpbgiaaGreat.S5

structure Sp where
  f : Int
  t : Int
  v : Int
deriving DecidableEq, Inhabited

theorem rev_ind {α : Type} {P : List α → Prop} (nil : P []) (append_singleton : ∀ xs x, P xs → P (xs ++ [x])) (xs : List α) : P xs := by
  have h : ∀ ys : List α, P ys.reverse := by
    intro ys
    induction ys with
    | nil => simpa using nil
    | cons y ys ih => rw [List.reverse_cons]; exact append_singleton _ _ ih
  have := h xs.reverse
  rwa [List.reverse_reverse] at this
def endS (l : List Sp) : Int := match l.getLast? with | none => 0 | some s => s.t
def ext (l : List Sp) (to v : Int) : List Sp :=
  if to ≤ endS l then l else
  match l.getLast? with
  | none => [⟨0, to, v⟩]
  | some s => if s.v = v then l.dropLast ++ [⟨s.f, to, s.v⟩] else l ++ [⟨s.t, to, v⟩]
def of (xs : List Int) : List Sp := xs.foldl (fun acc x => ext acc (endS acc + 1) x) []

theorem endS_nil : endS [] = 0 := rfl
theorem endS_snoc (l : List Sp) (s : Sp) : endS (l ++ [s]) = s.t := by simp [endS]
theorem ext_nil (to v : Int) (h : 0 < to) : ext [] to v = [⟨0, to, v⟩] := by
  unfold ext; rw [if_neg (by simp [endS]; omega)]; rfl
theorem ext_snoc (l : List Sp) (s : Sp) (to v : Int) (h : s.t < to) : ext (l ++ [s]) to v = if s.v = v then l ++ [⟨s.f, to, s.v⟩] else l ++ [s, ⟨s.t, to, v⟩] := by
  unfold ext
  rw [endS_snoc, if_neg (by omega)]
  simp
theorem ext_small (l : List Sp) (to v : Int) (h : to ≤ endS l) : ext l to v = l := by unfold ext; rw [if_pos h]
theorem snoc_cases (l : List Sp) : l = [] ∨ ∃ l' s, l = l' ++ [s] := by
  rcases List.eq_nil_or_concat l with h | ⟨l', s, h⟩
  · exact .inl h
  · exact .inr ⟨l', s, by rw [h]; simp⟩
theorem endS_ext (l : List Sp) (to v : Int) (h : endS l < to) : endS (ext l to v) = to := by
  rcases snoc_cases l with rfl | ⟨l', s, rfl⟩
  · rw [endS_nil] at h; rw [ext_nil _ _ h]; rfl
  · rw [endS_snoc] at h
    rw [ext_snoc _ _ _ _ h]
    split
    · exact endS_snoc _ _
    · rw [show l' ++ [s, (⟨s.t, to, v⟩ : Sp)] = (l' ++ [s]) ++ [⟨s.t, to, v⟩] by simp]
      exact endS_snoc _ _
theorem endS_ext' (l : List Sp) (to v : Int) : endS (ext l to v) = max (endS l) to := by
  by_cases h : to ≤ endS l
  · rw [ext_small _ _ _ h]; omega
  · rw [endS_ext _ _ _ (by omega)]; omega
theorem length_ext (l : List Sp) (to v : Int) : (ext l to v).length ≤ l.length + 1 := by
  rcases snoc_cases l with rfl | ⟨l', s, rfl⟩
  · by_cases h : 0 < to
    · rw [ext_nil _ _ h]; simp
    · rw [ext_small _ _ _ (by rw [endS_nil]; omega)]; simp
  · by_cases h : s.t < to
    · rw [ext_snoc _ _ _ _ h]; split <;> simp
    · rw [ext_small _ _ _ (by rw [endS_snoc]; omega)]; simp
/-- twice the same value is once -/
theorem ext_ext (l : List Sp) (a b v : Int) (ha : endS l < a) (hb : a ≤ b) : ext (ext l a v) b v = ext l b v := by
  rcases snoc_cases l with rfl | ⟨l', s, rfl⟩
  · rw [endS_nil] at ha
    rw [ext_nil _ _ ha, ext_nil _ _ (by omega)]
    by_cases h : a < b
    · have := ext_snoc [] ⟨0, a, v⟩ b v h
      simpa using this
    · have : a = b := by omega
      subst this
      exact ext_small _ _ _ (by simp [endS])
  · rw [endS_snoc] at ha
    rw [ext_snoc _ _ _ _ ha, ext_snoc _ _ _ _ (show s.t < b by omega)]
    by_cases h : a < b
    · split
      · rename_i he
        rw [ext_snoc _ _ _ _ h, if_pos he]
      · rw [show l' ++ [s, (⟨s.t, a, v⟩ : Sp)] = (l' ++ [s]) ++ [⟨s.t, a, v⟩] by simp, ext_snoc _ _ _ _ h, if_pos rfl]
        simp
    · have : a = b := by omega
      subst this
      split
      · exact ext_small _ _ _ (by rw [endS_snoc]; omega)
      · exact ext_small _ _ _ (by rw [show l' ++ [s, (⟨s.t, a, v⟩ : Sp)] = (l' ++ [s]) ++ [⟨s.t, a, v⟩] by simp, endS_snoc]; omega)

theorem of_nil : of [] = [] := rfl
theorem of_snoc (xs : List Int) (x : Int) : of (xs ++ [x]) = ext (of xs) (endS (of xs) + 1) x := by unfold of; rw [List.foldl_append]; rfl
theorem endS_of (xs : List Int) : endS (of xs) = xs.length := by
  induction xs using rev_ind with
  | nil => rfl
  | append_singleton xs x ih => rw [of_snoc, endS_ext _ _ _ (by omega), ih]; simp
theorem of_snoc' (xs : List Int) (x : Int) : of (xs ++ [x]) = ext (of xs) (xs.length + 1) x := by rw [of_snoc, endS_of]
theorem replicate_snoc (k : Nat) (v : Int) : List.replicate (k + 1) v = List.replicate k v ++ [v] := by
  rw [show k + 1 = k + 1 from rfl, List.replicate_succ']
theorem of_replicate (xs : List Int) (v : Int) : ∀ k : Nat, 0 < k → of (xs ++ List.replicate k v) = ext (of xs) (xs.length + k) v
  | 0, h => absurd h (by omega)
  | 1, _ => by simpa using of_snoc' xs v
  | k + 2, _ => by
    rw [replicate_snoc, ← List.append_assoc, of_snoc', of_replicate xs v (k + 1) (by omega)]
    rw [ext_ext _ _ _ _ (by rw [endS_of]; omega) (by simp; omega)]
    congr 1
    simp
    omega
/-- THE LEMMA: to extend is to append values -/
theorem ext_of (xs : List Int) (to v : Int) : ext (of xs) to v = of (xs ++ List.replicate (to - xs.length).toNat v) := by
  by_cases h : to ≤ xs.length
  · rw [ext_small _ _ _ (by rw [endS_of]; exact h), show (to - xs.length).toNat = 0 by omega]; simp
  · rw [of_replicate _ _ _ (by omega)]
    congr 1
    omega
theorem length_of (xs : List Int) : (of xs).length ≤ xs.length := by
  induction xs using rev_ind with
  | nil => simp [of]
  | append_singleton xs x ih => rw [of_snoc]; have := length_ext (of xs) (endS (of xs) + 1) x; simp; omega

/-- the spans l lie one behind the other from off on, and hold the values xs -/
def Parts : List Sp → List Int → Int → Prop
  | [], xs, _ => xs = []
  | s :: l, xs, off => ∃ (k : Nat) (ys : List Int), 0 < k ∧ s.f = off ∧ s.t = off + k ∧ xs = List.replicate k s.v ++ ys ∧ Parts l ys (off + k)
theorem Parts.append {s : Sp} : ∀ {l : List Sp} {xs : List Int} {off : Int}, Parts l xs off → ∀ (k : Nat), 0 < k → s.f = off + xs.length → s.t = off + xs.length + k → Parts (l ++ [s]) (xs ++ List.replicate k s.v) off
  | [], xs, off, h, k, hk, h1, h2 => by
    have h : xs = [] := h
    subst h
    exact ⟨k, [], hk, by simpa using h1, by simpa using h2, by simp, rfl⟩
  | p :: l, xs, off, ⟨m, ys, hm, e1, e2, e3, hp⟩, k, hk, h1, h2 => by
    subst e3
    refine ⟨m, ys ++ List.replicate k s.v, hm, e1, e2, by simp, Parts.append hp k hk ?_ ?_⟩
    · rw [h1]; simp; omega
    · rw [h2]; simp; omega
theorem Parts.last {s : Sp} : ∀ {l : List Sp} {xs : List Int} {off : Int}, Parts (l ++ [s]) xs off → ∃ (k : Nat) (ys : List Int), 0 < k ∧ xs = ys ++ List.replicate k s.v ∧ Parts l ys off ∧ s.f = off + ys.length ∧ s.t = off + ys.length + k
  | [], xs, off, ⟨k, ys, hk, e1, e2, e3, hp⟩ => by
    have hp : ys = [] := hp
    subst hp
    exact ⟨k, [], hk, by simpa using e3, rfl, by simpa using e1, by simpa using e2⟩
  | p :: l, xs, off, ⟨m, ys, hm, e1, e2, e3, hp⟩ => by
    obtain ⟨k, zs, hk, e4, hp', e5, e6⟩ := Parts.last (l := l) hp
    subst e4; subst e3
    refine ⟨k, List.replicate m p.v ++ zs, hk, by simp, ⟨m, zs, hm, e1, e2, rfl, hp'⟩, ?_, ?_⟩
    · rw [e5]; simp; omega
    · rw [e6]; simp; omega
theorem parts_of (xs : List Int) : Parts (of xs) xs 0 := by
  induction xs using rev_ind with
  | nil => exact rfl
  | append_singleton xs x ih =>
    rw [of_snoc']
    have he := endS_of xs
    rcases snoc_cases (of xs) with h | ⟨l', s, h⟩
    · rw [h] at ih he ⊢
      have ih : xs = [] := ih
      subst ih
      rw [ext_nil _ _ (by simp)]
      exact ⟨1, [], by omega, rfl, by simp, by simp, rfl⟩
    · rw [h] at ih he ⊢
      rw [endS_snoc] at he
      rw [ext_snoc _ _ _ _ (by omega)]
      split
      · rename_i hv
        obtain ⟨k, ys, hk, e4, hp', e5, e6⟩ := Parts.last ih
        subst e4
        have := Parts.append (s := ⟨s.f, (ys ++ List.replicate k s.v).length + 1, s.v⟩) hp' (k + 1) (by omega) e5 (by simp; omega)
        rw [replicate_snoc, ← List.append_assoc] at this
        rw [← hv]
        exact this
      · have := Parts.append (s := ⟨s.t, xs.length + 1, x⟩) ih 1 (by omega) (by simp; omega) (by simp)
        simpa using this
theorem Parts.bounds : ∀ {l : List Sp} {xs : List Int} {off : Int}, Parts l xs off → ∀ s ∈ l, off ≤ s.f ∧ s.f < s.t ∧ s.t ≤ off + xs.length
  | [], _, _, _, s, hs => by cases hs
  | p :: l, xs, off, ⟨k, ys, hk, e1, e2, e3, hp⟩, s, hs => by
    subst e3
    rcases List.mem_cons.1 hs with rfl | hs
    · simp; omega
    · have := Parts.bounds hp s hs
      simp; omega
theorem Parts.vals : ∀ {l : List Sp} {xs : List Int} {off : Int}, Parts l xs off → ∀ s ∈ l, s.v ∈ xs
  | [], _, _, _, s, hs => by cases hs
  | p :: l, xs, off, ⟨k, ys, hk, e1, e2, e3, hp⟩, s, hs => by
    subst e3
    rcases List.mem_cons.1 hs with rfl | hs
    · exact List.mem_append_left _ (List.mem_replicate.2 ⟨by omega, rfl⟩)
    · exact List.mem_append_right _ (Parts.vals hp s hs)

/-- the values of xs, which begin at place off, that lie in [lo, hi) -/
def pick (lo hi : Int) : Int → List Int → List Int
  | _, [] => []
  | off, x :: xs => if lo ≤ off ∧ off < hi then x :: pick lo hi (off + 1) xs else pick lo hi (off + 1) xs
theorem pick_append (lo hi : Int) : ∀ (off : Int) (xs ys : List Int), pick lo hi off (xs ++ ys) = pick lo hi off xs ++ pick lo hi (off + xs.length) ys
  | off, [], ys => by simp [pick]
  | off, x :: xs, ys => by
    have ih := pick_append lo hi (off + 1) xs ys
    have e : off + 1 + (xs.length : Int) = off + ((x :: xs).length : Int) := by simp; omega
    rw [e] at ih
    simp only [pick, List.cons_append, ih]
    split <;> simp
theorem pick_snoc (lo hi off : Int) (xs : List Int) (x : Int) : pick lo hi off (xs ++ [x]) = pick lo hi off xs ++ if lo ≤ off + xs.length ∧ off + xs.length < hi then [x] else [] := by
  rw [pick_append]
  simp only [pick]
theorem pick_replicate (lo hi v : Int) : ∀ (k : Nat) (off : Int), pick lo hi off (List.replicate k v) = List.replicate (min (off + k) hi - max off lo).toNat v
  | 0, off => by
    rw [show (min (off + (0 : Nat)) hi - max off lo).toNat = 0 by omega]; rfl
  | k + 1, off => by
    simp only [List.replicate_succ, pick]
    rw [pick_replicate lo hi v k (off + 1)]
    split
    · rw [← List.replicate_succ]
      congr 1
      omega
    · congr 1
      omega
theorem pick_all (lo hi off : Int) : ∀ (xs : List Int) (off : Int), lo ≤ off → off + xs.length ≤ hi → pick lo hi off xs = xs
  | [], _, _, _ => rfl
  | x :: xs, off, h1, h2 => by
    simp at h2
    simp only [pick]
    rw [if_pos (by omega), pick_all lo hi off xs (off + 1) (by omega) (by omega)]
theorem pick_none (lo hi : Int) : ∀ (xs : List Int) (off : Int), (off + xs.length ≤ lo ∨ hi ≤ off ∨ hi ≤ lo) → pick lo hi off xs = []
  | [], _, _ => rfl
  | x :: xs, off, h => by
    simp at h
    simp only [pick]
    rw [if_neg (by omega), pick_none lo hi xs (off + 1) (by omega)]
theorem pick_take (hi : Nat) : ∀ (xs : List Int) (off : Nat), pick 0 hi off xs = xs.take (hi - off)
  | [], _ => by simp [pick]
  | x :: xs, off => by
    simp only [pick]
    have ih := pick_take hi xs (off + 1)
    simp at ih
    rw [ih]
    split
    · rw [show hi - off = (hi - (off + 1)) + 1 by omega, List.take_succ_cons]
    · rw [show hi - off = 0 by omega, show hi - (off + 1) = 0 by omega]; simp
theorem pick_congr (lo hi lo' hi' : Int) : ∀ (xs : List Int) (off : Int), (∀ i : Int, off ≤ i → i < off + xs.length → ((lo ≤ i ∧ i < hi) ↔ (lo' ≤ i ∧ i < hi'))) → pick lo hi off xs = pick lo' hi' off xs
  | [], _, _ => rfl
  | x :: xs, off, h => by
    simp only [pick]
    have h0 := h off (by omega) (by simp; omega)
    have ih := pick_congr lo hi lo' hi' xs (off + 1) (fun i h1 h2 => h i (by omega) (by simp; omega))
    rw [ih]
    by_cases hc : lo ≤ off ∧ off < hi
    · rw [if_pos hc, if_pos (h0.1 hc)]
    · rw [if_neg hc, if_neg (fun h' => hc (h0.2 h'))]
theorem length_pick (lo hi : Int) : ∀ (xs : List Int) (off : Int), (pick lo hi off xs).length ≤ xs.length
  | [], _ => by simp [pick]
  | x :: xs, off => by
    have := length_pick lo hi xs (off + 1)
    simp only [pick]
    split <;> simp <;> omega
theorem pick_length (lo hi : Int) : ∀ (xs : List Int) (off : Int), ((pick lo hi off xs).length : Int) = max 0 (min (off + xs.length) hi - max off lo)
  | [], off => by simp [pick]; omega
  | x :: xs, off => by
    have := pick_length lo hi xs (off + 1)
    simp only [pick]
    split <;> simp <;> omega

/-- THE FOLD: extend, part by part, up to 'min t hi - lo + base' -/
theorem fold_ext (lo hi : Int) (hlh : lo ≤ hi) (base : Int) : ∀ (l : List Sp) (xs ys : List Int) (off : Int), Parts l xs off → (ys.length : Int) = max base (min off hi - lo + base) →
    l.foldl (fun acc p => ext acc (min p.t hi - lo + base) p.v) (of ys) = of (ys ++ pick lo hi off xs)
  | [], xs, ys, off, h, _ => by
    have h : xs = [] := h
    subst h
    simp [pick]
  | p :: l, xs, ys, off, ⟨k, zs, hk, e1, e2, e3, hp⟩, hy => by
    subst e3
    simp only [List.foldl_cons]
    rw [ext_of, pick_append, pick_replicate, e2]
    rw [show (min (off + (k : Int)) hi - lo + base - (ys.length : Int)).toNat = (min (off + (k : Int)) hi - max off lo).toNat by omega]
    rw [fold_ext lo hi hlh base l zs _ (off + k) hp (by simp; omega)]
    simp

/-! ### what the functions tell, over values -/
def clampI (i lo hi : Int) : Int := min (max i lo) hi
/-- the program's Part -/
def partP (l : List Sp) (from_ to : Int) : List Sp :=
  l.foldl (fun acc p => ext acc (min p.t (max (max from_ 0) (min to (endS l))) - max from_ 0) p.v) []
theorem partP_of (xs : List Int) (from_ to : Int) : partP (of xs) from_ to = of (pick from_ to 0 xs) := by
  unfold partP
  have h := fold_ext (max from_ 0) (max (max from_ 0) (min to (endS (of xs)))) (by omega) 0 (of xs) xs [] 0 (parts_of xs) (by simp; omega)
  simp only [Int.add_zero, List.nil_append] at h
  rw [show (of ([] : List Int)) = [] from rfl] at h
  rw [h, endS_of]
  congr 1
  exact pick_congr _ _ _ _ _ _ fun i h1 h2 => by omega
/-- the program's Edit, its numbers brought into bounds -/
def editP (l : List Sp) (at_ cut put val : Int) : List Sp :=
  l.foldl (fun acc p => if at_ + cut < p.t then ext acc (p.t - cut + put) p.v else acc) (ext (partP l 0 at_) (at_ + put) val)
theorem editP_of (xs : List Int) (at_ cut put : Nat) (val : Int) (h1 : at_ + cut ≤ xs.length) : editP (of xs) at_ cut put val = of (xs.take at_ ++ List.replicate put val ++ xs.drop (at_ + cut)) := by
  unfold editP
  rw [partP_of, ext_of]
  have e0 : pick 0 at_ 0 xs = xs.take at_ := by simpa using pick_take at_ xs 0
  rw [e0]
  have hl : (xs.take at_).length = at_ := by simp; omega
  rw [hl, show ((at_ : Int) + put - (at_ : Nat)).toNat = put by omega]
  have hb := (parts_of xs).bounds
  have h := fold_ext (at_ + cut : Nat) xs.length (by omega) (at_ + put : Nat) (of xs) xs (xs.take at_ ++ List.replicate put val) 0 (parts_of xs) (by simp; omega)
  have e : ∀ (l : List Sp) (acc : List Sp), (∀ s ∈ l, s.t ≤ xs.length) → ((at_ : Int) + put ≤ endS acc) →
      l.foldl (fun acc p => if (at_ : Int) + cut < p.t then ext acc (p.t - cut + put) p.v else acc) acc = l.foldl (fun acc p => ext acc (min p.t (xs.length : Int) - ((at_ + cut : Nat) : Int) + ((at_ + put : Nat) : Int)) p.v) acc := by
    intro l
    induction l with
    | nil => intro acc _ _; rfl
    | cons p l ih =>
      intro acc hl he
      have hp := hl p (by simp)
      simp only [List.foldl_cons]
      split
      · rw [show min p.t (xs.length : Int) - ((at_ + cut : Nat) : Int) + ((at_ + put : Nat) : Int) = p.t - cut + put by omega]
        exact ih _ (fun s hs => hl s (by simp [hs])) (by rw [endS_ext']; omega)
      · rw [ext_small acc (min p.t (xs.length : Int) - ((at_ + cut : Nat) : Int) + ((at_ + put : Nat) : Int)) p.v (by omega)]
        exact ih _ (fun s hs => hl s (by simp [hs])) he
  rw [e _ _ (fun s hs => by have := hb s hs; omega) (by rw [endS_of]; simp; omega), h]
  congr 1
  congr 1
  have := pick_append ((at_ + cut : Nat) : Int) xs.length 0 (xs.take (at_ + cut)) (xs.drop (at_ + cut))
  rw [List.take_append_drop] at this
  rw [this, pick_none _ _ _ _ (.inl (by simp; omega)), pick_all _ _ 0 _ _ (by simp; omega) (by simp; omega)]
  simp
end Go.Proofs.YtnpcakeagpbgiaaGreat.S5
