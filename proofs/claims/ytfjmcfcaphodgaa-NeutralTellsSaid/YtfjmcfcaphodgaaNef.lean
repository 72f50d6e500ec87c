/-
  Mathematics of filling a stretch of a list, of what the program's Neutral holds between two places, of lists that are made one place after another; slices of the call's own: their spots, cutting them; slices.Clone and the comparison of two lists. No condition.
-/
import Derived.Test.YtfjmcfcaphodgaaNes
import Derived.Test.YtfjmcfcaphodgaaPush
import Derived.Lib.SliceRun
set_option linter.unusedVariables false
set_option linter.unusedSimpArgs false
namespace Go.Proofs.Ytfjmcfcaphodgaa
open Go.ChangeShapes Go.WideShapes Go.ChangeAt Go.RowKit Go.Sort

/-! filling -/
def fillL (xs : List Int) (a b : Nat) (x : Int) : List Int := (List.range xs.length).map fun j => if a ≤ j ∧ j < b then x else xs.getD j 0
theorem fill_len (xs : List Int) (a b : Nat) (x : Int) : (fillL xs a b x).length = xs.length := by simp [fillL]
theorem fill_get (xs : List Int) (a b : Nat) (x : Int) (j : Nat) : (fillL xs a b x)[j]? = if j < xs.length then some (if a ≤ j ∧ j < b then x else xs.getD j 0) else none := by
  unfold fillL
  rw [List.getElem?_map]
  split
  · rename_i h
    rw [List.getElem?_range h]; rfl
  · rename_i h
    rw [List.getElem?_eq_none (by simpa using h)]; rfl
theorem fill_getD (xs : List Int) (a b : Nat) (x : Int) (j : Nat) (hj : j < xs.length) : (fillL xs a b x).getD j 0 = if a ≤ j ∧ j < b then x else xs.getD j 0 := by
  rw [List.getD_eq_getElem?_getD, fill_get, if_pos hj]; rfl
theorem getD_some (xs : List Int) (j : Nat) (hj : j < xs.length) : xs[j]? = some (xs.getD j 0) := by
  rw [List.getD_eq_getElem?_getD, List.getElem?_eq_getElem hj]; rfl
theorem fill_zero (xs : List Int) (a b : Nat) (x : Int) (h : b ≤ a) : fillL xs a b x = xs := by
  apply List.ext_getElem?
  intro j
  rw [fill_get]
  split
  · rename_i hj
    rw [if_neg (by omega), getD_some xs j hj]
  · rename_i hj
    rw [List.getElem?_eq_none (by omega)]
theorem fill_step (xs : List Int) (a k : Nat) (x : Int) (hak : a ≤ k) (hk : k < xs.length) : (fillL xs a k x).set k x = fillL xs a (k + 1) x := by
  apply List.ext_getElem?
  intro j
  rw [List.getElem?_set, fill_get, fill_get, fill_len]
  by_cases h : k = j
  · subst h
    rw [if_pos rfl, if_pos hk, if_pos hk, if_pos (by omega)]
  · rw [if_neg h]
    split
    · congr 1
      by_cases h2 : a ≤ j ∧ j < k
      · rw [if_pos h2, if_pos (by omega)]
      · rw [if_neg h2, if_neg (by omega)]
    · rfl

/-! a stretch of neutral ones -/
theorem last_run (d : Int) (cs : List Int) (st : Nat) : ∀ j, st ≤ j → j ≤ cs.length → (∀ q, st ≤ q → q < j → neuC (cs.getD q 0) = true) → lastN d (cs.take j) = lastN d (cs.take st)
  | 0, h, _, _ => by
    obtain rfl : st = 0 := by omega
    rfl
  | j + 1, h, hl, hq => by
    by_cases e : st = j + 1
    · rw [e]
    · have ih := last_run d cs st j (by omega) (by omega) fun q h1 h2 => hq q h1 (by omega)
      rw [List.take_add_one, getD_some cs j (by omega)]
      show lastN d (cs.take j ++ [cs.getD j 0]) = _
      rw [last_snoc, if_pos (hq j (by omega) (by omega)), ih]
theorem drop_getD (cs : List Int) (j : Nat) (h : j < cs.length) : cs.drop j = cs.getD j 0 :: cs.drop (j + 1) := by
  rw [List.drop_eq_getElem_cons h, List.getD_eq_getElem?_getD, List.getElem?_eq_getElem h]; rfl
theorem first_run (d : Int) (cs : List Int) : ∀ (m j : Nat), j + m ≤ cs.length → (∀ q, j ≤ q → q < j + m → neuC (cs.getD q 0) = true) → firstN d (cs.drop j) = firstN d (cs.drop (j + m))
  | 0, j, _, _ => rfl
  | m + 1, j, hl, hq => by
    rw [drop_getD cs j (by omega), first_cons, if_pos (hq j (Nat.le_refl _) (by omega)), first_run d cs m (j + 1) (by omega) fun q h1 h2 => hq q (by omega) (by omega)]
    congr 2
    omega
theorem first_stop (d : Int) (cs : List Int) (j k : Nat) (hjk : j ≤ k) (hk : k < cs.length) (hq : ∀ q, j ≤ q → q < k → neuC (cs.getD q 0) = true) (hn : neuC (cs.getD k 0) = false) : firstN d (cs.drop j) = wayN (cs.getD k 0) := by
  rw [first_run d cs (k - j) j (by omega) fun q h1 h2 => hq q h1 (by omega), show j + (k - j) = k by omega, drop_getD cs k hk, first_cons, if_neg (by rw [hn]; decide)]
theorem first_end (d : Int) (cs : List Int) (j : Nat) (hj : j ≤ cs.length) (hq : ∀ q, j ≤ q → q < cs.length → neuC (cs.getD q 0) = true) : firstN d (cs.drop j) = d := by
  rw [first_run d cs (cs.length - j) j (by omega) fun q h1 h2 => hq q h1 (by omega), List.drop_of_length_le (by omega)]; rfl
theorem last_stop (d : Int) (cs : List Int) (k : Nat) (hk : k < cs.length) (hn : neuC (cs.getD k 0) = false) : lastN d (cs.take (k + 1)) = wayN (cs.getD k 0) := by
  rw [List.take_add_one, getD_some cs k hk]
  show lastN d (cs.take k ++ [cs.getD k 0]) = _
  rw [last_snoc, if_neg (by rw [hn]; decide)]

/-- what the program's Neutral holds before place k: up to st all is told, from there on neutral signs alone -/
structure NuS (cs : List Int) (level s e : Int) (R : List Int) (st k : Nat) (b : Int) : Prop where
  le : st ≤ k
  lk : k ≤ cs.length
  len : R.length = cs.length
  told : ∀ j, j < st → R.getD j 0 = nuAt cs level s e j
  left : ∀ j, st ≤ j → R.getD j 0 = cs.getD j 0
  neu : ∀ j, st ≤ j → j < k → neuC (cs.getD j 0) = true
  bef : lastN (edgeN s) (cs.take st) = b
section
variable {cs : List Int} {level s e : Int} {R : List Int} {st k : Nat} {b : Int}
theorem NuS.start (cs : List Int) (level s e : Int) : NuS cs level s e cs 0 0 (edgeN s) := ⟨Nat.le_refl _, Nat.zero_le _, rfl, fun _ h => by omega, fun _ _ => rfl, fun _ _ h => by omega, rfl⟩
theorem NuS.skip (h : NuS cs level s e R st k b) (hk : k < cs.length) (hn : neuC (cs.getD k 0) = true) : NuS cs level s e R st (k + 1) b :=
  ⟨Nat.le_succ_of_le h.le, hk, h.len, h.told, h.left, fun j h1 h2 => by
    by_cases e : j = k
    · rw [e]; exact hn
    · exact h.neu j h1 (by omega), h.bef⟩
/-- what a place of a run becomes -/
theorem NuS.at_ (h : NuS cs level s e R st k b) (a : Int) (j : Nat) (h1 : st ≤ j) (h2 : j < k) (ha : firstN (edgeN e) (cs.drop (j + 1)) = a) : nuAt cs level s e j = betN b a level := by
  unfold nuAt
  rw [last_run (edgeN s) cs st j h1 (by have := h.lk; omega) fun q a1 a2 => h.neu q a1 (by omega), h.bef, ha]
  unfold oneN
  rw [if_pos (h.neu j h1 h2)]
  rfl
theorem NuS.run (h : NuS cs level s e R st k b) (hk : k < cs.length) (hn : neuC (cs.getD k 0) = false) : NuS cs level s e (fillL R st k (betN b (wayN (cs.getD k 0)) level)) (k + 1) (k + 1) (wayN (cs.getD k 0)) := by
  refine ⟨Nat.le_refl _, hk, by rw [fill_len]; exact h.len, fun j hj => ?_, fun j hj => ?_, fun j h1 h2 => by omega, last_stop _ cs k hk hn⟩
  · rw [fill_getD _ _ _ _ _ (by rw [h.len]; omega)]
    by_cases h1 : st ≤ j ∧ j < k
    · rw [if_pos h1, h.at_ (wayN (cs.getD k 0)) j h1.1 h1.2 (first_stop _ cs (j + 1) k (by omega) hk (fun q a1 a2 => h.neu q (by omega) a2) hn)]
    · rw [if_neg h1]
      by_cases h2 : j < st
      · exact h.told j h2
      · obtain rfl : j = k := by omega
        rw [h.left j (by omega)]
        unfold nuAt oneN
        rw [if_neg (by rw [hn]; decide)]
  · by_cases hl : j < R.length
    · rw [fill_getD _ _ _ _ _ hl, if_neg (by omega)]
      exact h.left j (by have := h.le; omega)
    · have h1 := h.len
      have h2 := fill_len R st k (betN b (wayN (cs.getD k 0)) level)
      rw [List.getD_eq_getElem?_getD, List.getElem?_eq_none (by omega), List.getD_eq_getElem?_getD, List.getElem?_eq_none (by omega)]
theorem NuS.done (h : NuS cs level s e R st cs.length b) : fillL R st cs.length (betN b (edgeN e) level) = nuL cs level s e := by
  apply List.ext_getElem?
  intro j
  rw [fill_get, h.len]
  unfold nuL
  rw [List.getElem?_map]
  split
  · rename_i hj
    rw [List.getElem?_range hj]
    show _ = some (nuAt cs level s e j)
    congr 1
    by_cases h1 : st ≤ j
    · rw [if_pos ⟨h1, hj⟩, h.at_ (edgeN e) j h1 hj (first_end _ cs (j + 1) (by omega) fun q a1 a2 => h.neu q (by omega) a2)]
    · rw [if_neg (by omega)]
      exact h.told j (by omega)
  · rename_i hj
    rw [List.getElem?_eq_none (by simpa using hj)]; rfl
end

/-! a list that is made one place after another -/
def madeF (F : Nat → Int) (n k : Nat) : List Int := (List.range k).map F ++ List.replicate (n - k) 0
theorem madeF_len (F : Nat → Int) (n k : Nat) (h : k ≤ n) : (madeF F n k).length = n := by simp [madeF]; omega
theorem madeF_zero (F : Nat → Int) (n : Nat) : madeF F n 0 = List.replicate n 0 := by simp [madeF]
theorem madeF_end (F : Nat → Int) (n : Nat) : madeF F n n = (List.range n).map F := by simp [madeF]
theorem madeF_at (F : Nat → Int) (n k : Nat) (h : k < n) : (madeF F n k)[k]? = some 0 := by
  unfold madeF
  rw [List.getElem?_append_right (by simp), List.length_map, List.length_range, Nat.sub_self, List.getElem?_replicate, if_pos (by omega)]
theorem madeF_step (F : Nat → Int) (n k : Nat) (h : k < n) : (madeF F n k).set k (F k) = madeF F n (k + 1) := by
  unfold madeF
  rw [List.set_append_right _ _ (by simp), List.length_map, List.length_range, Nat.sub_self, List.range_succ, List.map_append, List.append_assoc, show n - k = (n - (k + 1)) + 1 by omega, List.replicate_succ, List.set_cons_zero]
  rfl

/-! slices -/
/-- what the walk of a round wants of a slice of the call's own: where it lies, its cell, what a store makes of it -/
theorem Mine.spot {k : IntKind} {e : TypeId} {w : World} {B n c : Nat} {A : Option Addr} {xs : List Int} {i : Nat} {y : Int} (h : Mine k e w B (.slice A n c) xs) (hi : xs[i]? = some y) :
    ∃ g, A = some ⟨g, 0, none⟩ ∧ B ≤ g ∧ g < w.heap.size ∧ w.cell? ⟨g, i, none⟩ = some (.int k y) ∧ w.frozen? ⟨g, i, none⟩ = false ∧ ∀ z, Mine k e (w.setCell ⟨g, i, none⟩ (.int k z)) B (.slice (some ⟨g, 0, none⟩) n c) (xs.set i z) := by
  have hlt := (List.getElem?_eq_some_iff.1 hi).1
  obtain ⟨g, c', hv, _, hB, hg⟩ := h.formB (by omega)
  injection hv with e1 e2 e3
  subst e1; subst e2; subst e3
  refine ⟨g, rfl, hB, hg, ?_, h.free i, fun z => h.set i hlt z⟩
  have := h.cellAt i hlt
  rw [List.getElem?_eq_getElem hlt] at hi
  injection hi with hi
  rw [hi] at this
  exact this
theorem mine_made {w : World} {n : Nat} (F : Nat → Int) (hn : n ≤ 1000) : Mine .i64 3 (w.alloc (.cells (madeCells #[Value.int .i64 0] n) 3)) w.heap.size (.slice (some ⟨w.heap.size, 0, none⟩) n n) (madeF F n 0) := by
  have e : madeCells #[Value.int .i64 0] n = ((List.replicate n (0 : Int)).map (Value.int .i64)).toArray := by
    have e1 : (madeCells #[Value.int .i64 0] n).toList = (List.replicate n (0 : Int)).map (Value.int .i64) := by
      unfold madeCells
      apply List.ext_getElem?
      intro i
      simp
      rcases Nat.lt_or_ge i n with h | h
      · simp [h, Nat.mod_one]
      · simp [Nat.not_lt.2 h]
    exact congrArg List.toArray e1
  rw [e, madeF_zero]
  refine ⟨by simp, .inr ⟨w.heap.size, n, _, by simp, Nat.le_refl _, heap_alloc_new w _, by simp, by unfold maxLen; omega, by simp, ?_⟩⟩
  rw [List.length_replicate]
  exact List.take_of_length_le (by simp)
theorem slice_hi (A : Option Addr) (n c a b : Nat) (hab : a ≤ b) (hb : b ≤ c) :
    ∃ S, (∀ W, (Instr.slice 22 (.slice A n c) (some (.int .i64 (a : Int))) (some (.int .i64 (b : Int))) none).run Try.prog W = .ok (.slice S (b - a) (c - a)) W) ∧ ∀ g, A = some ⟨g, 0, none⟩ → a < c → S = some ⟨g, a, none⟩ := by
  refine ⟨if c = a then A else A.map (·.add (a * 1)), fun W => ?_, fun g hg hc => ?_⟩
  · rw [run_slice_lh (P := Try.prog) W 22 A n c (by kernel_rfl) .i64 .i64 a b (by omega) (by omega) (by omega)]
    have hs : (sizeOf (Try.prog.elem 22)).run Try.prog W = .ok 1 W := by kernel_rfl
    rw [hs]
    simp [Result.andThen, sliced]
  · rw [if_neg (by omega), hg]
    simp [Addr.add]
    omega
theorem slice_lo (A : Option Addr) (n c a : Nat) (ha : a ≤ n) :
    ∃ S, (∀ W, (Instr.slice 22 (.slice A n c) (some (.int .i64 (a : Int))) none none).run Try.prog W = .ok (.slice S (n - a) (c - a)) W) ∧ ∀ g, A = some ⟨g, 0, none⟩ → a < c → S = some ⟨g, a, none⟩ := by
  refine ⟨if c = a then A else A.map (·.add (a * 1)), fun W => ?_, fun g hg hc => ?_⟩
  · rw [run_slice_l (P := Try.prog) W 22 A n c (by kernel_rfl) .i64 a (by omega) (by omega)]
    have hs : (sizeOf (Try.prog.elem 22)).run Try.prog W = .ok 1 W := by kernel_rfl
    rw [hs]
    simp [Result.andThen, sliced]
  · rw [if_neg (by omega), hg]
    simp [Addr.add]
    omega
theorem has_none {w : World} {B : Nat} {k : IntKind} {xs : List Int} (h : Has w B none (xs.map (Value.int k))) : xs = [] := by
  rcases xs with _ | ⟨y, ys⟩
  · rfl
  · obtain ⟨b, off, e, _⟩ := h (by simp)
    cases e
theorem eqnil (a : Option Addr) (n c n' c' : Nat) (w : World) : (binOp .eql 22 (.slice a n c) (.slice none n' c')).run Try.prog w = .ok (.bool a.isNone) w := Lib.run_eql_slice_nil w _ _ a n c n' c' Try.underlying22
set_option maxHeartbeats 1000000 in
theorem clone_ok (A : Option Addr) (n c : Nat) (xs : List Int) (w : World) (hn : n = xs.length) (hmax : n ≤ 1000) (h : Has w w.heap.size A (xs.map (Value.int .i64))) :
    Calls Try.prog 16 #[.slice A n c] w fun e w' => ∃ v, e = .returned v ∧ Mine .i64 3 w' w.heap.size v xs ∧ Below w.heap.size w w' := by
  cases A with
  | none =>
    obtain rfl := has_none h
    simp only [List.length_nil] at hn
    subst hn
    have q := eqnil none 0 c 0 0
    go_enter Try.func16, Try.ntmps16
    go_wp2
    go_ret
    exact ⟨_, rfl, Mine.nil_ _ _ _ _, Below.refl _ _⟩
  | some a =>
    have hm0 : Mine .i64 3 (w.alloc (.cells #[] 3)) w.heap.size (.slice (some ⟨w.heap.size, 0, none⟩) 0 0) [] := World.ownsRow_made w #[] 0 (Nat.le_refl _) (Nat.zero_le _) (by simp)
    have hb0 : Below w.heap.size w (w.alloc (.cells #[] 3)) := (Below.refl _ _).alloc (Nat.le_refl _) _
    have hh := h.carry hb0
    have HN := Lib.hid hn
    have q := eqnil (some a) n c 0 0
    clear h hn
    go_enter Try.func16, Try.ntmps16
    go_wp2_with (first
      | (at_builtin; refine wpList_pushall (k := .i64) (bytes := 8) rfl _ _ 22 rfl Try.underlying22 fullI (by decide) w.heap.size _ [] xs w _ (some a) n c HN.out (fun e => by cases e) hh hm0 rfl rfl hb0 hb0.size (by simp) (by have := HN.out; omega) ?_; intro v' w1 hM hb1 _))
    go_ret
    exact ⟨_, rfl, by simpa using hM, hb1⟩
/-- two lists are compared -/
theorem ints_ok (A B : Option Addr) (c d n : Nat) (xs : List Int) (w : World) (hnx : n = xs.length) (hn : n ≤ 1000000) (h1 : Has w w.heap.size A (xs.map (Value.int .i64))) (h2 : Has w w.heap.size B (xs.map (Value.int .i64))) :
    Calls Try.prog 8 #[.slice A n c, .slice B n d] w fun e w' => e = .returned (.bool true) ∧ ∃ q, w' = w.drewN q := by
  have HN := Lib.hid hnx
  clear hnx
  go_enter Try.func8, Try.ntmps8
  go_wp2
  go_loopw [5] (fun i wr => ∃ k : Nat, k ≤ n ∧ i = .int .i64 k ∧ ∃ q, wr = w.drewN q) (fun i _ => n - (intOf i).toNat)
  case atStart => exact ⟨0, by omega, rfl, 0, rfl⟩
  case round =>
    obtain ⟨k, hk, rfl, q, rfl⟩ := hrel
    by_cases hlt : k < n
    · have hlt2 : k < xs.length := by rw [← HN.out]; exact hlt
      obtain ⟨b, off, rfl, hb, hc⟩ := h1.at_int hlt2
      obtain ⟨b2, off2, rfl, hb2, hc2⟩ := h2.at_int hlt2
      generalize xs[k] = X at hc hc2
      clear h1 h2
      go_wp2
      go_quiet (fail)
      go_wp2
      go_roundw
      case rel => exact ⟨k + 1, by omega, by go_num, _, rfl⟩
      case measure => simp [intOf] <;> omega
    · obtain rfl : k = n := by omega
      go_wp2
      go_ret
      exact ⟨rfl, _, rfl⟩
end Go.Proofs.Ytfjmcfcaphodgaa
