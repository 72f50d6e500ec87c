/-
  Clusters over lists of classes: where two code points hang together, boundaries, what the rules look at. No program in this text. No condition.
-/
import Derived.Test.YtekjejbcdnghjaaDoorZTab
import Derived.Test.YtekjejbcdnghjaaDoorZOf
import Derived.Test.YtekjejbcdnghjaaDoorZROf
import Derived.Test.YtekjejbcdnghjaaDoorZa
import Derived.Shelf.SlSortCmp.QuietGrown
import Derived.Deep.RegionHeld3
set_option linter.unusedVariables false
namespace Go.Proofs.YtekjejbcdnghjaaDoor

/-- the Cluster class of a code point; of a text -/
def cl (r : Int) : Int := (ofP r).cl
def cls (t : List Int) : List Int := t.map cl
theorem cls_len (t : List Int) : (cls t).length = t.length := List.length_map ..
/-- the class at a place -/
def g (L : List Int) (i : Nat) : Int := L.getD i 0
theorem g_cls (t : List Int) (i : Nat) (h : i < t.length) : g (cls t) i = cl t[i] := by
  unfold g cls
  rw [List.getD_eq_getElem?_getD, List.getElem?_map, List.getElem?_eq_getElem h]; rfl
theorem g_drop (L : List Int) (f k : Nat) : g (L.drop f) k = g L (f + k) := by
  unfold g
  rw [List.getD_eq_getElem?_getD, List.getD_eq_getElem?_getD, List.getElem?_drop]
theorem g_left (p q : List Int) (i : Nat) (h : i < p.length) : g (p ++ q) i = g p i := by
  unfold g
  rw [List.getD_eq_getElem?_getD, List.getD_eq_getElem?_getD, List.getElem?_append_left h]

def stopB (a : Int) : Bool := a == 1 || a == 2 || a == 3
def attB (a : Int) : Bool := a == 4 || a == 5
def syll (a b : Int) : Bool :=
  if a = 9 then b == 9 || b == 10 || b == 12 || b == 13
  else if a = 12 ∨ a = 10 then b == 10 || b == 11
  else if a = 13 ∨ a = 11 then b == 11
  else false
/-- ends in a Picture and any number of Extends, looking at the first k classes -/
def pic (L : List Int) : Nat → Bool
  | 0 => false
  | k + 1 => if g L k = 4 then pic L k else g L k == 14
/-- how many Regionals stand right before place k -/
def regs (L : List Int) : Nat → Nat
  | 0 => 0
  | k + 1 => if g L k = 6 then regs L k + 1 else 0
/-- the document's rules -/
def hangF (a b : Int) (p q : Bool) : Bool :=
  (a == 1 && b == 2 || syll a b) || (!stopB a && (b == 4 || b == 5 || b == 8)) || (a == 7 && !stopB b) || (a == 5 && b == 14 && p) || (a == 6 && b == 6 && q)
def hang (L : List Int) (i : Nat) : Bool := hangF (g L (i - 1)) (g L i) (pic L (i - 1)) (regs L i % 2 == 1)
/-- the program's order of them -/
def joinF (a b : Int) (p q : Bool) : Bool :=
  if stopB a then a == 1 && b == 2
  else if attB b || b == 8 then true
  else if a = 7 then !stopB b
  else if a = 5 then b == 14 && p
  else if a = 6 then b == 6 && q
  else syll a b
theorem join_hang (a b : Int) (p q : Bool) : joinF a b p q = hangF a b p q := by
  have hb : (b == 4 || b == 5 || b == 8) = (attB b || b == 8) := rfl
  unfold joinF hangF
  rw [hb]
  generalize hx : (attB b || b == 8) = x
  by_cases h1 : a = 1
  · subst h1; simp [stopB, syll]
  by_cases h2 : a = 2
  · subst h2; simp [stopB, syll]
  by_cases h3 : a = 3
  · subst h3; simp [stopB, syll]
  have hs : stopB a = false := by simp [stopB, h1, h2, h3]
  rw [hs]
  by_cases h7 : a = 7
  · subst h7; cases x <;> simp [syll]
  by_cases h5 : a = 5
  · subst h5; cases x <;> simp [syll]
  by_cases h6 : a = 6
  · subst h6; cases x <;> simp [syll]
  have e1 : (a == 1) = false := beq_eq_false_iff_ne.2 h1
  have e5 : (a == 5) = false := beq_eq_false_iff_ne.2 h5
  have e6 : (a == 6) = false := beq_eq_false_iff_ne.2 h6
  have e7 : (a == 7) = false := beq_eq_false_iff_ne.2 h7
  cases x <;> simp [h7, h5, h6, e1, e5, e6, e7]

/-- all of the first k are Extends -/
def allx (L : List Int) : Nat → Bool
  | 0 => true
  | k + 1 => g L k == 4 && allx L k
theorem pic_drop (L : List Int) (f : Nat) : ∀ k, pic L (f + k) = (pic (L.drop f) k || (allx (L.drop f) k && pic L f))
  | 0 => by simp [pic, allx]
  | k + 1 => by
    rw [← Nat.add_assoc, pic, pic, allx, g_drop, pic_drop L f k]
    by_cases h : g L (f + k) = 4 <;> simp [h]
theorem regs_drop (L : List Int) (f : Nat) : ∀ k, regs L (f + k) = regs (L.drop f) k + (if regs (L.drop f) k = k then regs L f else 0)
  | 0 => by simp [regs]
  | k + 1 => by
    rw [← Nat.add_assoc, regs, regs, g_drop, regs_drop L f k]
    by_cases h : g L (f + k) = 6 <;> simp [h]
    omega
theorem regs_le (L : List Int) : ∀ k, regs L k ≤ k
  | 0 => Nat.le_refl _
  | k + 1 => by
    rw [regs]
    have := regs_le L k
    split <;> omega
theorem allx_at (L : List Int) : ∀ k, allx L k = true → ∀ j, j < k → g L j = 4
  | 0, _, j, h => absurd h (by omega)
  | k + 1, h, j, hj => by
    rw [allx, Bool.and_eq_true, beq_iff_eq] at h
    rcases Nat.lt_or_ge j k with h2 | h2
    · exact allx_at L k h.2 j h2
    · obtain rfl : j = k := by omega
      exact h.1
theorem regs_at (L : List Int) : ∀ k, regs L k = k → ∀ j, j < k → g L j = 6
  | 0, _, j, h => absurd h (by omega)
  | k + 1, h, j, hj => by
    rw [regs] at h
    have hl := regs_le L k
    by_cases h6 : g L k = 6
    · rw [if_pos h6] at h
      rcases Nat.lt_or_ge j k with h2 | h2
      · exact regs_at L k (by omega) j h2
      · obtain rfl : j = k := by omega
        exact h6
    · rw [if_neg h6] at h; omega
theorem pic_left (p q : List Int) : ∀ k, k ≤ p.length → pic (p ++ q) k = pic p k
  | 0, _ => rfl
  | k + 1, h => by rw [pic, pic, g_left _ _ _ (by omega), pic_left p q k (by omega)]
theorem regs_left (p q : List Int) : ∀ k, k ≤ p.length → regs (p ++ q) k = regs p k
  | 0, _ => rfl
  | k + 1, h => by rw [regs, regs, g_left _ _ _ (by omega), regs_left p q k (by omega)]
theorem hang_left (p q : List Int) (i : Nat) (h : i < p.length) : hang (p ++ q) i = hang p i := by
  unfold hang
  rw [g_left _ _ _ (by omega), g_left _ _ _ h, pic_left _ _ _ (by omega), regs_left _ _ _ (by omega)]

/-- what stands before a place does not matter behind it, if an attached run from there and a run of Regionals from there are passed -/
theorem hang_behind (L : List Int) (f k : Nat) (hk : 0 < k) (hp : g L (f + k - 1) = 5 → allx (L.drop f) (k - 1) = true → pic L f = false) (hr : regs (L.drop f) k = k → g L (f + k) = 6 → regs L f % 2 = 0) :
    hang L (f + k) = hang (L.drop f) k := by
  unfold hang
  rw [g_drop, g_drop, show f + k - 1 = f + (k - 1) by omega, pic_drop L f (k - 1)]
  rw [show f + k - 1 = f + (k - 1) by omega] at hp
  generalize ha : g L (f + (k - 1)) = a at hp ⊢
  generalize hb : g L (f + k) = b at hr ⊢
  by_cases h5 : a = 5
  · have h6 : ¬ a = 6 := by omega
    have e : (pic (L.drop f) (k - 1) || (allx (L.drop f) (k - 1) && pic L f)) = pic (L.drop f) (k - 1) := by
      cases hx : allx (L.drop f) (k - 1) with
      | false => simp
      | true => rw [hp h5 hx]; simp
    rw [e]
    have e6 : (a == 6) = false := beq_eq_false_iff_ne.2 h6
    unfold hangF
    rw [e6]
    simp only [Bool.false_and]
  · by_cases h6 : a = 6 ∧ b = 6
    · have e : (regs L (f + k) % 2 == 1) = (regs (L.drop f) k % 2 == 1) := by
        rw [regs_drop L f k]
        by_cases hx : regs (L.drop f) k = k
        · have := hr hx h6.2
          rw [if_pos hx, Nat.add_mod, this, Nat.add_zero, Nat.mod_mod]
        · rw [if_neg hx, Nat.add_zero]
      rw [e]
      have e5 : (a == 5) = false := beq_eq_false_iff_ne.2 h5
      unfold hangF
      rw [e5]
      simp only [Bool.false_and]
    · have h6' : (a == 6 && b == 6) = false := by
        rw [Bool.and_eq_false_iff, beq_eq_false_iff_ne, beq_eq_false_iff_ne]
        by_cases h : a = 6
        · exact .inr (fun hh => h6 ⟨h, hh⟩)
        · exact .inl h
      have h5' : (a == 5) = false := by simp [h5]
      unfold hangF
      rw [h6', h5']
      simp
/-- behind a boundary nothing before it matters -/
theorem hang_drop (L : List Int) (f k : Nat) (hf : f = 0 ∨ hang L f = false) (hk : 0 < k) : hang L (f + k) = hang (L.drop f) k := by
  rcases hf with rfl | hf
  · rw [Nat.zero_add, List.drop_zero]
  by_cases hf0 : f = 0
  · subst hf0; rw [Nat.zero_add, List.drop_zero]
  obtain ⟨m, rfl⟩ : ∃ m, f = m + 1 := ⟨f - 1, by omega⟩
  unfold hang hangF at hf
  simp only [Nat.add_sub_cancel, Bool.or_eq_false_iff] at hf
  obtain ⟨⟨⟨⟨h1, h2⟩, h3⟩, h4⟩, h5⟩ := hf
  apply hang_behind L (m + 1) k hk
  · intro ha hx
    -- the place itself is attached, so that a stop stands before it
    have hatt : g L (m + 1) = 4 ∨ g L (m + 1) = 5 := by
      by_cases hk1 : k = 1
      · subst hk1; right; exact ha
      · left
        have := allx_at _ _ hx 0 (by omega)
        rwa [g_drop] at this
    have hst : stopB (g L m) = true := by
      rcases hatt with h | h
      all_goals
        rw [h] at h2
        cases hs : stopB (g L m)
        · rw [hs] at h2; simp at h2
        · rfl
    unfold stopB at hst
    simp only [Bool.or_eq_true, beq_iff_eq] at hst
    rw [pic, if_neg (by omega)]
    rw [beq_eq_false_iff_ne]
    omega
  · intro hx _
    have h6 : g L (m + 1) = 6 := by
      have := regs_at _ _ hx 0 hk
      rwa [g_drop] at this
    rw [h6] at h5
    simp only [beq_self_eq_true, Bool.and_true] at h5
    by_cases hm : g L m = 6
    · rw [hm] at h5
      simp only [beq_self_eq_true, Bool.true_and] at h5
      rw [beq_eq_false_iff_ne] at h5
      omega
    · rw [regs, if_neg hm]
end Go.Proofs.YtekjejbcdnghjaaDoor

/-
  Contracts of the small functions: a code point's class (the program's and the document's), and what is asked of classes. No condition.
-/
set_option linter.unusedVariables false
namespace Go.Proofs.YtekjejbcdnghjaaDoor
open Go.ChangeShapes Go.WideShapes Go.ChangeAt Go.RowKit Go.Sort

theorem field_cl (p : Pr) (w : World) : (Instr.field 72 (.agg #[.int .i64 p.bidi, .int .i64 p.cl, .int .i64 p.br, .int .i64 p.sc, .int .i64 p.jn, .int .i64 p.wd, .int .i32 p.mi, .int .i32 p.pa, .bool p.op]) 1).run Tryd.prog w = .ok (.int .i64 p.cl) w := by
  simp [Instr.field, go_sem, part, asAgg, Tryd.isAgg3]
theorem of_x (r : Int) (p : Pr) (hp : ofP r = p) (w : World) : Calls Tryd.prog 65 #[.int .i32 r] w fun e w' => e = .returned (.agg #[.int .i64 p.bidi, .int .i64 p.cl, .int .i64 p.br, .int .i64 p.sc, .int .i64 p.jn, .int .i64 p.wd, .int .i32 p.mi, .int .i32 p.pa, .bool p.op]) ∧ Up w w' := by
  have := of_ok r w
  rw [hp] at this
  exact this
theorem rof_y (r : Int) (p : Pr) (hp : ofP r = p) (w : World) : Calls Tryd.prog 46 #[.int .i32 r] w fun e w' => e = .returned (.agg #[.int .i64 p.bidi, .int .i64 p.cl, .int .i64 p.br, .int .i64 p.sc, .int .i64 p.jn, .int .i64 p.wd, .int .i32 p.mi, .int .i32 p.pa, .bool p.op]) ∧ Up w w' := by
  have := rof_ok r w
  rw [hp] at this
  exact this

set_option maxHeartbeats 1000000 in
theorem class_ok (r : Int) (w : World) : Calls Tryd.prog 80 #[.int .i32 r] w fun e w' => e = .returned (.int .i64 (cl r)) ∧ Up w w' := by
  obtain ⟨p, hp⟩ : ∃ p, ofP r = p := ⟨_, rfl⟩
  have hc : cl r = p.cl := by unfold cl; rw [hp]
  rw [hc]
  have HC := Lib.hid (fun w => of_x r p hp w)
  have hfb := fun w => field_cl p w
  clear hp hc
  go_enter Tryd.func80, Tryd.ntmps80
  go_wp2_with (go_at_call 65; refine (HC.out _).mono ?_; rintro e u ⟨rfl, hu⟩)
  go_ret
  exact ⟨rfl, hu⟩
set_option maxHeartbeats 1000000 in
theorem rclass_ok (r : Int) (w : World) : Calls Tryd.prog 111 #[.int .i32 r] w fun e w' => e = .returned (.int .i64 (cl r)) ∧ Up w w' := by
  obtain ⟨p, hp⟩ : ∃ p, ofP r = p := ⟨_, rfl⟩
  have hc : cl r = p.cl := by unfold cl; rw [hp]
  rw [hc]
  have HC := Lib.hid (fun w => rof_y r p hp w)
  have hfb := fun w => field_cl p w
  clear hp hc
  go_enter Tryd.func111, Tryd.ntmps111
  go_wp2_with (go_at_call 46; refine (HC.out _).mono ?_; rintro e u ⟨rfl, hu⟩)
  go_ret
  exact ⟨rfl, hu⟩

theorem isReg_ok (a : Int) (w : World) : Calls Tryd.prog 110 #[.int .i64 a] w fun e w' => e = .returned (.bool (a == 6)) ∧ w = w' := by
  go_enter Tryd.func110, Tryd.ntmps110
  go_wp2
  go_ret
  exact ⟨rfl, rfl⟩
theorem isAtt_ok (a : Int) (w : World) : Calls Tryd.prog 82 #[.int .i64 a] w fun e w' => e = .returned (.bool (attB a)) ∧ w = w' := by
  unfold attB
  by_cases h1 : a = 4
  · subst h1
    go_enter Tryd.func82, Tryd.ntmps82
    go_wp2
    go_ret
    exact ⟨rfl, rfl⟩
  have e1 : (a == 4) = false := beq_eq_false_iff_ne.2 h1
  rw [e1]
  go_enter Tryd.func82, Tryd.ntmps82
  go_wp2
  go_ret
  exact ⟨rfl, rfl⟩
theorem isBreak_ok (a : Int) (w : World) : Calls Tryd.prog 81 #[.int .i64 a] w fun e w' => e = .returned (.bool (stopB a)) ∧ w = w' := by
  unfold stopB
  by_cases h1 : a = 1
  · subst h1
    go_enter Tryd.func81, Tryd.ntmps81
    go_wp2
    go_ret
    exact ⟨rfl, rfl⟩
  have e1 : (a == 1) = false := beq_eq_false_iff_ne.2 h1
  by_cases h2 : a = 2
  · subst h2
    go_enter Tryd.func81, Tryd.ntmps81
    go_wp2
    go_ret
    exact ⟨rfl, rfl⟩
  have e2 : (a == 2) = false := beq_eq_false_iff_ne.2 h2
  rw [e1, e2]
  go_enter Tryd.func81, Tryd.ntmps81
  go_wp2
  go_ret
  exact ⟨rfl, rfl⟩
theorem rstops_ok (a : Int) (w : World) : Calls Tryd.prog 113 #[.int .i64 a] w fun e w' => e = .returned (.bool (stopB a)) ∧ w = w' := by
  unfold stopB
  by_cases h1 : a = 1
  · subst h1
    go_enter Tryd.func113, Tryd.ntmps113
    go_wp2
    go_ret
    exact ⟨rfl, rfl⟩
  have e1 : (a == 1) = false := beq_eq_false_iff_ne.2 h1
  by_cases h2 : a = 2
  · subst h2
    go_enter Tryd.func113, Tryd.ntmps113
    go_wp2
    go_ret
    exact ⟨rfl, rfl⟩
  have e2 : (a == 2) = false := beq_eq_false_iff_ne.2 h2
  rw [e1, e2]
  go_enter Tryd.func113, Tryd.ntmps113
  go_wp2
  go_ret
  exact ⟨rfl, rfl⟩
set_option maxHeartbeats 2000000 in
theorem same_ok (a b : Int) (w : World) : Calls Tryd.prog 85 #[.int .i64 a, .int .i64 b] w fun e w' => e = .returned (.bool (syll a b)) ∧ w = w' := by
  obtain ⟨V, hV⟩ : ∃ V, syll a b = V := ⟨_, rfl⟩
  rw [hV]
  have HV := Lib.hid hV
  clear hV
  have eq : ∀ (x y : Int), (x == y) = decide (x = y) := fun x y => by by_cases h : x = y <;> simp [h]
  by_cases b9 : b = 9
  all_goals by_cases b10 : b = 10
  all_goals by_cases b11 : b = 11
  all_goals by_cases b12 : b = 12
  all_goals by_cases b13 : b = 13
  all_goals first | (exfalso; omega) | skip
  all_goals
    go_enter Tryd.func85, Tryd.ntmps85
    go_wp2
  all_goals
    go_ret
    refine ⟨?_, rfl⟩
    have := HV.out
    clear HV
    subst this
    unfold syll
    simp_all
set_option maxHeartbeats 2000000 in
theorem hangul_ok (a b : Int) (w : World) : Calls Tryd.prog 112 #[.int .i64 a, .int .i64 b] w fun e w' => e = .returned (.bool (syll a b)) ∧ w = w' := by
  obtain ⟨V, hV⟩ : ∃ V, syll a b = V := ⟨_, rfl⟩
  rw [hV]
  have HV := Lib.hid hV
  clear hV
  have eq : ∀ (x y : Int), (x == y) = decide (x = y) := fun x y => by by_cases h : x = y <;> simp [h]
  by_cases b9 : b = 9
  all_goals by_cases b10 : b = 10
  all_goals by_cases b11 : b = 11
  all_goals by_cases b12 : b = 12
  all_goals by_cases b13 : b = 13
  all_goals first | (exfalso; omega) | skip
  all_goals
    go_enter Tryd.func112, Tryd.ntmps112
    go_wp2
  all_goals
    go_ret
    refine ⟨?_, rfl⟩
    have := HV.out
    clear HV
    subst this
    unfold syll
    simp_all
end Go.Proofs.YtekjejbcdnghjaaDoor

/-
  Contracts of what looks back: endsInPicture and picture, oddRegionals and regionals. Condition: at most 1000 code points.
-/
set_option linter.unusedVariables false
namespace Go.Proofs.YtekjejbcdnghjaaDoor
open Go.ChangeShapes Go.WideShapes Go.ChangeAt Go.RowKit

theorem Has.up {w w' : World} {A : Option Addr} {xs : List Value} (h : Has w w.heap.size A xs) (hu : Up w w') : Has w' w'.heap.size A xs := h.carry hu.1

set_option maxHeartbeats 1000000 in
theorem ends_ok (A : Option Addr) (c m : Nat) (zs : List Int) (w : World) (hm : m ≤ zs.length) (hn : zs.length ≤ 1000) (h : Has w w.heap.size A (zs.map (Value.int .i32))) :
    Calls Tryd.prog 83 #[.slice A m c] w fun e w' => e = .returned (.bool (pic (cls zs) m)) ∧ Up w w' := by
  obtain ⟨V, hV⟩ : ∃ V, pic (cls zs) m = V := ⟨_, rfl⟩
  rw [hV]
  have HV := Lib.hid hV
  clear hV
  go_enter Tryd.func83, Tryd.ntmps83
  go_wp2
  go_loopw [3] (fun i wr => ∃ k : Nat, k ≤ m ∧ i = .int .i64 ((k : Int) - 1) ∧ Hid (pic (cls zs) k = V) ∧ Up w wr) (fun i _ => (intOf i + 1).toNat)
  case atStart => exact ⟨m, Nat.le_refl _, rfl, HV, Up.refl _⟩
  case round =>
    obtain ⟨k, hk, rfl, HT, hU⟩ := hrel
    clear HV
    rcases Nat.eq_zero_or_pos k with rfl | hk0
    · have hF : V = false := HT.out.symm
      clear HT
      rw [show ((0 : Nat) : Int) - 1 = -1 by omega]
      go_wp2
      go_ret
      exact ⟨by rw [hF]; rfl, hU⟩
    · obtain ⟨j, rfl⟩ : ∃ j, k = j + 1 := ⟨k - 1, by omega⟩
      rw [show ((j + 1 : Nat) : Int) - 1 = j by omega]
      obtain ⟨b, off, rfl, hb, hcc⟩ := (h.up hU).at_int (k := j) (by omega)
      have hg := g_cls zs j (by omega)
      obtain ⟨X, hX⟩ : ∃ X, zs[j] = X := ⟨_, rfl⟩
      rw [hX] at hcc hg
      by_cases h4 : cl X = 4
      · have HN : Hid (pic (cls zs) j = V) := Lib.hid (by rw [← HT.out, pic, if_pos (by rw [hg]; exact h4)])
        clear HT hg hX
        go_wp2_with (go_at_call 80; refine (class_ok _ _).mono ?_; rintro e u ⟨rfl, hu⟩; have hU := hU.trans hu; rw [h4])
        go_roundw
        case rel => exact ⟨j, by omega, by go_num, HN, hU⟩
        case measure => simp [intOf] <;> omega
      · have HN : Hid (V = (cl X == 14)) := Lib.hid (by rw [← HT.out, pic, if_neg (by rw [hg]; exact h4), hg])
        clear HT hg hX
        obtain ⟨Y, hY⟩ : ∃ Y, cl X = Y := ⟨_, rfl⟩
        rw [hY] at HN h4
        have HC := Lib.hid (fun w => class_ok X w)
        rw [hY] at HC
        have e4 : (Y == 4) = false := beq_eq_false_iff_ne.2 h4
        go_wp2_with (go_at_call 80; refine (HC.out _).mono ?_; rintro e u ⟨rfl, hu⟩; have hU := hU.trans hu; have hcc := hu.cell hcc)
        go_ret
        exact ⟨by rw [HN.out]; rfl, hU⟩
set_option maxHeartbeats 1000000 in
theorem picture_ok (A : Option Addr) (c m : Nat) (zs : List Int) (w : World) (hm : m ≤ zs.length) (hn : zs.length ≤ 1000) (h : Has w w.heap.size A (zs.map (Value.int .i32))) :
    Calls Tryd.prog 114 #[.slice A zs.length c, .int .i64 m] w fun e w' => e = .returned (.bool (pic (cls zs) m)) ∧ Up w w' := by
  obtain ⟨V, hV⟩ : ∃ V, pic (cls zs) m = V := ⟨_, rfl⟩
  rw [hV]
  have HV := Lib.hid hV
  clear hV
  go_enter Tryd.func114, Tryd.ntmps114
  go_wp2
  go_loopw [1] (fun i wr => ∃ k : Nat, k ≤ m ∧ i = .int .i64 ((k : Int) - 1) ∧ Hid (pic (cls zs) k = V) ∧ Up w wr) (fun i _ => (intOf i + 1).toNat)
  case atStart => exact ⟨m, Nat.le_refl _, rfl, HV, Up.refl _⟩
  case round =>
    obtain ⟨k, hk, rfl, HT, hU⟩ := hrel
    clear HV
    rcases Nat.eq_zero_or_pos k with rfl | hk0
    · have hF : V = false := HT.out.symm
      clear HT
      rw [show ((0 : Nat) : Int) - 1 = -1 by omega]
      go_wp2
      go_ret
      exact ⟨by rw [hF]; rfl, hU⟩
    · obtain ⟨j, rfl⟩ : ∃ j, k = j + 1 := ⟨k - 1, by omega⟩
      rw [show ((j + 1 : Nat) : Int) - 1 = j by omega]
      obtain ⟨b, off, rfl, hb, hcc⟩ := (h.up hU).at_int (k := j) (by omega)
      have hg := g_cls zs j (by omega)
      obtain ⟨X, hX⟩ : ∃ X, zs[j] = X := ⟨_, rfl⟩
      rw [hX] at hcc hg
      by_cases h4 : cl X = 4
      · have HN : Hid (pic (cls zs) j = V) := Lib.hid (by rw [← HT.out, pic, if_pos (by rw [hg]; exact h4)])
        clear HT hg hX
        go_wp2_with (go_at_call 111; refine (rclass_ok _ _).mono ?_; rintro e u ⟨rfl, hu⟩; have hU := hU.trans hu; rw [h4])
        go_roundw
        case rel => exact ⟨j, by omega, by go_num, HN, hU⟩
        case measure => simp [intOf] <;> omega
      · have HN : Hid (V = (cl X == 14)) := Lib.hid (by rw [← HT.out, pic, if_neg (by rw [hg]; exact h4), hg])
        clear HT hg hX
        obtain ⟨Y, hY⟩ : ∃ Y, cl X = Y := ⟨_, rfl⟩
        rw [hY] at HN h4
        have HC := Lib.hid (fun w => rclass_ok X w)
        rw [hY] at HC
        have e4 : (Y == 4) = false := beq_eq_false_iff_ne.2 h4
        go_wp2_with (go_at_call 111; refine (HC.out _).mono ?_; rintro e u ⟨rfl, hu⟩; have hU := hU.trans hu; have hcc := hu.cell hcc)
        go_ret
        exact ⟨by rw [HN.out]; rfl, hU⟩

theorem regs_step (L : List Int) (k : Nat) : regs L (k + 1) = if g L k = 6 then regs L k + 1 else 0 := rfl
theorem odd_succ (n : Nat) : ((n + 1) % 2 == 1) = !(n % 2 == 1) := by
  rcases Nat.mod_two_eq_zero_or_one n with h | h
  · rw [h, Nat.add_mod, h]; rfl
  · rw [h, Nat.add_mod, h]; rfl
set_option maxHeartbeats 1000000 in
theorem odd_ok (A : Option Addr) (c m : Nat) (zs : List Int) (w : World) (hm : m ≤ zs.length) (hn : zs.length ≤ 1000) (h : Has w w.heap.size A (zs.map (Value.int .i32))) :
    Calls Tryd.prog 84 #[.slice A m c] w fun e w' => e = .returned (.bool (regs (cls zs) m % 2 == 1)) ∧ Up w w' := by
  obtain ⟨V, hV⟩ : ∃ V, (regs (cls zs) m % 2 == 1) = V := ⟨_, rfl⟩
  rw [hV]
  have HV := Lib.hid hV
  clear hV
  go_enter Tryd.func84, Tryd.ntmps84
  go_wp2
  go_loopw [3, 4] (fun v i wr => ∃ (o : Bool) (k : Nat), k ≤ m ∧ v = .bool o ∧ i = .int .i64 ((k : Int) - 1) ∧ Hid ((o ^^ (regs (cls zs) k % 2 == 1)) = V) ∧ Up w wr) (fun _ i _ => (intOf i + 1).toNat)
  case atStart => exact ⟨false, m, Nat.le_refl _, rfl, rfl, Lib.hid (by rw [HV.out]; simp), Up.refl _⟩
  case round =>
    obtain ⟨o, k, hk, rfl, rfl, HT, hU⟩ := hrel
    clear HV
    rcases Nat.eq_zero_or_pos k with rfl | hk0
    · have hF : o = V := by have := HT.out; simpa [regs] using this
      clear HT
      rw [show ((0 : Nat) : Int) - 1 = -1 by omega]
      go_wp2
      go_ret
      exact ⟨by rw [← hF]; rfl, hU⟩
    · obtain ⟨j, rfl⟩ : ∃ j, k = j + 1 := ⟨k - 1, by omega⟩
      rw [show ((j + 1 : Nat) : Int) - 1 = j by omega]
      obtain ⟨b, off, rfl, hb, hcc⟩ := (h.up hU).at_int (k := j) (by omega)
      have hg := g_cls zs j (by omega)
      obtain ⟨X, hX⟩ : ∃ X, zs[j] = X := ⟨_, rfl⟩
      rw [hX] at hcc hg
      have hs := regs_step (cls zs) j
      by_cases h6 : cl X = 6
      · have HN : Hid (((!o) ^^ (regs (cls zs) j % 2 == 1)) = V) := Lib.hid (by rw [← HT.out, hs, if_pos (by rw [hg]; exact h6), odd_succ]; cases o <;> simp)
        clear HT hg hX hs
        go_wp2_with (first | (go_at_call 80; refine (class_ok _ _).mono ?_; rintro e u ⟨rfl, hu⟩; have hU := hU.trans hu; rw [h6]) | (go_at_call 110; refine (isReg_ok _ _).mono ?_; rintro e u ⟨rfl, rfl⟩))
        go_roundw
        case rel => exact ⟨!o, j, by omega, rfl, by go_num, HN, hU⟩
        case measure => simp [intOf] <;> omega
      · have HN : Hid (o = V) := Lib.hid (by rw [← HT.out, hs, if_neg (by rw [hg]; exact h6)]; simp)
        clear HT hg hX hs
        obtain ⟨Y, hY⟩ : ∃ Y, cl X = Y := ⟨_, rfl⟩
        rw [hY] at h6
        have HC := Lib.hid (fun w => class_ok X w)
        rw [hY] at HC
        have e6 : (Y == 6) = false := beq_eq_false_iff_ne.2 h6
        have HR := Lib.hid (fun w => isReg_ok Y w)
        rw [e6] at HR
        go_wp2_with (first | (go_at_call 80; refine (HC.out _).mono ?_; rintro e u ⟨rfl, hu⟩; have hU := hU.trans hu; have hcc := hu.cell hcc) | (go_at_call 110; refine (HR.out _).mono ?_; rintro e u ⟨rfl, rfl⟩))
        go_ret
        exact ⟨by rw [HN.out]; rfl, hU⟩

set_option maxHeartbeats 1000000 in
theorem regs_ok (A : Option Addr) (c m : Nat) (zs : List Int) (w : World) (hm : m ≤ zs.length) (hn : zs.length ≤ 1000) (h : Has w w.heap.size A (zs.map (Value.int .i32))) :
    Calls Tryd.prog 115 #[.slice A zs.length c, .int .i64 m] w fun e w' => e = .returned (.int .i64 (regs (cls zs) m : Nat)) ∧ Up w w' := by
  obtain ⟨V, hV⟩ : ∃ V, regs (cls zs) m = V := ⟨_, rfl⟩
  rw [hV]
  have HV := Lib.hid hV
  clear hV
  go_enter Tryd.func115, Tryd.ntmps115
  go_wp2
  go_loopw [5] (fun i wr => ∃ n : Nat, n ≤ m ∧ i = .int .i64 (n : Int) ∧ Hid (n + regs (cls zs) (m - n) = V) ∧ Up w wr) (fun i _ => m - (intOf i).toNat)
  case atStart => exact ⟨0, Nat.zero_le _, rfl, Lib.hid (by rw [Nat.zero_add]; exact HV.out), Up.refl _⟩
  case round =>
    obtain ⟨n, hk, rfl, HT, hU⟩ := hrel
    clear HV
    by_cases hlt : n < m
    · have hL : m - n - 1 < zs.length := by omega
      obtain ⟨b, off, rfl, hb, hcc⟩ := (h.up hU).at_int (k := m - n - 1) hL
      have hg := g_cls zs (m - n - 1) hL
      obtain ⟨X, hX⟩ : ∃ X, zs[m - n - 1] = X := ⟨_, rfl⟩
      rw [hX] at hcc hg
      have hs := regs_step (cls zs) (m - n - 1)
      rw [show m - n - 1 + 1 = m - n by omega] at hs
      by_cases h6 : cl X = 6
      · have HN : Hid (n + 1 + regs (cls zs) (m - (n + 1)) = V) := Lib.hid (by rw [← HT.out, hs, if_pos (by rw [hg]; exact h6), show m - (n + 1) = m - n - 1 by omega]; omega)
        clear HT hg hX hs
        go_wp2_with (first | (go_at_call 111; refine (rclass_ok _ _).mono ?_; rintro e u ⟨rfl, hu⟩; have hU := hU.trans hu; rw [h6]))
        go_roundw
        case rel => exact ⟨n + 1, by omega, by go_num, HN, hU⟩
        case measure => simp [intOf] <;> omega
      · have HN : Hid (n = V) := Lib.hid (by rw [← HT.out, hs, if_neg (by rw [hg]; exact h6)]; omega)
        clear HT hg hX hs
        obtain ⟨Y, hY⟩ : ∃ Y, cl X = Y := ⟨_, rfl⟩
        rw [hY] at h6
        have HC := Lib.hid (fun w => rclass_ok X w)
        rw [hY] at HC
        have e6 : (Y == 6) = false := beq_eq_false_iff_ne.2 h6
        go_wp2_with (first | (go_at_call 111; refine (HC.out _).mono ?_; rintro e u ⟨rfl, hu⟩; have hU := hU.trans hu; have hcc := hu.cell hcc))
        go_ret
        exact ⟨by rw [HN.out]; rfl, hU⟩
    · obtain rfl : n = m := by omega
      have HN : Hid (n = V) := Lib.hid (by have := HT.out; rw [Nat.sub_self] at this; simpa [regs] using this)
      clear HT
      have e0 : (n : Int) - n = 0 := by omega
      go_wp2
      go_ret
      exact ⟨by rw [HN.out]; rfl, hU⟩
end Go.Proofs.YtekjejbcdnghjaaDoor

/-
  Contracts of the program's joined and of the document's hangs at a place inside a text. Condition: at most 1000 code points.
-/
set_option linter.unusedVariables false
namespace Go.Proofs.YtekjejbcdnghjaaDoor
open Go.ChangeShapes Go.WideShapes Go.ChangeAt Go.RowKit Go.Sort

theorem Has.cells {w : World} {A : Option Addr} {zs : List Int} (h : Has w w.heap.size A (zs.map (Value.int .i32))) {i j : Nat} (hi : i < zs.length) (hj : j < zs.length) :
    ∃ b off, A = some ⟨b, off, none⟩ ∧ b < w.heap.size ∧ w.cell? ⟨b, off + i, none⟩ = some (.int .i32 zs[i]) ∧ w.cell? ⟨b, off + j, none⟩ = some (.int .i32 zs[j]) := by
  obtain ⟨b, off, rfl, hb, h1⟩ := h.at_int hi
  obtain ⟨b2, off2, e, _, h2⟩ := h.at_int hj
  injection e with e
  injection e with e1 e2
  subst e1; subst e2
  exact ⟨b, off, rfl, hb, h1, h2⟩

set_option maxHeartbeats 1000000 in
theorem joined_ok (A : Option Addr) (c i : Nat) (zs : List Int) (w : World) (h0 : 0 < i) (hi : i < zs.length) (hn : zs.length ≤ 1000) (hc : zs.length ≤ c) (h : Has w w.heap.size A (zs.map (Value.int .i32))) :
    Calls Tryd.prog 66 #[.slice A zs.length c, .int .i64 i] w fun e w' => e = .returned (.bool (hang (cls zs) i)) ∧ Up w w' := by
  have mixed : Tryd.prog.follows .mixedOrders = true := by kernel_rfl
  have hv : hang (cls zs) i = joinF (cl zs[i - 1]) (cl zs[i]) (pic (cls zs) (i - 1)) (regs (cls zs) i % 2 == 1) := by
    unfold hang
    rw [g_cls zs (i - 1) (by omega), g_cls zs i hi, join_hang]
  obtain ⟨b, off, rfl, hb, hc1, hc2⟩ := h.cells (i := i - 1) (j := i) (by omega) hi
  rw [hv]
  clear hv
  have HE := Lib.hid (fun A c w h => ends_ok A c (i - 1) zs w (by omega) hn h)
  have HO := Lib.hid (fun A c w h => odd_ok A c i zs w (by omega) hn h)
  have HX1 := Lib.hid (fun w => class_ok zs[i - 1] w)
  have HX2 := Lib.hid (fun w => class_ok zs[i] w)
  generalize hP : pic (cls zs) (i - 1) = p at HE ⊢
  generalize hQ : (regs (cls zs) i % 2 == 1) = q at HO ⊢
  generalize hX : zs[i - 1] = X at HX1 hc1 ⊢
  generalize hY : zs[i] = Y at HX2 hc2 ⊢
  generalize ha : cl X = x at HX1 ⊢
  generalize hbb : cl Y = y at HX2 ⊢
  clear hP hQ hX hY ha hbb
  have hl1 : ∀ n os, (grow (w.drewN n) os).cell? ⟨b, off + (i - 1), none⟩ = some (.int .i32 X) := fun n os => cell_grown hb hc1 n os
  have hl2 : ∀ n os, (grow (w.drewN n) os).cell? ⟨b, off + i, none⟩ = some (.int .i32 Y) := fun n os => cell_grown hb hc2 n os
  have HG1 : Hid (∀ n os, Calls Tryd.prog 80 #[.int .i32 X] (grow (w.drewN n) os) fun e w' => e = .returned (.int .i64 x) ∧ ∃ q os', w' = grow ((grow (w.drewN n) os).drewN q) os') := Lib.hid (fun n os => (HX1.out _).mono fun _ _ ⟨he, hu⟩ => ⟨he, hu.grow⟩)
  have HG2 : Hid (∀ n os, Calls Tryd.prog 80 #[.int .i32 Y] (grow (w.drewN n) os) fun e w' => e = .returned (.int .i64 y) ∧ ∃ q os', w' = grow ((grow (w.drewN n) os).drewN q) os') := Lib.hid (fun n os => (HX2.out _).mono fun _ _ ⟨he, hu⟩ => ⟨he, hu.grow⟩)
  obtain ⟨V, hV⟩ : ∃ V, joinF x y p q = V := ⟨_, rfl⟩
  rw [hV]
  have HV := Lib.hid hV
  clear hV HX1 HX2
  have HH := Lib.hid h
  clear h
  have kw : IntKind.i64.wrap ((i : Int) - 1) = ((i - 1 : Nat) : Int) := by rw [IntWalk.i64_in _ (by omega)]; omega
  have hL1 : i - 1 < zs.length := by omega
  go_enter Tryd.func66, Tryd.ntmps66
  go_wp2
  go_quiet_grown ((go_at_call 80; first | with_reducible exact Calls.grown_of (HG1.out _ _) | with_reducible exact Calls.grown_of (HG2.out _ _)))
  have hU : ∀ n os, Up w (grow (w.drewN n) os) := fun n os => Up.of_grow w n os
  have hn1 : i ≤ c := by omega
  have hn2 : ¬ c = 0 := by omega
  unfold joinF at HV
  cases hs : stopB x with
  | true =>
    rw [hs] at HV
    by_cases h1 : x = 1
    · subst h1
      have HR : Hid ((y == 2) = V) := Lib.hid (by rw [← HV.out]; simp)
      clear HV
      go_wp2_with (go_at_call 81; refine (isBreak_ok _ _).mono ?_; rintro e u ⟨rfl, rfl⟩; rw [hs])
      go_ret
      exact ⟨by rw [← HR.out]; rfl, hU _ _⟩
    · have e1 : (x == 1) = false := beq_eq_false_iff_ne.2 h1
      have HR : Hid (V = false) := Lib.hid (by rw [← HV.out, e1]; simp)
      clear HV
      go_wp2_with (go_at_call 81; refine (isBreak_ok _ _).mono ?_; rintro e u ⟨rfl, rfl⟩; rw [hs])
      go_ret
      exact ⟨by rw [HR.out]; rfl, hU _ _⟩
  | false =>
    rw [hs] at HV
    cases ha : attB y with
    | true =>
      have HR : Hid (V = true) := Lib.hid (by rw [← HV.out, ha]; simp)
      clear HV
      go_wp2_with (first | (go_at_call 81; refine (isBreak_ok _ _).mono ?_; rintro e u ⟨rfl, rfl⟩; rw [hs]) | (go_at_call 82; refine (isAtt_ok _ _).mono ?_; rintro e u ⟨rfl, rfl⟩; rw [ha]))
      go_ret
      exact ⟨by rw [HR.out]; rfl, hU _ _⟩
    | false =>
      by_cases h8 : y = 8
      · subst h8
        have HR : Hid (V = true) := Lib.hid (by rw [← HV.out]; simp)
        clear HV
        go_wp2_with (first | (go_at_call 81; refine (isBreak_ok _ _).mono ?_; rintro e u ⟨rfl, rfl⟩; rw [hs]) | (go_at_call 82; refine (isAtt_ok _ _).mono ?_; rintro e u ⟨rfl, rfl⟩; rw [ha]))
        go_ret
        exact ⟨by rw [HR.out]; rfl, hU _ _⟩
      have e8 : (y == 8) = false := beq_eq_false_iff_ne.2 h8
      rw [ha, e8] at HV
      by_cases h7 : x = 7
      · subst h7
        have HR : Hid ((!stopB y) = V) := Lib.hid (by rw [← HV.out]; simp)
        clear HV
        generalize hsy : stopB y = sy at HR
        go_wp2_with (first | (go_at_call 81; refine (isBreak_ok _ _).mono ?_; rintro e u ⟨rfl, rfl⟩; first | rw [hs] | rw [hsy]) | (go_at_call 82; refine (isAtt_ok _ _).mono ?_; rintro e u ⟨rfl, rfl⟩; rw [ha]))
        go_ret
        exact ⟨by rw [← HR.out]; rfl, hU _ _⟩
      have e7 : (x == 7) = false := beq_eq_false_iff_ne.2 h7
      rw [if_neg h7] at HV
      by_cases h5 : x = 5
      · subst h5
        by_cases h14 : y = 14
        · subst h14
          have HR : Hid (p = V) := Lib.hid (by rw [← HV.out]; simp)
          clear HV
          go_wp2_with (first | (go_at_call 81; refine (isBreak_ok _ _).mono ?_; rintro e u ⟨rfl, rfl⟩; rw [hs]) | (go_at_call 82; refine (isAtt_ok _ _).mono ?_; rintro e u ⟨rfl, rfl⟩; rw [ha]) | (go_at_call 83; refine (HE.out _ _ _ (by simpa using HH.out.up (hU _ _))).mono ?_; rintro e u ⟨rfl, hu⟩))
          go_ret
          exact ⟨by rw [HR.out]; rfl, (hU _ _).trans hu⟩
        · have e14 : (y == 14) = false := beq_eq_false_iff_ne.2 h14
          have HR : Hid (V = false) := Lib.hid (by rw [← HV.out, e14]; simp)
          clear HV
          go_wp2_with (first | (go_at_call 81; refine (isBreak_ok _ _).mono ?_; rintro e u ⟨rfl, rfl⟩; rw [hs]) | (go_at_call 82; refine (isAtt_ok _ _).mono ?_; rintro e u ⟨rfl, rfl⟩; rw [ha]))
          go_ret
          exact ⟨by rw [HR.out]; rfl, hU _ _⟩
      have e5 : (x == 5) = false := beq_eq_false_iff_ne.2 h5
      rw [if_neg h5] at HV
      by_cases h6 : x = 6
      · subst h6
        by_cases h14 : y = 6
        · subst h14
          have HR : Hid (q = V) := Lib.hid (by rw [← HV.out]; simp)
          clear HV
          go_wp2_with (first | (go_at_call 81; refine (isBreak_ok _ _).mono ?_; rintro e u ⟨rfl, rfl⟩; rw [hs]) | (go_at_call 82; refine (isAtt_ok _ _).mono ?_; rintro e u ⟨rfl, rfl⟩; rw [ha]) | (go_at_call 84; refine (HO.out _ _ _ (by simpa using HH.out.up (hU _ _))).mono ?_; rintro e u ⟨rfl, hu⟩))
          go_ret
          exact ⟨by rw [HR.out]; rfl, (hU _ _).trans hu⟩
        · have e14 : (y == 6) = false := beq_eq_false_iff_ne.2 h14
          have HR : Hid (V = false) := Lib.hid (by rw [← HV.out, e14]; simp)
          clear HV
          go_wp2_with (first | (go_at_call 81; refine (isBreak_ok _ _).mono ?_; rintro e u ⟨rfl, rfl⟩; rw [hs]) | (go_at_call 82; refine (isAtt_ok _ _).mono ?_; rintro e u ⟨rfl, rfl⟩; rw [ha]))
          go_ret
          exact ⟨by rw [HR.out]; rfl, hU _ _⟩
      have e6 : (x == 6) = false := beq_eq_false_iff_ne.2 h6
      rw [if_neg h6] at HV
      have HR : Hid (syll x y = V) := Lib.hid (by rw [← HV.out]; simp)
      clear HV
      go_wp2_with (first | (go_at_call 81; refine (isBreak_ok _ _).mono ?_; rintro e u ⟨rfl, rfl⟩; rw [hs]) | (go_at_call 82; refine (isAtt_ok _ _).mono ?_; rintro e u ⟨rfl, rfl⟩; rw [ha]) | (go_at_call 85; refine (same_ok _ _ _).mono ?_; rintro e u ⟨rfl, rfl⟩; rw [HR.out]))
      go_ret
      exact ⟨rfl, hU _ _⟩
set_option maxHeartbeats 1000000 in
theorem hangs_ok (A : Option Addr) (c i : Nat) (zs : List Int) (w : World) (h0 : 0 < i) (hi : i < zs.length) (hn : zs.length ≤ 1000) (hc : zs.length ≤ c) (h : Has w w.heap.size A (zs.map (Value.int .i32))) :
    Calls Tryd.prog 102 #[.slice A zs.length c, .int .i64 i] w fun e w' => e = .returned (.bool (hang (cls zs) i)) ∧ Up w w' := by
  have mixed : Tryd.prog.follows .mixedOrders = true := by kernel_rfl
  have hv : hang (cls zs) i = hangF (cl zs[i - 1]) (cl zs[i]) (pic (cls zs) (i - 1)) (regs (cls zs) i % 2 == 1) := by
    unfold hang
    rw [g_cls zs (i - 1) (by omega), g_cls zs i hi]
  obtain ⟨b, off, rfl, hb, hc1, hc2⟩ := h.cells (i := i - 1) (j := i) (by omega) hi
  rw [hv]
  clear hv
  have HE := Lib.hid (fun A c w h => picture_ok A c (i - 1) zs w (by omega) hn h)
  have HO := Lib.hid (fun A c w h => regs_ok A c i zs w (by omega) hn h)
  have HX1 := Lib.hid (fun w => rclass_ok zs[i - 1] w)
  have HX2 := Lib.hid (fun w => rclass_ok zs[i] w)
  generalize hP : pic (cls zs) (i - 1) = p at HE ⊢
  generalize hQ : regs (cls zs) i = r at HO ⊢
  have hri : r ≤ i := by rw [← hQ]; exact regs_le _ _
  generalize hX : zs[i - 1] = X at HX1 hc1 ⊢
  generalize hY : zs[i] = Y at HX2 hc2 ⊢
  generalize ha : cl X = x at HX1 ⊢
  generalize hbb : cl Y = y at HX2 ⊢
  clear hP hQ hX hY ha hbb
  have hl1 : ∀ n os, (grow (w.drewN n) os).cell? ⟨b, off + (i - 1), none⟩ = some (.int .i32 X) := fun n os => cell_grown hb hc1 n os
  have hl2 : ∀ n os, (grow (w.drewN n) os).cell? ⟨b, off + i, none⟩ = some (.int .i32 Y) := fun n os => cell_grown hb hc2 n os
  have HG1 : Hid (∀ n os, Calls Tryd.prog 111 #[.int .i32 X] (grow (w.drewN n) os) fun e w' => e = .returned (.int .i64 x) ∧ ∃ q os', w' = grow ((grow (w.drewN n) os).drewN q) os') := Lib.hid (fun n os => (HX1.out _).mono fun _ _ ⟨he, hu⟩ => ⟨he, hu.grow⟩)
  have HG2 : Hid (∀ n os, Calls Tryd.prog 111 #[.int .i32 Y] (grow (w.drewN n) os) fun e w' => e = .returned (.int .i64 y) ∧ ∃ q os', w' = grow ((grow (w.drewN n) os).drewN q) os') := Lib.hid (fun n os => (HX2.out _).mono fun _ _ ⟨he, hu⟩ => ⟨he, hu.grow⟩)
  obtain ⟨V, hV⟩ : ∃ V, hangF x y p (r % 2 == 1) = V := ⟨_, rfl⟩
  rw [hV]
  have HV := Lib.hid hV
  clear hV HX1 HX2
  have HH := Lib.hid h
  clear h
  have kw : IntKind.i64.wrap ((i : Int) - 1) = ((i - 1 : Nat) : Int) := by rw [IntWalk.i64_in _ (by omega)]; omega
  have hL1 : i - 1 < zs.length := by omega
  go_enter Tryd.func102, Tryd.ntmps102
  go_wp2
  go_quiet_grown ((go_at_call 111; first | with_reducible exact Calls.grown_of (HG1.out _ _) | with_reducible exact Calls.grown_of (HG2.out _ _)))
  have hU : ∀ n os, Up w (grow (w.drewN n) os) := fun n os => Up.of_grow w n os
  have hn1 : i ≤ c := by omega
  have hn2 : ¬ c = 0 := by omega
  unfold hangF at HV
  by_cases h1 : x = 1
  · subst h1
    have hsl : syll 1 y = false := by simp [syll]
    have hsx : stopB 1 = true := rfl
    have hsy := hsx
    by_cases h2 : y = 2
    · subst h2
      have HR : Hid (V = true) := Lib.hid (by rw [← HV.out]; simp [])
      clear HV
      go_wp2_with (first | (go_at_call 112; refine (hangul_ok _ _ _).mono ?_; rintro e u ⟨rfl, rfl⟩; rw [hsl]) | (go_at_call 113; refine (rstops_ok _ _).mono ?_; rintro e u ⟨rfl, rfl⟩; first | rw [hsx] | rw [hsy]))
      go_ret
      exact ⟨by rw [HR.out]; rfl, hU _ _⟩
    · have e2 : (y == 2) = false := beq_eq_false_iff_ne.2 h2
      have HR : Hid (V = false) := Lib.hid (by rw [← HV.out]; simp [hsl, hsx, e2])
      clear HV
      go_wp2_with (first | (go_at_call 112; refine (hangul_ok _ _ _).mono ?_; rintro e u ⟨rfl, rfl⟩; rw [hsl]) | (go_at_call 113; refine (rstops_ok _ _).mono ?_; rintro e u ⟨rfl, rfl⟩; first | rw [hsx] | rw [hsy]))
      go_ret
      exact ⟨by rw [HR.out]; rfl, hU _ _⟩
  have e1 : (x == 1) = false := beq_eq_false_iff_ne.2 h1
  by_cases h7 : x = 7
  · subst h7
    have hsl : syll 7 y = false := by simp [syll]
    have hsx : stopB 7 = false := rfl
    by_cases b4 : y = 4
    · subst b4
      try (have hsy : stopB 4 = false := rfl)
      have HR : Hid (V = true) := Lib.hid (by rw [← HV.out]; simp [hsx])
      clear HV
      go_wp2_with (first | (go_at_call 112; refine (hangul_ok _ _ _).mono ?_; rintro e u ⟨rfl, rfl⟩; rw [hsl]) | (go_at_call 113; refine (rstops_ok _ _).mono ?_; rintro e u ⟨rfl, rfl⟩; first | rw [hsx] | rw [hsy]))
      go_ret
      exact ⟨by rw [HR.out]; rfl, hU _ _⟩
    have e44 : (y == 4) = false := beq_eq_false_iff_ne.2 b4
    by_cases b5 : y = 5
    · subst b5
      try (have hsy : stopB 5 = false := rfl)
      have HR : Hid (V = true) := Lib.hid (by rw [← HV.out]; simp [hsx])
      clear HV
      go_wp2_with (first | (go_at_call 112; refine (hangul_ok _ _ _).mono ?_; rintro e u ⟨rfl, rfl⟩; rw [hsl]) | (go_at_call 113; refine (rstops_ok _ _).mono ?_; rintro e u ⟨rfl, rfl⟩; first | rw [hsx] | rw [hsy]))
      go_ret
      exact ⟨by rw [HR.out]; rfl, hU _ _⟩
    have e45 : (y == 5) = false := beq_eq_false_iff_ne.2 b5
    by_cases b8 : y = 8
    · subst b8
      try (have hsy : stopB 8 = false := rfl)
      have HR : Hid (V = true) := Lib.hid (by rw [← HV.out]; simp [hsx])
      clear HV
      go_wp2_with (first | (go_at_call 112; refine (hangul_ok _ _ _).mono ?_; rintro e u ⟨rfl, rfl⟩; rw [hsl]) | (go_at_call 113; refine (rstops_ok _ _).mono ?_; rintro e u ⟨rfl, rfl⟩; first | rw [hsx] | rw [hsy]))
      go_ret
      exact ⟨by rw [HR.out]; rfl, hU _ _⟩
    have e48 : (y == 8) = false := beq_eq_false_iff_ne.2 b8
    cases hsy : stopB y with
    | true =>
      have HR : Hid (V = false) := Lib.hid (by rw [← HV.out]; simp [hsl, hsx, hsy, e44, e45, e48])
      clear HV
      go_wp2_with (first | (go_at_call 112; refine (hangul_ok _ _ _).mono ?_; rintro e u ⟨rfl, rfl⟩; rw [hsl]) | (go_at_call 113; refine (rstops_ok _ _).mono ?_; rintro e u ⟨rfl, rfl⟩; first | rw [hsx] | rw [hsy]))
      go_ret
      exact ⟨by rw [HR.out]; rfl, hU _ _⟩
    | false =>
      have HR : Hid (V = true) := Lib.hid (by rw [← HV.out]; simp [hsl, hsx, hsy, e44, e45, e48])
      clear HV
      go_wp2_with (first | (go_at_call 112; refine (hangul_ok _ _ _).mono ?_; rintro e u ⟨rfl, rfl⟩; rw [hsl]) | (go_at_call 113; refine (rstops_ok _ _).mono ?_; rintro e u ⟨rfl, rfl⟩; first | rw [hsx] | rw [hsy]))
      go_ret
      exact ⟨by rw [HR.out]; rfl, hU _ _⟩
  have e7 : (x == 7) = false := beq_eq_false_iff_ne.2 h7
  by_cases h5 : x = 5
  · subst h5
    have hsl : syll 5 y = false := by simp [syll]
    have hsx : stopB 5 = false := rfl
    have hsy := hsx
    by_cases b4 : y = 4
    · subst b4
      try (have hsy : stopB 4 = false := rfl)
      have HR : Hid (V = true) := Lib.hid (by rw [← HV.out]; simp [hsx])
      clear HV
      go_wp2_with (first | (go_at_call 112; refine (hangul_ok _ _ _).mono ?_; rintro e u ⟨rfl, rfl⟩; rw [hsl]) | (go_at_call 113; refine (rstops_ok _ _).mono ?_; rintro e u ⟨rfl, rfl⟩; first | rw [hsx] | rw [hsy]))
      go_ret
      exact ⟨by rw [HR.out]; rfl, hU _ _⟩
    have e44 : (y == 4) = false := beq_eq_false_iff_ne.2 b4
    by_cases b5 : y = 5
    · subst b5
      try (have hsy : stopB 5 = false := rfl)
      have HR : Hid (V = true) := Lib.hid (by rw [← HV.out]; simp [hsx])
      clear HV
      go_wp2_with (first | (go_at_call 112; refine (hangul_ok _ _ _).mono ?_; rintro e u ⟨rfl, rfl⟩; rw [hsl]) | (go_at_call 113; refine (rstops_ok _ _).mono ?_; rintro e u ⟨rfl, rfl⟩; first | rw [hsx] | rw [hsy]))
      go_ret
      exact ⟨by rw [HR.out]; rfl, hU _ _⟩
    have e45 : (y == 5) = false := beq_eq_false_iff_ne.2 b5
    by_cases b8 : y = 8
    · subst b8
      try (have hsy : stopB 8 = false := rfl)
      have HR : Hid (V = true) := Lib.hid (by rw [← HV.out]; simp [hsx])
      clear HV
      go_wp2_with (first | (go_at_call 112; refine (hangul_ok _ _ _).mono ?_; rintro e u ⟨rfl, rfl⟩; rw [hsl]) | (go_at_call 113; refine (rstops_ok _ _).mono ?_; rintro e u ⟨rfl, rfl⟩; first | rw [hsx] | rw [hsy]))
      go_ret
      exact ⟨by rw [HR.out]; rfl, hU _ _⟩
    have e48 : (y == 8) = false := beq_eq_false_iff_ne.2 b8
    by_cases b14 : y = 14
    · subst b14
      cases p with
      | true =>
        have HR : Hid (V = true) := Lib.hid (by rw [← HV.out]; simp [hsl, hsx])
        clear HV
        go_wp2_with (first | (go_at_call 112; refine (hangul_ok _ _ _).mono ?_; rintro e u ⟨rfl, rfl⟩; rw [hsl]) | (go_at_call 113; refine (rstops_ok _ _).mono ?_; rintro e u ⟨rfl, rfl⟩; first | rw [hsx] | rw [hsy]) | (go_at_call 114; refine (HE.out _ _ _ (HH.out.up (hU _ _))).mono ?_; rintro e u ⟨rfl, hu⟩))
        go_ret
        exact ⟨by rw [HR.out]; rfl, (hU _ _).trans hu⟩
      | false =>
        have HR : Hid (V = false) := Lib.hid (by rw [← HV.out]; simp [hsl, hsx])
        clear HV
        go_wp2_with (first | (go_at_call 112; refine (hangul_ok _ _ _).mono ?_; rintro e u ⟨rfl, rfl⟩; rw [hsl]) | (go_at_call 113; refine (rstops_ok _ _).mono ?_; rintro e u ⟨rfl, rfl⟩; first | rw [hsx] | rw [hsy]) | (go_at_call 114; refine (HE.out _ _ _ (HH.out.up (hU _ _))).mono ?_; rintro e u ⟨rfl, hu⟩))
        go_ret
        exact ⟨by rw [HR.out]; rfl, (hU _ _).trans hu⟩
    · have e14 : (y == 14) = false := beq_eq_false_iff_ne.2 b14
      have HR : Hid (V = false) := Lib.hid (by rw [← HV.out]; simp [hsl, hsx, e44, e45, e48, e14])
      clear HV
      go_wp2_with (first | (go_at_call 112; refine (hangul_ok _ _ _).mono ?_; rintro e u ⟨rfl, rfl⟩; rw [hsl]) | (go_at_call 113; refine (rstops_ok _ _).mono ?_; rintro e u ⟨rfl, rfl⟩; first | rw [hsx] | rw [hsy]))
      go_ret
      exact ⟨by rw [HR.out]; rfl, hU _ _⟩
  have e5 : (x == 5) = false := beq_eq_false_iff_ne.2 h5
  by_cases h6 : x = 6
  · subst h6
    have hsl : syll 6 y = false := by simp [syll]
    have hsx : stopB 6 = false := rfl
    have hsy := hsx
    by_cases b4 : y = 4
    · subst b4
      try (have hsy : stopB 4 = false := rfl)
      have HR : Hid (V = true) := Lib.hid (by rw [← HV.out]; simp [hsx])
      clear HV
      go_wp2_with (first | (go_at_call 112; refine (hangul_ok _ _ _).mono ?_; rintro e u ⟨rfl, rfl⟩; rw [hsl]) | (go_at_call 113; refine (rstops_ok _ _).mono ?_; rintro e u ⟨rfl, rfl⟩; first | rw [hsx] | rw [hsy]))
      go_ret
      exact ⟨by rw [HR.out]; rfl, hU _ _⟩
    have e44 : (y == 4) = false := beq_eq_false_iff_ne.2 b4
    by_cases b5 : y = 5
    · subst b5
      try (have hsy : stopB 5 = false := rfl)
      have HR : Hid (V = true) := Lib.hid (by rw [← HV.out]; simp [hsx])
      clear HV
      go_wp2_with (first | (go_at_call 112; refine (hangul_ok _ _ _).mono ?_; rintro e u ⟨rfl, rfl⟩; rw [hsl]) | (go_at_call 113; refine (rstops_ok _ _).mono ?_; rintro e u ⟨rfl, rfl⟩; first | rw [hsx] | rw [hsy]))
      go_ret
      exact ⟨by rw [HR.out]; rfl, hU _ _⟩
    have e45 : (y == 5) = false := beq_eq_false_iff_ne.2 b5
    by_cases b8 : y = 8
    · subst b8
      try (have hsy : stopB 8 = false := rfl)
      have HR : Hid (V = true) := Lib.hid (by rw [← HV.out]; simp [hsx])
      clear HV
      go_wp2_with (first | (go_at_call 112; refine (hangul_ok _ _ _).mono ?_; rintro e u ⟨rfl, rfl⟩; rw [hsl]) | (go_at_call 113; refine (rstops_ok _ _).mono ?_; rintro e u ⟨rfl, rfl⟩; first | rw [hsx] | rw [hsy]))
      go_ret
      exact ⟨by rw [HR.out]; rfl, hU _ _⟩
    have e48 : (y == 8) = false := beq_eq_false_iff_ne.2 b8
    by_cases b14 : y = 6
    · subst b14
      rcases Nat.mod_two_eq_zero_or_one r with hm | hm
      · have hm2 : (r : Int).tmod 2 = 0 := by rw [Int.tmod_eq_emod_of_nonneg (by omega)]; omega
        have HR : Hid (V = false) := Lib.hid (by rw [← HV.out]; simp [hsl, hsx, hm])
        clear HV
        go_wp2_with (first | (go_at_call 112; refine (hangul_ok _ _ _).mono ?_; rintro e u ⟨rfl, rfl⟩; rw [hsl]) | (go_at_call 113; refine (rstops_ok _ _).mono ?_; rintro e u ⟨rfl, rfl⟩; first | rw [hsx] | rw [hsy]) | (go_at_call 115; refine (HO.out _ _ _ (HH.out.up (hU _ _))).mono ?_; rintro e u ⟨rfl, hu⟩))
        go_ret
        exact ⟨by rw [HR.out]; rfl, (hU _ _).trans hu⟩
      · have hm2 : (r : Int).tmod 2 = 1 := by rw [Int.tmod_eq_emod_of_nonneg (by omega)]; omega
        have HR : Hid (V = true) := Lib.hid (by rw [← HV.out]; simp [hsl, hsx, hm])
        clear HV
        go_wp2_with (first | (go_at_call 112; refine (hangul_ok _ _ _).mono ?_; rintro e u ⟨rfl, rfl⟩; rw [hsl]) | (go_at_call 113; refine (rstops_ok _ _).mono ?_; rintro e u ⟨rfl, rfl⟩; first | rw [hsx] | rw [hsy]) | (go_at_call 115; refine (HO.out _ _ _ (HH.out.up (hU _ _))).mono ?_; rintro e u ⟨rfl, hu⟩))
        go_ret
        exact ⟨by rw [HR.out]; rfl, (hU _ _).trans hu⟩
    · have e14 : (y == 6) = false := beq_eq_false_iff_ne.2 b14
      have HR : Hid (V = false) := Lib.hid (by rw [← HV.out]; simp [hsl, hsx, e44, e45, e48, e14])
      clear HV
      go_wp2_with (first | (go_at_call 112; refine (hangul_ok _ _ _).mono ?_; rintro e u ⟨rfl, rfl⟩; rw [hsl]) | (go_at_call 113; refine (rstops_ok _ _).mono ?_; rintro e u ⟨rfl, rfl⟩; first | rw [hsx] | rw [hsy]))
      go_ret
      exact ⟨by rw [HR.out]; rfl, hU _ _⟩
  have e6 : (x == 6) = false := beq_eq_false_iff_ne.2 h6
  cases hsl : syll x y with
  | true =>
    have hsx : true = true := rfl
    have hsy := hsx
    have HR : Hid (V = true) := Lib.hid (by rw [← HV.out]; simp [hsl, e1])
    clear HV
    go_wp2_with (first | (go_at_call 112; refine (hangul_ok _ _ _).mono ?_; rintro e u ⟨rfl, rfl⟩; rw [hsl]))
    go_ret
    exact ⟨by rw [HR.out]; rfl, hU _ _⟩
  | false =>
    cases hsx : stopB x with
    | true =>
      have hsy := hsx
      have HR : Hid (V = false) := Lib.hid (by rw [← HV.out]; simp [hsl, hsx, e1, e7, e5, e6])
      clear HV
      go_wp2_with (first | (go_at_call 112; refine (hangul_ok _ _ _).mono ?_; rintro e u ⟨rfl, rfl⟩; rw [hsl]) | (go_at_call 113; refine (rstops_ok _ _).mono ?_; rintro e u ⟨rfl, rfl⟩; first | rw [hsx] | rw [hsy]))
      go_ret
      exact ⟨by rw [HR.out]; rfl, hU _ _⟩
    | false =>
      by_cases b4 : y = 4
      · subst b4
        try (have hsy : stopB 4 = false := rfl)
        have HR : Hid (V = true) := Lib.hid (by rw [← HV.out]; simp [hsx])
        clear HV
        go_wp2_with (first | (go_at_call 112; refine (hangul_ok _ _ _).mono ?_; rintro e u ⟨rfl, rfl⟩; rw [hsl]) | (go_at_call 113; refine (rstops_ok _ _).mono ?_; rintro e u ⟨rfl, rfl⟩; rw [hsx]))
        go_ret
        exact ⟨by rw [HR.out]; rfl, hU _ _⟩
      have e44 : (y == 4) = false := beq_eq_false_iff_ne.2 b4
      by_cases b5 : y = 5
      · subst b5
        try (have hsy : stopB 5 = false := rfl)
        have HR : Hid (V = true) := Lib.hid (by rw [← HV.out]; simp [hsx])
        clear HV
        go_wp2_with (first | (go_at_call 112; refine (hangul_ok _ _ _).mono ?_; rintro e u ⟨rfl, rfl⟩; rw [hsl]) | (go_at_call 113; refine (rstops_ok _ _).mono ?_; rintro e u ⟨rfl, rfl⟩; rw [hsx]))
        go_ret
        exact ⟨by rw [HR.out]; rfl, hU _ _⟩
      have e45 : (y == 5) = false := beq_eq_false_iff_ne.2 b5
      by_cases b8 : y = 8
      · subst b8
        try (have hsy : stopB 8 = false := rfl)
        have HR : Hid (V = true) := Lib.hid (by rw [← HV.out]; simp [hsx])
        clear HV
        go_wp2_with (first | (go_at_call 112; refine (hangul_ok _ _ _).mono ?_; rintro e u ⟨rfl, rfl⟩; rw [hsl]) | (go_at_call 113; refine (rstops_ok _ _).mono ?_; rintro e u ⟨rfl, rfl⟩; rw [hsx]))
        go_ret
        exact ⟨by rw [HR.out]; rfl, hU _ _⟩
      have e48 : (y == 8) = false := beq_eq_false_iff_ne.2 b8
      have HR : Hid (V = false) := Lib.hid (by rw [← HV.out]; simp [hsl, hsx, e1, e7, e5, e6, e44, e45, e48])
      clear HV
      go_wp2_with (first | (go_at_call 112; refine (hangul_ok _ _ _).mono ?_; rintro e u ⟨rfl, rfl⟩; rw [hsl]) | (go_at_call 113; refine (rstops_ok _ _).mono ?_; rintro e u ⟨rfl, rfl⟩; rw [hsx]))
      go_ret
      exact ⟨by rw [HR.out]; rfl, hU _ _⟩
end Go.Proofs.YtekjejbcdnghjaaDoor

/-
  Boundaries as lists, clusters as neighbouring pairs, the next and the one before, windows. No condition.
-/
set_option linter.unusedVariables false
namespace Go.Proofs.YtekjejbcdnghjaaDoor

/-- a boundary -/
def bP (L : List Int) (j : Nat) : Bool := L.length != 0 && (j == 0 || j == L.length || !hang L j)
def isV (L : List Int) (i : Int) : Bool := decide (0 ≤ i ∧ i ≤ L.length) && bP L i.toNat
/-- how far from a boundary the first cluster goes -/
def Firsts (L : List Int) (r : Nat) : Prop := 1 ≤ r ∧ r ≤ L.length ∧ (∀ j, 0 < j → j < r → hang L j = true) ∧ (r = L.length ∨ hang L r = false)
/-- the longest run from a place whose classes are all of a kind -/
def Runs (p : Int → Bool) (L : List Int) (r : Nat) : Prop := r ≤ L.length ∧ (∀ j, j < r → p (g L j) = true) ∧ (r = L.length ∨ p (g L r) = false)
theorem Runs.unique {p : Int → Bool} {L : List Int} {r s : Nat} (h : Runs p L r) (k : Runs p L s) : r = s := by
  obtain ⟨h1, h2, h3⟩ := h
  obtain ⟨k1, k2, k3⟩ := k
  rcases Nat.lt_trichotomy r s with hl | hl | hl
  · have := k2 r hl
    rcases h3 with h3 | h3
    · omega
    · rw [h3] at this; cases this
  · exact hl
  · have := h2 s hl
    rcases k3 with k3 | k3
    · omega
    · rw [k3] at this; cases this

theorem bP_nil (L : List Int) (h : L.length = 0) (j : Nat) : bP L j = false := by unfold bP; rw [h]; rfl
theorem bP_zero (L : List Int) (h : 0 < L.length) : bP L 0 = true := by
  unfold bP
  rw [bne_iff_ne.2 (by omega : L.length ≠ 0)]; rfl
theorem bP_end (L : List Int) (h : 0 < L.length) : bP L L.length = true := by
  unfold bP
  rw [bne_iff_ne.2 (by omega : L.length ≠ 0)]; simp
theorem bP_mid (L : List Int) (j : Nat) (h0 : 0 < j) (h : j < L.length) : bP L j = !hang L j := by
  unfold bP
  rw [bne_iff_ne.2 (by omega : L.length ≠ 0), beq_eq_false_iff_ne.2 (by omega : j ≠ 0), beq_eq_false_iff_ne.2 (by omega : j ≠ L.length)]; rfl
theorem isV_nat (L : List Int) (j : Nat) (h : j ≤ L.length) : isV L j = bP L j := by
  unfold isV
  rw [decide_eq_true (by omega)]; simp

/-- the boundaries below m -/
def Bs (L : List Int) (m : Nat) : List Nat := (List.range m).filter (bP L)
def bnds (L : List Int) : List Nat := Bs L (L.length + 1)
theorem Bs_zero (L : List Int) : Bs L 0 = [] := rfl
theorem Bs_succ (L : List Int) (m : Nat) : Bs L (m + 1) = Bs L m ++ (if bP L m = true then [m] else []) := by
  unfold Bs
  rw [List.range_succ, List.filter_append]
  by_cases h : bP L m = true <;> simp [h]
theorem Bs_yes (L : List Int) (m : Nat) (h : bP L m = true) : Bs L (m + 1) = Bs L m ++ [m] := by rw [Bs_succ, if_pos h]
theorem Bs_no (L : List Int) (m : Nat) (h : bP L m = false) : Bs L (m + 1) = Bs L m := by rw [Bs_succ, if_neg (by rw [h]; simp), List.append_nil]
theorem mem_Bs {L : List Int} {m j : Nat} : j ∈ Bs L m ↔ j < m ∧ bP L j = true := by
  unfold Bs
  rw [List.mem_filter, List.mem_range]
theorem mem_bnds {L : List Int} {j : Nat} : j ∈ bnds L ↔ j ≤ L.length ∧ bP L j = true := by
  unfold bnds
  rw [mem_Bs]
  constructor <;> rintro ⟨a, b⟩ <;> exact ⟨by omega, b⟩
theorem Bs_len (L : List Int) : ∀ m, (Bs L m).length ≤ m
  | 0 => Nat.le_refl _
  | m + 1 => by
    rw [Bs_succ, List.length_append]
    have := Bs_len L m
    split <;> simp <;> omega
theorem Bs_lt (L : List Int) (m a b : Nat) (hab : a < b) (hb : b < (Bs L m).length) : (Bs L m)[a]'(by omega) < (Bs L m)[b] := by
  have hs : (Bs L m).Pairwise (· < ·) := (List.pairwise_lt_range).filter _
  exact List.pairwise_iff_getElem.1 hs a b (by omega) hb hab
theorem bnds_nil (L : List Int) (h : L.length = 0) : bnds L = [] := by
  unfold bnds
  rw [h, Bs_no _ _ (bP_nil L h 0)]; rfl
theorem Bs_gap (L : List Int) (a : Nat) : ∀ k, (∀ j, a ≤ j → j < a + k → bP L j = false) → Bs L (a + k) = Bs L a
  | 0, _ => rfl
  | k + 1, h => by
    rw [← Nat.add_assoc, Bs_no L (a + k) (h (a + k) (by omega) (by omega))]
    exact Bs_gap L a k (fun j h1 h2 => h j h1 (by omega))
theorem Bs_jump (L : List Int) (f r : Nat) (hr : 1 ≤ r) (ht : bP L (f + r) = true) (hm : ∀ j, f < j → j < f + r → bP L j = false) : Bs L (f + r + 1) = Bs L (f + 1) ++ [f + r] := by
  rw [Bs_yes L _ ht]
  congr 1
  have := Bs_gap L (f + 1) (r - 1) (fun j h1 h2 => hm j (by omega) (by omega))
  rwa [show f + 1 + (r - 1) = f + r by omega] at this

/-- neighbours -/
def pairs (l : List Nat) : List (Nat × Nat) := l.zip l.tail
theorem pairs_snoc : ∀ (l : List Nat) (a b : Nat), pairs (l ++ [a] ++ [b]) = pairs (l ++ [a]) ++ [(a, b)]
  | [], a, b => rfl
  | [x], a, b => rfl
  | x :: y :: l, a, b => by
    have := pairs_snoc (y :: l) a b
    unfold pairs at *
    simp only [List.cons_append, List.tail_cons, List.zip_cons_cons] at *
    rw [this]
theorem pairs_len (l : List Nat) : (pairs l).length = l.length - 1 := by unfold pairs; rw [List.length_zip, List.length_tail]; omega
theorem pairs_get (l : List Nat) (i : Nat) (h : i + 1 < l.length) : (pairs l)[i]'(by rw [pairs_len]; omega) = (l[i], l[i + 1]) := by
  unfold pairs
  rw [List.getElem_zip, List.getElem_tail]
def cutsL (L : List Int) : List (Nat × Nat) := pairs (bnds L)

theorem first_step (L : List Int) (f r : Nat) (hf : bP L f = true) (hl : f < L.length) (h : Firsts (L.drop f) r) :
    1 ≤ r ∧ f + r ≤ L.length ∧ bP L (f + r) = true ∧ ∀ j, f < j → j < f + r → bP L j = false := by
  obtain ⟨h1, h2, h3, h4⟩ := h
  rw [List.length_drop] at h2 h4
  have hb : f = 0 ∨ hang L f = false := by
    by_cases h0 : f = 0
    · exact .inl h0
    · right
      rw [bP_mid L f (by omega) hl] at hf
      simpa using hf
  refine ⟨h1, by omega, ?_, fun j hj1 hj2 => ?_⟩
  · rcases h4 with h4 | h4
    · rw [show f + r = L.length by omega]; exact bP_end L (by omega)
    · by_cases he : f + r = L.length
      · rw [he]; exact bP_end L (by omega)
      · rw [bP_mid L _ (by omega) (by omega), hang_drop L f r hb (by omega), h4]; rfl
  · obtain ⟨k, rfl⟩ : ∃ k, j = f + k := ⟨j - f, by omega⟩
    rw [bP_mid L _ (by omega) (by omega), hang_drop L f k hb (by omega), h3 k (by omega) (by omega)]; rfl

/-- the next boundary, the one before -/
def IsNext (L : List Int) (m r : Nat) : Prop := m < r ∧ r ≤ L.length ∧ bP L r = true ∧ ∀ j, m < j → j < r → bP L j = false
def IsPrev (L : List Int) (m r : Nat) : Prop := r < m ∧ bP L r = true ∧ ∀ j, r < j → j < m → bP L j = false
def NextV (L : List Int) (i : Int) (r : Nat) : Prop := (i < 0 → r = 0) ∧ ((L.length : Int) ≤ i → r = L.length) ∧ (∀ m : Nat, i = m → m < L.length → IsNext L m r)
def PrevV (L : List Int) (i : Int) (r : Nat) : Prop := ((L.length : Int) < i → r = L.length) ∧ (i ≤ 0 → r = 0) ∧ (∀ m : Nat, i = m → 0 < m → m ≤ L.length → IsPrev L m r)
theorem IsNext.unique {L : List Int} {m r s : Nat} (h : IsNext L m r) (k : IsNext L m s) : r = s := by
  obtain ⟨h1, h2, h3, h4⟩ := h
  obtain ⟨k1, k2, k3, k4⟩ := k
  rcases Nat.lt_trichotomy r s with hl | hl | hl
  · rw [k4 r h1 hl] at h3; cases h3
  · exact hl
  · rw [h4 s k1 hl] at k3; cases k3
theorem IsPrev.unique {L : List Int} {m r s : Nat} (h : IsPrev L m r) (k : IsPrev L m s) : r = s := by
  obtain ⟨h1, h3, h4⟩ := h
  obtain ⟨k1, k3, k4⟩ := k
  rcases Nat.lt_trichotomy r s with hl | hl | hl
  · rw [h4 s hl k1] at k3; cases k3
  · exact hl
  · rw [k4 r hl h1] at h3; cases h3
theorem NextV.unique {L : List Int} {i : Int} {r s : Nat} (h : NextV L i r) (k : NextV L i s) : r = s := by
  by_cases h1 : i < 0
  · rw [h.1 h1, k.1 h1]
  by_cases h2 : (L.length : Int) ≤ i
  · rw [h.2.1 h2, k.2.1 h2]
  exact (h.2.2 i.toNat (by omega) (by omega)).unique (k.2.2 i.toNat (by omega) (by omega))
theorem PrevV.unique {L : List Int} {i : Int} {r s : Nat} (h : PrevV L i r) (k : PrevV L i s) : r = s := by
  by_cases h1 : (L.length : Int) < i
  · rw [h.1 h1, k.1 h1]
  by_cases h2 : i ≤ 0
  · rw [h.2.1 h2, k.2.1 h2]
  exact (h.2.2 i.toNat (by omega) (by omega) (by omega)).unique (k.2.2 i.toNat (by omega) (by omega) (by omega))
theorem NextV.le {L : List Int} {i : Int} {r : Nat} (h : NextV L i r) : r ≤ L.length := by
  by_cases h1 : i < 0
  · rw [h.1 h1]; omega
  by_cases h2 : (L.length : Int) ≤ i
  · rw [h.2.1 h2]; exact Nat.le_refl _
  exact (h.2.2 i.toNat (by omega) (by omega)).2.1

/-- a list's element that is the first above i, none before it -/
theorem next_of (L : List Int) (i : Int) (k : Nat) (hk : k < (bnds L).length) (hi : i < (bnds L)[k]) (hb : ∀ j (hj : j < k), ((bnds L)[j]'(by omega) : Int) ≤ i) : NextV L i (bnds L)[k] := by
  have hm := mem_bnds.1 (List.getElem_mem hk)
  refine ⟨fun h => ?_, fun h => ?_, fun m hm2 hml => ⟨by omega, hm.1, hm.2, fun j hj1 hj2 => ?_⟩⟩
  · -- all before k are at most i, so that k is the first, and the first is 0
    rcases Nat.eq_zero_or_pos k with rfl | hk0
    · by_cases he : (bnds L)[0] = 0
      · exact he
      · exfalso
        have h0 : 0 ∈ bnds L := mem_bnds.2 ⟨by omega, bP_zero L (by
          rcases Nat.eq_zero_or_pos L.length with h0 | h0
          · have := hm.2; rw [bP_nil L h0] at this; cases this
          · exact h0)⟩
        obtain ⟨q, hq, he2⟩ := List.getElem_of_mem h0
        rcases Nat.eq_zero_or_pos q with rfl | hq0
        · exact he he2
        · have := Bs_lt L _ 0 q hq0 hq
          unfold bnds at he2
          omega
    · have := hb 0 hk0
      omega
  · have := hm.1; omega
  · cases hj : bP L j with
    | false => rfl
    | true =>
      exfalso
      obtain ⟨q, hq, he⟩ := List.getElem_of_mem (mem_bnds.2 ⟨by omega, hj⟩ : j ∈ bnds L)
      by_cases hqk : q < k
      · have := hb q hqk
        omega
      · by_cases hqe : q = k
        · subst hqe; omega
        · have h2 : (bnds L)[k] < (bnds L)[q] := Bs_lt L _ k q (by omega) hq
          omega
theorem next_none (L : List Int) (i : Int) (hb : ∀ j (hj : j < (bnds L).length), ((bnds L)[j] : Int) ≤ i) : NextV L i L.length := by
  have hall : ∀ j ∈ bnds L, (j : Int) ≤ i := fun j hj => by
    obtain ⟨q, hq, he⟩ := List.getElem_of_mem hj
    have := hb q hq
    omega
  refine ⟨fun h => ?_, fun h => rfl, fun m hm hml => ?_⟩
  · rcases Nat.eq_zero_or_pos L.length with h0 | h0
    · exact h0
    · have := hall 0 (mem_bnds.2 ⟨by omega, bP_zero L h0⟩)
      omega
  · have := hall L.length (mem_bnds.2 ⟨Nat.le_refl _, bP_end L (by omega)⟩)
    omega
theorem prev_of (L : List Int) (i : Int) (k : Nat) (hk : k < (bnds L).length) (hi : ((bnds L)[k] : Int) < i) (hb : ∀ j (hj : j < (bnds L).length), k < j → i ≤ ((bnds L)[j] : Int)) : PrevV L i (bnds L)[k] := by
  have hm := mem_bnds.1 (List.getElem_mem hk)
  refine ⟨fun h => ?_, fun h => by omega, fun m hm2 h0 hml => ⟨by omega, hm.2, fun j hj1 hj2 => ?_⟩⟩
  · have hn : 0 < L.length := by
      rcases Nat.eq_zero_or_pos L.length with h0 | h0
      · have := hm.2; rw [bP_nil L h0] at this; cases this
      · exact h0
    obtain ⟨q, hq, he⟩ := List.getElem_of_mem (mem_bnds.2 ⟨Nat.le_refl _, bP_end L hn⟩)
    by_cases hqk : k < q
    · have := hb q hq hqk
      omega
    · by_cases hqe : q = k
      · subst hqe; exact he
      · have h2 : (bnds L)[q] < (bnds L)[k] := Bs_lt L _ q k (by omega) hk
        have := hm.1
        omega
  · cases hj : bP L j with
    | false => rfl
    | true =>
      exfalso
      obtain ⟨q, hq, he⟩ := List.getElem_of_mem (mem_bnds.2 ⟨by omega, hj⟩ : j ∈ bnds L)
      by_cases hqk : k < q
      · have := hb q hq hqk
        omega
      · by_cases hqe : q = k
        · subst hqe; omega
        · have h2 : (bnds L)[q] < (bnds L)[k] := Bs_lt L _ q k (by omega) hk
          omega
theorem prev_none (L : List Int) (i : Int) (hb : ∀ j (hj : j < (bnds L).length), i ≤ ((bnds L)[j] : Int)) : PrevV L i 0 := by
  have hall : ∀ j ∈ bnds L, i ≤ (j : Int) := fun j hj => by
    obtain ⟨q, hq, he⟩ := List.getElem_of_mem hj
    have := hb q hq
    omega
  refine ⟨fun h => ?_, fun h => rfl, fun m hm h0 hml => ?_⟩
  · rcases Nat.eq_zero_or_pos L.length with h0 | h0
    · exact h0.symm
    · have := hall L.length (mem_bnds.2 ⟨Nat.le_refl _, bP_end L h0⟩)
      omega
  · have := hall 0 (mem_bnds.2 ⟨by omega, bP_zero L (by omega)⟩)
    omega

/-- the window -/
def WinV (L : List Int) (i a b : Int) : Prop := (¬ (0 ≤ i ∧ i ≤ L.length) → a = 0 ∧ b = 0) ∧
  ∀ m : Nat, i = m → m ≤ L.length → a = m ∧ ∃ r : Nat, Runs (fun a => a == 6) (L.drop m) r ∧ (0 < r → b = m + r) ∧ (r = 0 → ∃ s : Nat, Runs attB (L.drop m) s ∧ b = m + s)
theorem WinV.unique {L : List Int} {i a b c d : Int} (h : WinV L i a b) (k : WinV L i c d) : a = c ∧ b = d := by
  by_cases hi : 0 ≤ i ∧ i ≤ L.length
  · obtain ⟨m, rfl⟩ : ∃ m : Nat, i = m := ⟨i.toNat, by omega⟩
    obtain ⟨h1, r, h2, h3, h4⟩ := h.2 m rfl (by omega)
    obtain ⟨k1, s, k2, k3, k4⟩ := k.2 m rfl (by omega)
    have hrs := h2.unique k2
    subst hrs
    refine ⟨h1.trans k1.symm, ?_⟩
    rcases Nat.eq_zero_or_pos r with h0 | h0
    · obtain ⟨p, h5, h6⟩ := h4 h0
      obtain ⟨q, k5, k6⟩ := k4 h0
      have hpq := h5.unique k5
      subst hpq
      exact h6.trans k6.symm
    · exact (h3 h0).trans (k3 h0).symm
  · obtain ⟨h1, h2⟩ := h.1 hi
    obtain ⟨k1, k2⟩ := k.1 hi
    exact ⟨h1.trans k1.symm, h2.trans k2.symm⟩
end Go.Proofs.YtekjejbcdnghjaaDoor

/-
  Contracts of Is (the program's and the document's), of first and run. Condition: at most 1000 code points.
-/
set_option linter.unusedVariables false
namespace Go.Proofs.YtekjejbcdnghjaaDoor
open Go.ChangeShapes Go.WideShapes Go.ChangeAt Go.RowKit


set_option maxHeartbeats 1000000 in
theorem is_ok (A : Option Addr) (c : Nat) (i : Int) (zs : List Int) (w : World) (hn : zs.length ≤ 1000) (hc : zs.length ≤ c) (h : Has w w.heap.size A (zs.map (Value.int .i32))) :
    Calls Tryd.prog 45 #[.slice A zs.length c, .int .i64 i] w fun e w' => e = .returned (.bool (isV (cls zs) i)) ∧ Up w w' := by
  obtain ⟨V, hV⟩ : ∃ V, isV (cls zs) i = V := ⟨_, rfl⟩
  rw [hV]
  unfold isV bP at hV
  rw [cls_len] at hV
  rcases Nat.eq_zero_or_pos zs.length with hz | hz
  · have HR : Hid (V = false) := Lib.hid (by rw [← hV, hz]; simp)
    clear hV
    rw [hz]
    go_enter Tryd.func45, Tryd.ntmps45
    go_wp2
    go_ret
    exact ⟨by rw [HR.out]; rfl, Up.refl _⟩
  have hz1 : ¬ zs.length = 0 := by omega
  have hzb : ((zs.length : Int) == 0) = false := beq_eq_false_iff_ne.2 (by omega)
  have hzl : decide ((zs.length : Int) < 0) = false := decide_eq_false (by omega)
  by_cases h1 : i < 0
  · have HR : Hid (V = false) := Lib.hid (by rw [← hV, decide_eq_false (by omega)]; rfl)
    clear hV
    go_enter Tryd.func45, Tryd.ntmps45
    go_wp2
    go_ret
    exact ⟨by rw [HR.out]; rfl, Up.refl _⟩
  by_cases h2 : (zs.length : Int) < i
  · have HR : Hid (V = false) := Lib.hid (by rw [← hV, decide_eq_false (by omega)]; rfl)
    clear hV
    go_enter Tryd.func45, Tryd.ntmps45
    go_wp2
    go_ret
    exact ⟨by rw [HR.out]; rfl, Up.refl _⟩
  obtain ⟨k, rfl⟩ : ∃ k : Nat, i = k := ⟨i.toNat, by omega⟩
  rw [decide_eq_true (by omega), Int.toNat_natCast] at hV
  have hk : k ≤ zs.length := by omega
  clear h1 h2
  by_cases h0 : k = 0
  · subst h0
    have HR : Hid (V = true) := Lib.hid (by rw [← hV]; simp [hz1])
    clear hV
    have hzn : ¬ (zs.length : Int) = 0 := by omega
    have hzn2 : ¬ (zs.length : Int) < 0 := by omega
    go_enter Tryd.func45, Tryd.ntmps45
    go_wp2
    go_ret
    exact ⟨by rw [HR.out]; rfl, Up.refl _⟩
  by_cases hl : k = zs.length
  · subst hl
    have HR : Hid (V = true) := Lib.hid (by rw [← hV]; simp [hz1])
    clear hV
    go_enter Tryd.func45, Tryd.ntmps45
    go_wp2
    go_ret
    exact ⟨by rw [HR.out]; rfl, Up.refl _⟩
  have en : (zs.length != 0) = true := bne_iff_ne.2 hz1
  have e0 : (k == 0) = false := beq_eq_false_iff_ne.2 h0
  have el : (k == zs.length) = false := beq_eq_false_iff_ne.2 hl
  have HR : Hid ((!hang (cls zs) k) = V) := Lib.hid (by rw [← hV, en, e0, el]; rfl)
  have ek0 : ((k : Int) == 0) = false := beq_eq_false_iff_ne.2 (by omega)
  have ekl : ((k : Int) == (zs.length : Int)) = false := beq_eq_false_iff_ne.2 (by omega)
  have HC := Lib.hid (fun w h => joined_ok A c k zs w (by omega) (by omega) hn hc h)
  clear hV
  generalize hang (cls zs) k = q at HR HC
  have hne : ¬ (k : Int) = zs.length := by omega
  go_enter Tryd.func45, Tryd.ntmps45
  go_wp2_with (go_at_call 66; refine (HC.out _ (by assumption)).mono ?_; rintro e u ⟨rfl, hu⟩)
  go_ret
  exact ⟨by rw [← HR.out]; rfl, hu⟩

set_option maxHeartbeats 1000000 in
theorem ris_ok (A : Option Addr) (c : Nat) (i : Int) (zs : List Int) (w : World) (hn : zs.length ≤ 1000) (hc : zs.length ≤ c) (h : Has w w.heap.size A (zs.map (Value.int .i32))) :
    Calls Tryd.prog 70 #[.slice A zs.length c, .int .i64 i] w fun e w' => e = .returned (.bool (isV (cls zs) i)) ∧ Up w w' := by
  obtain ⟨V, hV⟩ : ∃ V, isV (cls zs) i = V := ⟨_, rfl⟩
  rw [hV]
  unfold isV bP at hV
  rw [cls_len] at hV
  rcases Nat.eq_zero_or_pos zs.length with hz | hz
  · have HR : Hid (V = false) := Lib.hid (by rw [← hV, hz]; simp)
    clear hV
    rw [hz]
    go_enter Tryd.func70, Tryd.ntmps70
    go_wp2
    go_ret
    exact ⟨by rw [HR.out]; rfl, Up.refl _⟩
  have hz1 : ¬ zs.length = 0 := by omega
  have hzb : ((zs.length : Int) == 0) = false := beq_eq_false_iff_ne.2 (by omega)
  have hzl : decide ((zs.length : Int) < 0) = false := decide_eq_false (by omega)
  by_cases h1 : i < 0
  · have HR : Hid (V = false) := Lib.hid (by rw [← hV, decide_eq_false (by omega)]; rfl)
    clear hV
    go_enter Tryd.func70, Tryd.ntmps70
    go_wp2
    go_ret
    exact ⟨by rw [HR.out]; rfl, Up.refl _⟩
  by_cases h2 : (zs.length : Int) < i
  · have HR : Hid (V = false) := Lib.hid (by rw [← hV, decide_eq_false (by omega)]; rfl)
    clear hV
    go_enter Tryd.func70, Tryd.ntmps70
    go_wp2
    go_ret
    exact ⟨by rw [HR.out]; rfl, Up.refl _⟩
  obtain ⟨k, rfl⟩ : ∃ k : Nat, i = k := ⟨i.toNat, by omega⟩
  rw [decide_eq_true (by omega), Int.toNat_natCast] at hV
  have hk : k ≤ zs.length := by omega
  clear h1 h2
  by_cases h0 : k = 0
  · subst h0
    have HR : Hid (V = true) := Lib.hid (by rw [← hV]; simp [hz1])
    clear hV
    have hzn : ¬ (zs.length : Int) = 0 := by omega
    have hzn2 : ¬ (zs.length : Int) < 0 := by omega
    go_enter Tryd.func70, Tryd.ntmps70
    go_wp2
    go_ret
    exact ⟨by rw [HR.out]; rfl, Up.refl _⟩
  by_cases hl : k = zs.length
  · subst hl
    have HR : Hid (V = true) := Lib.hid (by rw [← hV]; simp [hz1])
    clear hV
    go_enter Tryd.func70, Tryd.ntmps70
    go_wp2
    go_ret
    exact ⟨by rw [HR.out]; rfl, Up.refl _⟩
  have en : (zs.length != 0) = true := bne_iff_ne.2 hz1
  have e0 : (k == 0) = false := beq_eq_false_iff_ne.2 h0
  have el : (k == zs.length) = false := beq_eq_false_iff_ne.2 hl
  have HR : Hid ((!hang (cls zs) k) = V) := Lib.hid (by rw [← hV, en, e0, el]; rfl)
  have ek0 : ((k : Int) == 0) = false := beq_eq_false_iff_ne.2 (by omega)
  have ekl : ((k : Int) == (zs.length : Int)) = false := beq_eq_false_iff_ne.2 (by omega)
  have HC := Lib.hid (fun w h => hangs_ok A c k zs w (by omega) (by omega) hn hc h)
  clear hV
  generalize hang (cls zs) k = q at HR HC
  have hne : ¬ (k : Int) = zs.length := by omega
  go_enter Tryd.func70, Tryd.ntmps70
  go_wp2_with (go_at_call 102; refine (HC.out _ (by assumption)).mono ?_; rintro e u ⟨rfl, hu⟩)
  go_ret
  exact ⟨by rw [← HR.out]; rfl, hu⟩

end Go.Proofs.YtekjejbcdnghjaaDoor

/-
  A slice from a place on, and up to a place, reads as that part of the list. No condition.
-/
set_option linter.unusedVariables false
namespace Go.Proofs.YtekjejbcdnghjaaDoor
open Go.ChangeShapes Go.WideShapes Go.ChangeAt Go.RowKit

theorem cls_drop (zs : List Int) (k : Nat) : cls (zs.drop k) = (cls zs).drop k := by unfold cls; rw [List.map_drop]
/-- a slice from a place on reads as what is left -/
theorem Has.drop {w : World} {B b off : Nat} {xs : List Value} (h : Has w B (some ⟨b, off, none⟩) xs) (k : Nat) : Has w B (some ⟨b, off + k, none⟩) (xs.drop k) := fun hne => by
  obtain ⟨b', off', e, hl, hc⟩ := h (fun e => hne (by rw [e]; simp))
  injection e with e; injection e with e1 e2; subst e1; subst e2
  refine ⟨b, off + k, rfl, hl, fun j u hu => ?_⟩
  rw [List.getElem?_drop] at hu
  have := hc (k + j) u hu
  rwa [show off + (k + j) = off + k + j by omega] at this
theorem Has.front {w : World} {B : Nat} {A : Option Addr} {xs : List Value} (h : Has w B A xs) (k : Nat) : Has w B A (xs.take k) := fun hne => by
  obtain ⟨b, off, e, hl, hc⟩ := h (fun e => hne (by rw [e]; simp))
  refine ⟨b, off, e, hl, fun j u hu => hc j u ?_⟩
  rw [List.getElem?_take] at hu
  split at hu
  · exact hu
  · cases hu
end Go.Proofs.YtekjejbcdnghjaaDoor

/-
  Contracts of Next, Prev and Window (the program's), and of the document's Window. Condition: at most 1000 code points.
-/
set_option linter.unusedVariables false
namespace Go.Proofs.YtekjejbcdnghjaaDoor
open Go.ChangeShapes Go.WideShapes Go.ChangeAt Go.RowKit

end Go.Proofs.YtekjejbcdnghjaaDoor

/-
  Slices of clusters (structs of two ints) in memory: 'HasC' (reads as a list of pairs), 'MineC' (the call's own, to be grown in place), appending one, what a call hands back. No condition.
-/
set_option linter.unusedVariables false
namespace Go.Proofs.YtekjejbcdnghjaaDoor
open Go.ChangeShapes Go.WideShapes Go.ChangeAt Go.RowKit

def row (s : Nat × Nat) : List Value := [.int .i64 s.1, .int .i64 s.2]
def cellsC (l : List (Nat × Nat)) : List Value := l.flatMap row
theorem cellsC_cons (s : Nat × Nat) (l : List (Nat × Nat)) : cellsC (s :: l) = row s ++ cellsC l := by simp [cellsC]
theorem cellsC_append (l m : List (Nat × Nat)) : cellsC (l ++ m) = cellsC l ++ cellsC m := by simp [cellsC]
theorem length_cellsC : ∀ l : List (Nat × Nat), (cellsC l).length = l.length * 2
  | [] => rfl
  | s :: l => by rw [cellsC_cons, List.length_append, length_cellsC l]; simp [row]; omega
theorem cellsC_get : ∀ (l : List (Nat × Nat)) (i : Nat) (s : Nat × Nat), l[i]? = some s → ∀ q u, (row s)[q]? = some u → (cellsC l)[i * 2 + q]? = some u
  | [], _, _, h, _, _, _ => by simp at h
  | s :: l, 0, s', h, q, u, hq => by
    simp at h; subst h
    have hlt : q < (row s).length := (List.getElem?_eq_some_iff.1 hq).1
    rw [cellsC_cons, List.getElem?_append_left (by simpa using hlt)]
    simpa using hq
  | s :: l, i + 1, s', h, q, u, hq => by
    have ih := cellsC_get l i s' (by simpa using h) q u hq
    rw [cellsC_cons, List.getElem?_append_right (by simp [row]; omega)]
    rw [← ih]
    congr 1
    simp [row]
    omega

/-- the slice headed at A reads as the pairs l, in a block below B -/
def HasC (w : World) (B : Nat) (A : Option Addr) (l : List (Nat × Nat)) : Prop :=
  l ≠ [] → ∃ b off, A = some ⟨b, off, none⟩ ∧ b < B ∧ ∀ (i : Nat) s, l[i]? = some s → w.cell? ⟨b, off + i * 2, none⟩ = some (.int .i64 s.1) ∧ w.cell? ⟨b, off + i * 2 + 1, none⟩ = some (.int .i64 s.2)
section
variable {w w' : World} {B B' : Nat} {A : Option Addr} {l : List (Nat × Nat)} {v : Value}
theorem HasC.nil_ : HasC w B A [] := fun h => absurd rfl h
theorem HasC.at_ (h : HasC w B A l) {i : Nat} (hi : i < l.length) : ∃ b off, A = some ⟨b, off, none⟩ ∧ b < B ∧ w.cell? ⟨b, off + i * 2, none⟩ = some (.int .i64 l[i].1) ∧ w.cell? ⟨b, off + i * 2 + 1, none⟩ = some (.int .i64 l[i].2) := by
  obtain ⟨b, off, e, hb, hc⟩ := h (fun e => by subst e; simp at hi)
  exact ⟨b, off, e, hb, hc i _ (List.getElem?_eq_getElem hi)⟩
theorem HasC.below (h : HasC w B A l) (hb : Below B w w') : HasC w' B A l := fun hne => by
  obtain ⟨b, off, e, hl, hc⟩ := h hne
  refine ⟨b, off, e, hl, fun i s hs => ?_⟩
  obtain ⟨h1, h2⟩ := hc i s hs
  exact ⟨(hb.cell (p := ⟨b, off + i * 2, none⟩) hl).trans h1, (hb.cell (p := ⟨b, off + i * 2 + 1, none⟩) hl).trans h2⟩
theorem HasC.more (h : HasC w B A l) (hB : B ≤ B') : HasC w B' A l := fun hne => by
  obtain ⟨b, off, e, hl, hc⟩ := h hne
  exact ⟨b, off, e, by omega, hc⟩
theorem HasC.carry (h : HasC w w.heap.size A l) (hb : Below w.heap.size w w') : HasC w' w'.heap.size A l := (h.below hb).more hb.size

/-- a slice in a block that stays as it is reads on -/
theorem HasC.stays (h : HasC w w.heap.size A l) (hs : w.heap.size ≤ w'.heap.size) (hk : ∀ a, A = some a → a.block < w.heap.size → w'.heap[a.block]? = w.heap[a.block]?) : HasC w' w'.heap.size A l := fun hne => by
  obtain ⟨b, off, e, hl, hc⟩ := h hne
  refine ⟨b, off, e, by omega, fun i s hs => ?_⟩
  have hb := hk ⟨b, off, none⟩ e hl
  obtain ⟨h1, h2⟩ := hc i s hs
  exact ⟨(World.cell?_of_block (a := ⟨b, off + i * 2, none⟩) hb).trans h1, (World.cell?_of_block (a := ⟨b, off + i * 2 + 1, none⟩) hb).trans h2⟩

end
theorem cells_new2 (w : World) (s : Nat × Nat) (e : TypeId) : ∀ j u, (row s)[j]? = some u → (w.alloc (.cells (row s).toArray e)).cell? ((⟨w.heap.size, 0, none⟩ : Addr).add j) = some u := by
  intro j u hj
  have hg : (w.alloc (.cells (row s).toArray e)).heap[w.heap.size]? = some (.cells (row s).toArray e (0, 0)) := heap_alloc_new _ _
  rw [add_plain]
  rw [cell_of_row _ _ _ _ _ _ hg]
  simpa using hj
/-- what a call hands back: a slice that reads as the pairs l -/
def CutsV (w w' : World) (v : Value) (l : List (Nat × Nat)) : Prop := ∃ A c, v = .slice A l.length c ∧ (l.length ≤ c ∧ Fresh w.heap.size A) ∧ HasC w' w'.heap.size A l ∧ Below w.heap.size w w'
def CutsOf (w w' : World) (e : Ending) (l : List (Nat × Nat)) : Prop := ∃ v, e = .returned v ∧ CutsV w w' v l
end Go.Proofs.YtekjejbcdnghjaaDoor

/-
  Contracts of Cuts, Bounds and Count (the program's) and of the document's Bounds, Cuts, Count. Condition: at most 1000 code points.
-/
set_option linter.unusedVariables false
namespace Go.Proofs.YtekjejbcdnghjaaDoor
open Go.ChangeShapes Go.WideShapes Go.ChangeAt Go.RowKit

theorem Tryd.full3 : (Tryd.prog.info? 3).map (fun i => (i.zero, i.size, i.bytes)) = some (some (.int .i64 0), 1, 8) := by kernel_rfl
/-- as wpList_push_far, the newest block's number written out -/
theorem wpList_push_far_n {P : Program} {ops : Array Oper} {rest : List Oper} {o : Oper} {a : Act} {Q : Exit → Act → World → Prop} {k : IntKind} {e : TypeId} {bytes : Nat} (hgd : o.guard = none) (s x : Operand) (t : TypeId)
    (ho : o.op = .call { callee := .builtin .append, args := #[s, x], argTypes := #[t, t] })
    (ht : P.underlying t = some (.slice e)) (hi : (P.info? e).map (fun i => (i.zero, i.size, i.bytes)) = some (some (.int k 0), 1, bytes)) (hby : bytes ≤ 64)
    (B : Nat) (v : Value) (xs : List Int) (y : Int) (wr : World) (H : Nat) (hH : wr.heap.size = H) (hown : Mine k e wr B v xs) (hs : a.eval s = v) (hx : a.eval x = .slice (some ⟨H, 0, none⟩) 1 1)
    (hB : B ≤ wr.heap.size) (hn : xs.length ≤ 1000000000)
    (h : ∀ v' w', Mine k e w' B v' (xs ++ [y]) → Below B wr w' → (∀ b, b < wr.heap.size → v.ownBlock ≠ some b → v'.ownBlock ≠ some b ∧ w'.heap[b]? = wr.heap[b]?) → wpList P ops Q rest (a.put o.dst v') w') : wpList P ops Q (o :: rest) a (wr.alloc (.cells #[.int k y] e)) := by
  subst hH
  exact wpList_push_far hgd s x t ho ht hi hby B v xs y wr hown hs hx hB hn h
/-- places as ints -/
def zb (l : List Nat) : List Int := l.map (fun x : Nat => (x : Int))
theorem zb_len (l : List Nat) : (zb l).length = l.length := List.length_map ..
theorem zb_snoc (l : List Nat) (x : Nat) : zb (l ++ [x]) = zb l ++ [(x : Int)] := by unfold zb; rw [List.map_append]; rfl

set_option maxHeartbeats 1000000 in
theorem rbounds_ok (A : Option Addr) (c : Nat) (zs : List Int) (w : World) (hn : zs.length ≤ 1000) (hc : zs.length ≤ c) (h : Has w w.heap.size A (zs.map (Value.int .i32))) :
    Calls Tryd.prog 47 #[.slice A zs.length c] w fun e w' => SliceOf .i64 w w' e (zb (bnds (cls zs))) := by
  have HL := Lib.hid (cls_len zs)
  go_enter Tryd.func47, Tryd.ntmps47
  go_wp2
  go_loopw [3, 4] (fun v i wr => ∃ k : Nat, k ≤ zs.length + 1 ∧ i = .int .i64 k ∧ Mine .i64 3 wr w.heap.size v (zb (Bs (cls zs) k)) ∧ Below w.heap.size w wr) (fun _ i _ => zs.length + 1 - (intOf i).toNat)
  case atStart => exact ⟨0, by omega, rfl, Mine.nil_ _ _ _ _, Below.refl _ _⟩
  case round =>
    obtain ⟨k, hk, rfl, hown, hbl⟩ := hrel
    by_cases hlt : k ≤ zs.length
    · have hh := h.carry hbl
      have HC := Lib.hid (fun w h => ris_ok A c k zs w hn hc h)
      rw [isV_nat _ _ (by rw [HL.out]; exact hlt)] at HC
      have hlen : (zb (Bs (cls zs) k)).length ≤ 1001 := by rw [zb_len]; have := Bs_len (cls zs) k; omega
      cases hq : bP (cls zs) k with
      | true =>
        rw [hq] at HC
        have HN := Lib.hid (show zb (Bs (cls zs) (k + 1)) = zb (Bs (cls zs) k) ++ [(k : Int)] by rw [Bs_yes _ _ hq, zb_snoc])
        generalize zb (Bs (cls zs) k) = acc at hown hlen HN
        clear hq h
        go_wp2_with (first | (go_at_call 70; refine (HC.out _ hh).mono ?_; rintro e u ⟨rfl, hu⟩; have hM := hown.below hu.1; have hb2 := below_trans hbl hu.1 hbl.size) | (at_builtin; refine wpList_push rfl _ _ 23 rfl Tryd.underlying23 Tryd.full3 (by omega) w.heap.size _ acc k w _ hM rfl rfl hb2 hb2.size (by omega) ?_; intro v2 w2 hM2 hb3))
        go_roundw
        case rel => exact ⟨k + 1, by omega, by go_num, by rw [HN.out]; exact hM2, hb3⟩
        case measure => simp [intOf] <;> omega
      | false =>
        rw [hq] at HC
        have HN := Lib.hid (show zb (Bs (cls zs) (k + 1)) = zb (Bs (cls zs) k) by rw [Bs_no _ _ hq])
        generalize zb (Bs (cls zs) k) = acc at hown hlen HN
        clear hq h
        go_wp2_with (first | (go_at_call 70; refine (HC.out _ hh).mono ?_; rintro e u ⟨rfl, hu⟩; have hM := hown.below hu.1; have hb2 := below_trans hbl hu.1 hbl.size))
        go_roundw
        case rel => exact ⟨k + 1, by omega, by go_num, by rw [HN.out]; exact hM, hb2⟩
        case measure => simp [intOf] <;> omega
    · obtain rfl : k = zs.length + 1 := by omega
      have HE := Lib.hid (show Bs (cls zs) (zs.length + 1) = bnds (cls zs) by unfold bnds; rw [HL.out])
      rw [HE.out] at hown
      go_wp2
      go_ret
      exact ⟨_, rfl, hown.sliceV hbl⟩

theorem zb_get (l : List Nat) (i : Nat) (h : i < l.length) : (zb l)[i]'(by rw [zb_len]; exact h) = (l[i] : Int) := by unfold zb; rw [List.getElem_map]
theorem count_len (L : List Int) : (cutsL L).length = (bnds L).length - 1 := pairs_len _

theorem take_step {α : Type} (l : List α) (k : Nat) (h : k < l.length) : l.take (k + 1) = l.take k ++ [l[k]] := by
  rw [List.take_add_one, List.getElem?_eq_getElem h]; rfl

theorem bnds_first (L : List Int) (h : 0 < L.length) : (bnds L).take 1 = [0] := by
  have hbl : 0 < (bnds L).length := List.length_pos_of_mem (mem_bnds.2 ⟨Nat.zero_le _, bP_zero L h⟩)
  rw [take_step _ 0 hbl]
  obtain ⟨q, hq, he⟩ := List.getElem_of_mem (mem_bnds.2 ⟨Nat.zero_le _, bP_zero L h⟩ : 0 ∈ bnds L)
  rcases Nat.eq_zero_or_pos q with rfl | h0
  · rw [he]; rfl
  · have : (bnds L)[0] < (bnds L)[q] := Bs_lt L _ 0 q h0 hq
    omega
theorem cut_step (L : List Int) (k : Nat) (x : Nat × Nat) (h : (cutsL L)[k]? = some x) : (bnds L).take (k + 1 + 1) = (bnds L).take (k + 1) ++ [x.2] := by
  obtain ⟨hk, he⟩ := List.getElem?_eq_some_iff.1 h
  have hk2 : k + 1 < (bnds L).length := by rw [count_len] at hk; omega
  rw [take_step _ (k + 1) hk2]
  have h3 : (bnds L)[k + 1] = x.2 := by
    rw [← he]
    exact (congrArg Prod.snd (pairs_get (bnds L) k hk2)).symm
  rw [h3]

theorem next_of' (L : List Int) (i : Int) (k x : Nat) (hk : (bnds L)[k]? = some x) (hi : i < x) (hb : ∀ j y, j < k → (bnds L)[j]? = some y → (y : Int) ≤ i) : NextV L i x := by
  obtain ⟨h1, rfl⟩ := List.getElem?_eq_some_iff.1 hk
  exact next_of L i k h1 hi (fun j hj => hb j _ hj (List.getElem?_eq_getElem (by omega)))
theorem next_none' (L : List Int) (i : Int) (hb : ∀ j y, j < (bnds L).length → (bnds L)[j]? = some y → (y : Int) ≤ i) : NextV L i L.length :=
  next_none L i (fun j hj => hb j _ hj (List.getElem?_eq_getElem hj))
theorem prev_of' (L : List Int) (i : Int) (k x : Nat) (hk : (bnds L)[k]? = some x) (hi : (x : Int) < i) (hb : ∀ j y, k < j → (bnds L)[j]? = some y → i ≤ (y : Int)) : PrevV L i x := by
  obtain ⟨h1, rfl⟩ := List.getElem?_eq_some_iff.1 hk
  exact prev_of L i k h1 hi (fun j hj hkj => hb j _ hkj (List.getElem?_eq_getElem hj))
theorem prev_none' (L : List Int) (i : Int) (hb : ∀ j (y : Nat), 0 ≤ j → (bnds L)[j]? = some y → i ≤ (y : Int)) : PrevV L i 0 :=
  prev_none L i (fun j hj => hb j _ (Nat.zero_le _) (List.getElem?_eq_getElem hj))
theorem get_some {α : Type} {l : List α} {k : Nat} {x : α} (h : k < l.length) (e : l[k] = x) : l[k]? = some x := by rw [List.getElem?_eq_getElem h, e]

end Go.Proofs.YtekjejbcdnghjaaDoor
