/-
  Contract of the program's lastOf: the direction of the last class that has one. Condition: at most 1000 classes.
-/
import Derived.Test.YtlopddiplmjpfaaBbk
set_option linter.unusedVariables false
set_option linter.unusedSimpArgs false
namespace Go.Proofs.Ytlopddiplmjpfaa
open Go.ChangeShapes Go.WideShapes Go.ChangeAt Go.RowKit Go.Shelf
attribute [local go_sem] Oper.semAt_some

theorem ahead_skip (cs : List Int) (sos : Int) (m : Nat) : ∀ n, m ≤ n → (∀ j, m ≤ j → j < n → strongB (cs.getD j 0) = 0) → aheadB cs sos n = aheadB cs sos m
  | 0, h, _ => by obtain rfl : m = 0 := by omega
                  rfl
  | n + 1, h, h0 => by
    by_cases e : m = n + 1
    · subst e; rfl
    · rw [aheadB, h0 n (by omega) (by omega)]
      simp only [ne_eq, not_true_eq_false, if_false]
      exact ahead_skip cs sos m n (by omega) (fun j h1 h2 => h0 j h1 (by omega))
theorem ahead_take (cs : List Int) (sos : Int) (a : Nat) : ∀ n, n ≤ a → aheadB (cs.take a) sos n = aheadB cs sos n
  | 0, _ => rfl
  | n + 1, h => by
    have e : (cs.take a).getD n 0 = cs.getD n 0 := by
      rw [List.getD_eq_getElem?_getD, List.getD_eq_getElem?_getD, List.getElem?_take, if_pos (by omega)]
    rw [aheadB, aheadB, e, ahead_take cs sos a n (by omega)]
theorem ahead_all {cs : List Int} (sos : Int) (n : Nat) (hn : n = cs.length) (ys : List (El cs)) (h : idxOf ys = downTo n 0) (h0 : ∀ x ∈ ys, strongB x.1.2 = 0) : aheadB cs sos n = sos := by
  rw [ahead_skip cs sos 0 n (Nat.zero_le _) fun j _ hj => ?_]
  · rfl
  · have hm : j ∈ idxOf ys := by rw [h, downTo_mem]; omega
    obtain ⟨x, hx, rfl⟩ := List.mem_map.1 hm
    rw [List.getD_eq_getElem?_getD, x.2]
    exact h0 x hx
theorem ahead_last {cs : List Int} (sos : Int) (n : Nat) (hn : n = cs.length) (pre : List (El cs)) (x : El cs) (m : Nat) (h : idxOf (pre ++ [x]) = downTo n m) (h0 : ∀ y ∈ pre, strongB y.1.2 = 0) (hx : strongB x.1.2 ≠ 0) : aheadB cs sos n = strongB x.1.2 := by
  obtain ⟨h1, h2, h3⟩ := downTo_last n m pre x h
  rw [ahead_skip cs sos (m + 1) n h2 fun j hj1 hj2 => ?_]
  · have hg := x.2
    rw [h1] at hg
    rw [ahead_step cs sos m _ hg, if_pos hx]
  · have hm : j ∈ idxOf pre := by rw [h3, downTo_mem]; omega
    obtain ⟨y, hy, rfl⟩ := List.mem_map.1 hm
    rw [List.getD_eq_getElem?_getD, y.2]
    exact h0 y hy
theorem At.free {w : World} {g : Nat} {t : TypeId} {cs : Array Value} (h : At w g t cs) (j : Nat) : w.frozen? ⟨g, j, none⟩ = false := by
  unfold At at h
  simp [World.frozen?, h]
theorem box_at (w : World) (v : Value) (t : TypeId) : (w.alloc (.cells #[v] t)).cell? ⟨w.heap.size, 0, none⟩ = some v ∧ (w.alloc (.cells #[v] t)).frozen? ⟨w.heap.size, 0, none⟩ = false := by
  have h : At (w.alloc (.cells #[v] t)) w.heap.size t #[v] := at_new w _ t
  exact ⟨h.cell 0 v rfl, h.free 0⟩

set_option maxRecDepth 100000 in
set_option maxHeartbeats 4000000 in
theorem lastOf_ok (A : Option Addr) (n c : Nat) (sos : Int) (cs : List Int) (w : World) (hn : n = cs.length) (hmax : n ≤ 1000) (hh : Has w w.heap.size A (cs.map (Value.int .i64))) :
    Calls Try.prog 43 #[.slice A n c, .int .i64 sos] w fun e w' => e = .returned (.int .i64 (aheadB cs sos n)) ∧ Below w.heap.size w w' := by
  have HN := Lib.hid hn
  clear hn
  refine callsIn_wide.1 (callsIn_of_wp_marks (F := Fence.wide) (n := 10) Try.func43 rfl trivial (wpIn_wide.2 ?_) rfl)
  simp only [Try.ntmps43, List.size_toArray, List.length_cons, List.length_nil, Nat.reduceAdd, Nat.reduceSub, Array.replicate_succ, Array.replicate_zero, List.push_toArray, List.append_toArray, List.nil_append, List.cons_append]
  go_wp2_with (go_at_call 49; refine (callsIn_wide.1 (back_in Fence.wide 8 trivial rfl A n c _)).mono ?_; rintro e w' ⟨rfl, rfl⟩)
  have c0 := box_at w (.int .i64 0) 3
  have c1 := box_at (w.alloc (.cells #[.int .i64 0] 3)) (.slice A n c) 23
  have hB0 : Below w.heap.size w ((w.alloc (.cells #[.int .i64 0] 3)).alloc (.cells #[.slice A n c] 23)) := ((Below.refl _ w).alloc (Nat.le_refl _) _).alloc (by simp) _
  have hs0 : ((w.alloc (.cells #[.int .i64 0] 3)).alloc (.cells #[.slice A n c] 23)).heap.size = w.heap.size + 2 := by simp
  have c2 : ((w.alloc (.cells #[.int .i64 0] 3)).alloc (.cells #[.slice A n c] 23)).cell? ⟨w.heap.size, 0, none⟩ = some (.int .i64 0) := (((Below.refl _ (w.alloc (.cells #[.int .i64 0] 3))).alloc (Nat.le_refl _) _).cell (p := ⟨w.heap.size, 0, none⟩) (by simp)).trans c0.1
  have c3 : ((w.alloc (.cells #[.int .i64 0] 3)).alloc (.cells #[.slice A n c] 23)).frozen? ⟨w.heap.size, 0, none⟩ = false := ((at_new w #[.int .i64 0] 3).alloc _).free 0
  rw [World.size_alloc] at c1
  obtain ⟨W0, hW0⟩ : ∃ W0, (w.alloc (.cells #[.int .i64 0] 3)).alloc (.cells #[.slice A n c] 23) = W0 := ⟨_, rfl⟩
  rw [hW0] at hB0 hs0 c1 c2 c3
  try rw [hW0]
  clear hW0 c0
  refine (wpIn_wide (n := 8)).1 ?_
  refine wpIn_rangeFunc_ownF (F := Fence.wide) (n := 8) rfl (by omega) (gf := 85) (lb := #[.pointer (some ⟨w.heap.size + 1, 0, none⟩)]) rfl trivial (enters_of Try.func85 (by kernel_rfl) rfl)
    (back_stops Fence.wide 7 trivial rfl (by omega) (w.heap.size + 1) (w.heap.size + 2) n c A cs HN.out (by omega) W0 (by omega) (by omega) c1.1 ((hh.below hB0).more (by omega))) belowK_t (belowK_b (by omega)) (Below.refl _ _) (fun _ => rfl)
    (fun pre W => ((∀ y ∈ pre, strongB y.1.2 = 0) ∧ W.cell? ⟨w.heap.size, 0, none⟩ = some (.int .i64 0) ∧ W.frozen? ⟨w.heap.size, 0, none⟩ = false) ∧ Below w.heap.size w W)
    (fun cc pre W => (cc = .ret ∧ (∃ pre' x, pre = pre' ++ [x] ∧ (∀ y ∈ pre', strongB y.1.2 = 0) ∧ strongB x.1.2 ≠ 0 ∧ W.cell? ⟨w.heap.size, 0, none⟩ = some (.int .i64 (strongB x.1.2)))) ∧ Below w.heap.size w W)
    (OwnFrom.and (Own.from (fun s A B row hs hg hr => ⟨hs.1, cell_kept hs.2.1 hg hr, (frozen_kept hs.2.1 hg hr).trans hs.2.2⟩) _) (ownFrom_below (Nat.le_refl _) (by omega)))
    (fun cc => OwnFrom.and (Own.from (fun s A B row hs hg hr => ⟨hs.1, by obtain ⟨_, p, x, h1, h2, h3, h4⟩ := hs; exact ⟨p, x, h1, h2, h3, cell_kept h4 hg hr⟩⟩) _) (ownFrom_below (Nat.le_refl _) (by omega)))
    ⟨⟨by simp, c2, c3⟩, hB0⟩
    (fun x => { tmps := #[.slice A n c, .int .i64 sos, undef, undef, .pointer (some ⟨w.heap.size, 0, none⟩), undef, .int .i64 x.1.2, undef, .slice A n c, .func (.func 85) #[] #[.pointer (some ⟨w.heap.size + 1, 0, none⟩)], .int .i64 (x.1.1 : Int), .int .i64 x.1.2, undef, undef, undef, undef, undef, undef], defers := [] }) ?assign ?body ?done ?stop
  case assign =>
    intro l x W K hK
    gi_wp2
    exact hK
  case body =>
    rintro lp pre x W ⟨⟨hp, hcr, hfr⟩, hB⟩ hlen
    obtain ⟨⟨ix, X⟩, hX⟩ := x
    dsimp only at hX ⊢
    have HP : Hid (∀ y ∈ pre, strongB y.1.2 = 0) := Lib.hid hp
    obtain ⟨s, hs⟩ : ∃ s, strongB X = s := ⟨_, rfl⟩
    have hc := fun w => ofClass_ok X w
    rw [hs] at hc
    have HC := Lib.hid hc
    have HS := Lib.hid hs
    clear hc hs hp
    by_cases h0 : s = 0
    · subst h0
      gi_wp2_with (first | (refine ⟨trivial, ?_⟩; gi_at_call 79; refine (CallsIn.inRound lp (callsIn_wide.2 (HC.out _))).mono ?_; rintro e u ⟨rfl, rfl⟩))
      exact ⟨KeepsOthers.refl _, Below.refl _ _, ⟨fun y hy => (List.mem_append.1 hy).elim (HP.out y) (fun e => by simp at e; subst e; exact HS.out), hcr, hfr⟩, hB⟩
    · have hz : (s == 0) = false := by simpa using h0
      gi_wp2_with (first | (refine ⟨trivial, ?_⟩; gi_at_call 79; refine (CallsIn.inRound lp (callsIn_wide.2 (HC.out _))).mono ?_; rintro e u ⟨rfl, rfl⟩))
      exact ⟨KeepsOthers.setCell _ _ _, ⟨rfl, pre, _, rfl, HP.out, by rw [HS.out]; exact h0, by rw [HS.out]; exact World.cell?_setCell_same' _ _ _ (by rw [hcr]; rfl)⟩, hB.setCell (p := ⟨w.heap.size, 0, none⟩) (Nat.le_refl _) _⟩
  case done =>
    rintro D ys W hD hys ⟨⟨hne, hcr, hfr⟩, hB⟩ hK
    have hv := ahead_all sos n HN.out ys hys hne
    have HV := Lib.hid hv
    clear hv hys hne
    go_wp2
    have hK' := (KeepsOthers.setCell W ⟨w.heap.size, 0, none⟩ (.int .i64 sos)).same D _ hK rfl
    refine ⟨by simp, .inl ⟨_, _, rfl, run_takeDeferred hK', ?_⟩⟩
    have hc5 := cell_kept (World.cell?_setCell_same' W ⟨w.heap.size, 0, none⟩ (.int .i64 sos) (by rw [hcr]; rfl)) (grownBy_putObj' _ D (.deferred none)) (fun r e => by cases e; exact ⟨_, hK', rfl⟩)
    refine ⟨.int .i64 sos, ?_, by rw [HV.out], (hB.setCell (p := ⟨w.heap.size, 0, none⟩) (Nat.le_refl _) _).trans (belowK_b (w := w) (Nat.le_refl _) _ D _ _ (by omega) hK' rfl rfl)⟩
    simp [results, Try.results43, go_sem, hc5]
  case stop =>
    rintro D cc pre W hD ⟨m, hpre⟩ ⟨⟨rfl, pre', x, rfl, hp, hx, hcr⟩, hB⟩ hK
    have hv := ahead_last sos n HN.out pre' x m hpre hp hx
    have HV := Lib.hid hv
    clear hv hpre hp
    gi_wp2
    refine ⟨by simp, .inl ⟨_, _, rfl, run_takeDeferred hK, ?_⟩⟩
    have hc5 := cell_kept hcr (grownBy_putObj' _ D (.deferred none)) (fun r e => by cases e; exact ⟨_, hK, rfl⟩)
    refine ⟨.int .i64 (strongB x.1.2), ?_, by rw [HV.out], hB.trans (belowK_b (w := w) (Nat.le_refl _) W D _ _ (by omega) hK rfl rfl)⟩
    simp [results, Try.results43, go_sem, hc5]
end Go.Proofs.Ytlopddiplmjpfaa
