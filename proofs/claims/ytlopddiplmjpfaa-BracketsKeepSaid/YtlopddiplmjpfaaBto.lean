/-
  Contract of the program's topmost: the place of the last of the waiting brackets that goes with a pair. Condition: at most 1000 characters.
-/
import Derived.Test.YtlopddiplmjpfaaBla
import Derived.Test.YtlopddiplmjpfaaRound
import Derived.BigQuiet
set_option linter.unusedVariables false
set_option linter.unusedSimpArgs false
namespace Go.Proofs.Ytlopddiplmjpfaa
open Go.ChangeShapes Go.WideShapes Go.ChangeAt Go.RowKit Go.Shelf
attribute [local go_sem] Oper.semAt_some

def posOf (stk : List (Nat × Int)) : List Int := stk.map (fun x => (x.1 : Int))
theorem posOf_length (stk : List (Nat × Int)) : (posOf stk).length = stk.length := by simp [posOf]
theorem posOf_get (stk : List (Nat × Int)) (k : Nat) (v : Int) (h : (posOf stk)[k]? = some v) : ∃ x, stk[k]? = some x ∧ v = (x.1 : Int) := by
  unfold posOf at h
  rw [List.getElem?_map, Option.map_eq_some_iff] at h
  obtain ⟨x, h1, h2⟩ := h
  exact ⟨x, h1, h2.symm⟩
theorem drewN_keeps (W : World) (q : Nat) : KeepsOthers W (W.drewN q) := ⟨Nat.le_refl _, fun _ _ h _ => h⟩
theorem top_skip (l : List (Nat × Int)) (pair : Int) (m : Nat) : ∀ n, n ≤ l.length → m ≤ n → (∀ j x, m ≤ j → j < n → l[j]? = some x → ¬ canonB x.2 = canonB pair) → topV l pair n = topV l pair m
  | 0, _, h, _ => by obtain rfl : m = 0 := by omega
                     rfl
  | n + 1, hl, h, h0 => by
    by_cases e : m = n + 1
    · subst e; rfl
    · have hx : l[n]? = some l[n] := List.getElem?_eq_getElem (by omega)
      rw [topV_no l pair n _ hx (h0 n _ (by omega) (by omega) hx)]
      exact top_skip l pair m n (by omega) (by omega) (fun j x h1 h2 => h0 j x h1 (by omega))
/-- the bracket that stands at one of the waiting positions -/
def sgnAt (stk : List (Nat × Int)) (k : Nat) : Int := (stk.getD k (0, 0)).2
theorem sgnAt_get (stk : List (Nat × Int)) (k : Nat) (x : Nat × Int) (h : stk[k]? = some x) : sgnAt stk k = x.2 := by
  unfold sgnAt; rw [List.getD_eq_getElem?_getD, h]; rfl
theorem top_none (stk : List (Nat × Int)) (pair : Int) (n : Nat) (hn : n = (posOf stk).length) (ys : List (El (posOf stk))) (h : idxOf ys = downTo n 0) (h0 : ∀ x ∈ ys, ¬ canonB (sgnAt stk x.1.1) = canonB pair) : topV stk pair n = -1 := by
  rw [posOf_length] at hn
  rw [top_skip stk pair 0 n (by omega) (Nat.zero_le _) fun j x _ hj hx => ?_]
  · rfl
  · have hm : j ∈ idxOf ys := by rw [h, downTo_mem]; omega
    obtain ⟨y, hy, rfl⟩ := List.mem_map.1 hm
    rw [← sgnAt_get stk _ x hx]
    exact h0 y hy
theorem top_some (stk : List (Nat × Int)) (pair : Int) (n : Nat) (hn : n = (posOf stk).length) (pre : List (El (posOf stk))) (x : El (posOf stk)) (m : Nat) (h : idxOf (pre ++ [x]) = downTo n m) (h0 : ∀ y ∈ pre, ¬ canonB (sgnAt stk y.1.1) = canonB pair) (hx : canonB (sgnAt stk x.1.1) = canonB pair) : topV stk pair n = x.1.1 := by
  obtain ⟨h1, h2, h3⟩ := downTo_last n m pre x h
  rw [posOf_length] at hn
  rw [top_skip stk pair (m + 1) n (by omega) h2 fun j y hj1 hj2 hy => ?_]
  · obtain ⟨z, hz, _⟩ := posOf_get stk x.1.1 _ x.2
    rw [sgnAt_get stk _ z hz] at hx
    rw [h1] at hz ⊢
    exact topV_yes stk pair m z hz hx
  · have hm : j ∈ idxOf pre := by rw [h3, downTo_mem]; omega
    obtain ⟨u, hu, rfl⟩ := List.mem_map.1 hm
    rw [← sgnAt_get stk _ y hy]
    exact h0 u hu

set_option maxRecDepth 100000 in
set_option maxHeartbeats 4000000 in
theorem topmost_ok (A T : Option Addr) (n c nt ct : Nat) (pair : Int) (ts : List Int) (stk : List (Nat × Int)) (w : World) (hn : n = stk.length) (hmax : n ≤ 1000) (hnt : nt = ts.length) (hmt : nt ≤ 1000)
    (hs : ∀ x ∈ stk, x.1 < ts.length ∧ x.2 = ts.getD x.1 0) (hh : Has w w.heap.size A ((posOf stk).map (Value.int .i64))) (ht : Has w w.heap.size T (ts.map (Value.int .i32))) :
    Calls Try.prog 33 #[.slice T nt ct, .slice A n c, .int .i32 pair] w fun e w' => e = .returned (.int .i64 (topV stk pair n)) ∧ Below w.heap.size w w' := by
  have HN : Hid (n = (posOf stk).length) := Lib.hid (by rw [posOf_length]; exact hn)
  have HT := Lib.hid hnt
  have HS := Lib.hid hs
  clear hn hnt hs
  refine callsIn_wide.1 (callsIn_of_wp_marks (F := Fence.wide) (n := 10) Try.func33 rfl trivial (wpIn_wide.2 ?_) rfl)
  simp only [Try.ntmps33, List.size_toArray, List.length_cons, List.length_nil, Nat.reduceAdd, Nat.reduceSub, Array.replicate_succ, Array.replicate_zero, List.push_toArray, List.append_toArray, List.nil_append, List.cons_append]
  go_wp2_with (go_at_call 49; refine (callsIn_wide.1 (back_in Fence.wide 8 trivial rfl A n c _)).mono ?_; rintro e w' ⟨rfl, rfl⟩)
  have a0 := at_new w #[.slice T nt ct] 22
  have a1 := at_new (w.alloc (.cells #[.slice T nt ct] 22)) #[.int .i32 pair] 21
  have a2 := at_new ((w.alloc (.cells #[.slice T nt ct] 22)).alloc (.cells #[.int .i32 pair] 21)) #[.int .i64 0] 3
  have a3 := at_new (((w.alloc (.cells #[.slice T nt ct] 22)).alloc (.cells #[.int .i32 pair] 21)).alloc (.cells #[.int .i64 0] 3)) #[.slice A n c] 23
  have b0 := ((a0.alloc (.cells #[.int .i32 pair] 21)).alloc (.cells #[.int .i64 0] 3)).alloc (.cells #[.slice A n c] 23)
  have b1 := (a1.alloc (.cells #[.int .i64 0] 3)).alloc (.cells #[.slice A n c] 23)
  have b2 := a2.alloc (.cells #[.slice A n c] 23)
  have hB0 : Below w.heap.size w ((((w.alloc (.cells #[.slice T nt ct] 22)).alloc (.cells #[.int .i32 pair] 21)).alloc (.cells #[.int .i64 0] 3)).alloc (.cells #[.slice A n c] 23)) := ((((Below.refl _ w).alloc (Nat.le_refl _) _).alloc (by simp) _).alloc (by simp; omega) _).alloc (by simp; omega) _
  have hs0 : ((((w.alloc (.cells #[.slice T nt ct] 22)).alloc (.cells #[.int .i32 pair] 21)).alloc (.cells #[.int .i64 0] 3)).alloc (.cells #[.slice A n c] 23)).heap.size = w.heap.size + 4 := by simp
  simp only [World.size_alloc] at b1 b2 a3
  obtain ⟨W0, hW0⟩ : ∃ W0, (((w.alloc (.cells #[.slice T nt ct] 22)).alloc (.cells #[.int .i32 pair] 21)).alloc (.cells #[.int .i64 0] 3)).alloc (.cells #[.slice A n c] 23) = W0 := ⟨_, rfl⟩
  rw [hW0] at hB0 hs0 b0 b1 b2 a3
  try rw [hW0]
  clear hW0 a0 a1 a2
  have c0 := b0.cell 0 _ rfl
  have c1 := b1.cell 0 _ rfl
  have c2 := b2.cell 0 _ rfl
  have f2 := b2.free 0
  have c3 := a3.cell 0 _ rfl
  clear b0 b1 b2 a3
  refine (wpIn_wide (n := 8)).1 ?_
  refine wpIn_rangeFunc_ownF (F := Fence.wide) (n := 8) rfl (by omega) (gf := 85) (lb := #[.pointer (some ⟨w.heap.size + 1 + 1 + 1, 0, none⟩)]) rfl trivial (enters_of Try.func85 (by kernel_rfl) rfl)
    (back_stops Fence.wide 7 trivial rfl (by omega) (w.heap.size + 1 + 1 + 1) (w.heap.size + 4) n c A (posOf stk) HN.out (by omega) W0 (by omega) (by omega) c3 ((hh.below hB0).more (by omega))) belowK_t (belowK_b (by omega)) (Below.refl _ _) (fun _ => rfl)
    (fun pre W => ((∀ y ∈ pre, ¬ canonB (sgnAt stk y.1.1) = canonB pair) ∧ W.cell? ⟨w.heap.size, 0, none⟩ = some (.slice T nt ct) ∧ W.cell? ⟨w.heap.size + 1, 0, none⟩ = some (.int .i32 pair) ∧ W.cell? ⟨w.heap.size + 1 + 1, 0, none⟩ = some (.int .i64 0) ∧ W.frozen? ⟨w.heap.size + 1 + 1, 0, none⟩ = false) ∧ Below w.heap.size w W)
    (fun cc pre W => (cc = .ret ∧ (∃ pre' x, pre = pre' ++ [x] ∧ (∀ y ∈ pre', ¬ canonB (sgnAt stk y.1.1) = canonB pair) ∧ canonB (sgnAt stk x.1.1) = canonB pair ∧ W.cell? ⟨w.heap.size + 1 + 1, 0, none⟩ = some (.int .i64 (x.1.1 : Int)))) ∧ Below w.heap.size w W)
    (OwnFrom.and (Own.from (fun s A B row hs hg hr => ⟨hs.1, cell_kept hs.2.1 hg hr, cell_kept hs.2.2.1 hg hr, cell_kept hs.2.2.2.1 hg hr, (frozen_kept hs.2.2.2.1 hg hr).trans hs.2.2.2.2⟩) _) (ownFrom_below (Nat.le_refl _) (by omega)))
    (fun cc => OwnFrom.and (Own.from (fun s A B row hs hg hr => ⟨hs.1, by obtain ⟨_, p, x, h1, h2, h3, h4⟩ := hs; exact ⟨p, x, h1, h2, h3, cell_kept h4 hg hr⟩⟩) _) (ownFrom_below (Nat.le_refl _) (by omega)))
    ⟨⟨by simp, c0, c1, c2, f2⟩, hB0⟩
    (fun x => { tmps := #[.slice T nt ct, .slice A n c, .int .i32 pair, .pointer (some ⟨w.heap.size, 0, none⟩), undef, .pointer (some ⟨w.heap.size + 1, 0, none⟩), .pointer (some ⟨w.heap.size + 1 + 1, 0, none⟩), .int .i64 (x.1.1 : Int), .int .i64 x.1.2, .slice A n c, .func (.func 85) #[] #[.pointer (some ⟨w.heap.size + 1 + 1 + 1, 0, none⟩)], .int .i64 (x.1.1 : Int), .int .i64 x.1.2, undef, undef, undef, undef, undef, undef, undef, undef, undef], defers := [] }) ?assign ?body ?done ?stop
  case assign =>
    intro l x W K hK
    gi_wp2
    exact hK
  case body =>
    rintro lp pre x W ⟨⟨hp, k0, k1, k2, k3⟩, hB⟩ hlen
    have HP := Lib.hid hp
    clear hp
    obtain ⟨⟨ix, X⟩, hX⟩ := x
    obtain ⟨⟨pos, sgn⟩, hst, rfl⟩ := posOf_get stk ix X hX
    obtain ⟨hs1, hs2⟩ := HS.out _ (List.mem_of_getElem? hst)
    dsimp only at hs1 hs2 ⊢
    have hsg : sgnAt stk ix = sgn := sgnAt_get stk ix _ hst
    obtain ⟨b, off, rfl, hb, hcc⟩ := (ht.below hB).at_int hs1
    have e1 : ts[pos] = sgn := by rw [hs2, List.getD_eq_getElem?_getD, List.getElem?_eq_getElem hs1]; rfl
    rw [e1] at hcc
    have HG := Lib.hid hsg
    have hpn : pos < nt := by rw [HT.out]; exact hs1
    clear hst hs2 e1 hs1 hsg
    obtain ⟨X1, hX1⟩ : ∃ X1, canonB sgn = X1 := ⟨_, rfl⟩
    obtain ⟨X2, hX2⟩ : ∃ X2, canonB pair = X2 := ⟨_, rfl⟩
    have hc1 := fun w => canon_ok sgn w
    have hc2 := fun w => canon_ok pair w
    rw [hX1] at hc1
    rw [hX2] at hc2
    have HC1 := Lib.hid hc1
    have HC2 := Lib.hid hc2
    have HX1 := Lib.hid hX1
    have HX2 := Lib.hid hX2
    clear hc1 hc2 hX1 hX2
    by_cases he : X1 = X2
    · subst he
      have hw : Hid (canonB (sgnAt stk ix) = canonB pair) := Lib.hid (by rw [HG.out, HX1.out, HX2.out])
      gi_wp2
      refine regionIn_quiet_lit (by kernel_rfl) (by kernel_rfl) (by kernel_rfl) (by rintro ⟨_, _, h⟩; exact h) ?_
      repeat (go_big_quiet_step ((go_at_call 50; first | (with_reducible exact (HC1.out _).mono fun _ _ ⟨he, hw⟩ => ⟨he, _, hw.symm⟩) | with_reducible exact (HC2.out _).mono fun _ _ ⟨he, hw⟩ => ⟨he, _, hw.symm⟩)))
      refine wpQuiet_nil ?_
      rintro _ ⟨nq, rfl⟩
      gi_wp2
      exact ⟨(drewN_keeps _ _).trans (KeepsOthers.setCell _ _ _), ⟨rfl, pre, _, rfl, HP.out, hw.out, World.cell?_setCell_same' _ _ _ (by show (W.cell? _).isSome = true; rw [k2]; rfl)⟩, (below_drewN hB nq).setCell (p := ⟨w.heap.size + 1 + 1, 0, none⟩) (by simp; omega) _⟩
    · have hz : (X1 == X2) = false := by simpa using he
      have hw : Hid (¬ canonB (sgnAt stk ix) = canonB pair) := Lib.hid (by rw [HG.out, HX1.out, HX2.out]; exact he)
      gi_wp2
      refine regionIn_quiet_lit (by kernel_rfl) (by kernel_rfl) (by kernel_rfl) (by rintro ⟨_, _, h⟩; exact h) ?_
      repeat (go_big_quiet_step ((go_at_call 50; first | (with_reducible exact (HC1.out _).mono fun _ _ ⟨he, hw⟩ => ⟨he, _, hw.symm⟩) | with_reducible exact (HC2.out _).mono fun _ _ ⟨he, hw⟩ => ⟨he, _, hw.symm⟩)))
      refine wpQuiet_nil ?_
      rintro _ ⟨nq, rfl⟩
      gi_wp2
      exact ⟨drewN_keeps _ _, below_drewN (Below.refl _ _) nq, ⟨fun y hy => (List.mem_append.1 hy).elim (HP.out y) (fun e => by simp at e; subst e; exact hw.out), k0, k1, k2, k3⟩, below_drewN hB nq⟩
  case done =>
    rintro D ys W hD hys ⟨⟨hne, k0, k1, k2, k3⟩, hB⟩ hK
    have hv := top_none stk pair n HN.out ys hys hne
    have HV := Lib.hid hv
    clear hv hys hne
    go_wp2
    have hK' := (KeepsOthers.setCell W ⟨w.heap.size + 1 + 1, 0, none⟩ (.int .i64 (-1))).same D _ hK rfl
    refine ⟨by simp, .inl ⟨_, _, rfl, run_takeDeferred hK', ?_⟩⟩
    have hc5 := cell_kept (World.cell?_setCell_same' W ⟨w.heap.size + 1 + 1, 0, none⟩ (.int .i64 (-1)) (by rw [k2]; rfl)) (grownBy_putObj' _ D (.deferred none)) (fun r e => by cases e; exact ⟨_, hK', rfl⟩)
    refine ⟨.int .i64 (-1), ?_, by rw [HV.out], (hB.setCell (p := ⟨w.heap.size + 1 + 1, 0, none⟩) (by simp; omega) _).trans (belowK_b (w := w) (Nat.le_refl _) _ D _ _ (by omega) hK' rfl rfl)⟩
    simp [results, Try.results33, go_sem, hc5]
  case stop =>
    rintro D cc pre W hD ⟨m, hpre⟩ ⟨⟨rfl, pre', x, rfl, hp, hx, hcr⟩, hB⟩ hK
    have hv := top_some stk pair n HN.out pre' x m hpre hp hx
    have HV := Lib.hid hv
    clear hv hpre hp
    gi_wp2
    refine ⟨by simp, .inl ⟨_, _, rfl, run_takeDeferred hK, ?_⟩⟩
    have hc5 := cell_kept hcr (grownBy_putObj' _ D (.deferred none)) (fun r e => by cases e; exact ⟨_, hK, rfl⟩)
    refine ⟨.int .i64 (x.1.1 : Int), ?_, by rw [HV.out], hB.trans (belowK_b (w := w) (Nat.le_refl _) W D _ _ (by omega) hK rfl rfl)⟩
    simp [results, Try.results33, go_sem, hc5]
end Go.Proofs.Ytlopddiplmjpfaa
