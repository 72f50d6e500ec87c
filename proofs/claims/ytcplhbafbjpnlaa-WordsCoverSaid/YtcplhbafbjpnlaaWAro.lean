/-
  Contracts of the program's Around and the document's. Condition: at most 1000 code points.
-/
import Derived.Test.YtcplhbafbjpnlaaWBnd
import Derived.Test.YtcplhbafbjpnlaaWRef
set_option linter.unusedVariables false
set_option linter.unusedSimpArgs false
namespace Go.Proofs.Ytcplhbafbjpnlaa
open Go.ChangeShapes Go.WideShapes Go.ChangeAt Go.RowKit Go.Sort

theorem wpList_min {P : Program} {ops : Array Oper} {rest : List Oper} {o : Oper} {a : Act} {w : World} {Q : Exit → Act → World → Prop} (hgd : o.guard = none) (x y : Operand) (ats : Array TypeId)
    (ho : o.op = .call { callee := .builtin .min, args := #[x, y], argTypes := ats }) (p q : Int) (hx : a.eval x = .int .i64 p) (hy : a.eval y = .int .i64 q) (M : Int) (hM : min p q = M)
    (h : wpList P ops Q rest (a.put o.dst (.int .i64 M)) w) : wpList P ops Q (o :: rest) a w := by
  subst hM
  refine wpList_plain hgd fun K hK => ?_
  unfold Oper.wp execOp
  simp only [ho, resolve, invoke, builtin, Sem.run_bind, Sem.run_pure, Result.andThen_ok, List.map_toArray, List.map_cons, List.map_nil, hx, hy, run_min_int2]
  have e : (if q < p then q else p) = min p q := by omega
  rw [e]
  exact hK _ _ h

def cutV (a b : Nat) : Value := .agg #[.int .i64 a, .int .i64 b]
theorem Try.info29 : (Try.prog.info? 29).map (·.size) = some 2 := by kernel_rfl
theorem aro_out (zs : List Int) (i : Int) (h : zs.length = 0 ∨ i < 0 ∨ zs.length < i) : AroV zs i 0 0 := ⟨fun _ => ⟨rfl, rfl⟩, fun m j hm h1 h2 _ => by omega⟩
theorem wP_zero (zs : List Int) (h : 0 < zs.length) : wP zs 0 = true := by unfold wP; exact decide_eq_true (zero_mem zs h)
theorem wP_end (zs : List Int) (h : 0 < zs.length) : wP zs zs.length = true := by unfold wP; exact decide_eq_true (end_mem zs h)
theorem prev_step (zs : List Int) (f r : Nat) (hf : f ≤ zs.length) (h0 : 0 < f) (h : PrevV (cls zs) f r) : r < f ∧ ∀ j, r < j → j < f → wP zs j = false := by
  obtain ⟨h1, h2, h3⟩ := h.2.2 f rfl h0 (by rw [cls_len]; exact hf)
  exact ⟨h1, fun j h4 h5 => wP_no zs j (by omega) (h3 j h4 h5)⟩
theorem next_step (zs : List Int) (f r : Nat) (hf : f < zs.length) (h : NextV (cls zs) f r) : f < r ∧ r ≤ zs.length ∧ ∀ j, f < j → j < r → wP zs j = false := by
  obtain ⟨h1, h2, h3, h4⟩ := h.2.2 f rfl (by rw [cls_len]; exact hf)
  rw [cls_len] at h2
  exact ⟨h1, h2, fun j h5 h6 => wP_no zs j (by omega) (h4 j h5 h6)⟩

set_option maxHeartbeats 4000000 in
theorem waround_ok (A : Option Addr) (c : Nat) (i : Int) (zs : List Int) (w : World) (hn : zs.length ≤ 1000) (hc : zs.length ≤ c) (h : Has w w.heap.size A (zs.map (Value.int .i32))) :
    Calls Try.prog 14 #[.slice A zs.length c, .int .i64 i] w fun e w' => (∃ a b : Nat, e = .returned (cutV a b) ∧ AroV zs i a b) ∧ Up w w' := by
  have hz29 := at_new w #[.int .i64 0, .int .i64 0] 29
  rcases Nat.eq_zero_or_pos zs.length with hz | hz
  · have HA := Lib.hid (aro_out zs i (.inl hz))
    rw [hz]
    clear h hn hc
    go_enter Try.func14, Try.ntmps14
    go_wp2
    exact bodyPost_ret (results_cell_at Try.results14 _ _ w.heap.size 29 _ _ (by rfl) hz29 Try.underlying29 rfl (by exact Try.info29)) rfl ⟨⟨0, 0, rfl, HA.out⟩, (Up.refl w).alloc _⟩
  have hzb : ((zs.length : Int) == 0) = false := beq_eq_false_iff_ne.2 (by omega)
  by_cases h1 : i < 0
  · have HA := Lib.hid (aro_out zs i (.inr (.inl h1)))
    clear h
    go_enter Try.func14, Try.ntmps14
    go_wp2
    exact bodyPost_ret (results_cell_at Try.results14 _ _ w.heap.size 29 _ _ (by rfl) hz29 Try.underlying29 rfl (by exact Try.info29)) rfl ⟨⟨0, 0, rfl, HA.out⟩, (Up.refl w).alloc _⟩
  by_cases h2 : (zs.length : Int) < i
  · have HA := Lib.hid (aro_out zs i (.inr (.inr h2)))
    clear h
    go_enter Try.func14, Try.ntmps14
    go_wp2
    exact bodyPost_ret (results_cell_at Try.results14 _ _ w.heap.size 29 _ _ (by rfl) hz29 Try.underlying29 rfl (by exact Try.info29)) rfl ⟨⟨0, 0, rfl, HA.out⟩, (Up.refl w).alloc _⟩
  obtain ⟨m, rfl⟩ : ∃ m : Nat, i = m := ⟨i.toNat, by omega⟩
  have HI := Lib.hid (fun k w h => wis_ok A c (k : Nat) zs w hn hc h)
  have HP := Lib.hid (fun k w h => prev_ok A c (k : Nat) zs w hn hc h)
  have HN := Lib.hid (fun k w h => next_ok A c (k : Nat) zs w hn hc h)
  obtain ⟨j, hj⟩ : ∃ j, j = min m (zs.length - 1) := ⟨_, rfl⟩
  have hm : m ≤ zs.length := by omega
  have hj1 : j < zs.length := by omega
  have hjm : min (m : Int) ((zs.length : Int) - 1) = j := by omega
  have Hj := Lib.hid hj
  have d1 : decide ((m : Int) < 0) = false := decide_eq_false h1
  have d2 : decide ((zs.length : Int) < (m : Int)) = false := decide_eq_false h2
  have d3 : decide (zs.length < m) = false := decide_eq_false (by omega)
  have kl : IntKind.i64.wrap ((zs.length : Int) - 1) = (zs.length : Int) - 1 := IntWalk.i64_in _ (by omega)
  have HH := Lib.hid (fun (w' : World) (hu : Up w w') => h.up hu)
  have hU0 : Up w (w.alloc (.cells #[.int .i64 0, .int .i64 0] 29)) := (Up.refl w).alloc _
  clear hj h1 h2 h
  go_enter Try.func14, Try.ntmps14
  go_wp2_with (first | (refine wpList_min rfl _ _ _ rfl m ((zs.length : Int) - 1) rfl rfl j hjm ?_))
  clear d1 d2 d3 kl hjm
  go_loopw [5] (fun v wr => ∃ f : Nat, f ≤ j ∧ v = .int .i64 f ∧ Hid (∀ k, f < k → k ≤ j → wP zs k = false) ∧ Up w wr ∧ At wr w.heap.size 29 #[.int .i64 0, .int .i64 0]) (fun v _ => (intOf v).toNat)
  case atStart => exact ⟨j, Nat.le_refl _, rfl, Lib.hid (fun k h1 h2 => by omega), hU0, hz29⟩
  case round =>
    obtain ⟨f, hf, rfl, HT, hU, hat⟩ := hrel
    cases hq : wP zs f with
    | false =>
      have HI1 := Lib.hid (fun w h => HI.out f w h)
      rw [isW_nat zs f (by omega), hq] at HI1
      have hf0 : 0 < f := by
        rcases Nat.eq_zero_or_pos f with h0 | h0
        · subst h0; rw [wP_zero zs hz] at hq; cases hq
        · exact h0
      have HQ := Lib.hid hq
      clear hq
      go_wp2_with (first
        | (go_at_call 12; (with_reducible refine (HI1.out _ (HH.out _ hU)).mono ?_); rintro e u ⟨rfl, hu⟩; have hU := hU.trans hu; have hat := hat.up hu)
        | (go_at_call 29; (with_reducible refine (HP.out f _ (HH.out _ hU)).mono ?_); rintro e u2 ⟨⟨r, rfl, hr⟩, hu2⟩; have hU := hU.trans hu2; have hat := hat.up hu2))
      obtain ⟨r1, r2⟩ := prev_step zs f r (by omega) hf0 hr
      go_roundw
      case rel => exact ⟨r, by omega, rfl, Lib.hid (fun k h1 h2 => by
          rcases Nat.lt_trichotomy k f with h3 | h3 | h3
          · exact r2 k h1 h3
          · rw [h3]; exact HQ.out
          · exact HT.out k h3 h2), hU, hat⟩
      case measure => simp [intOf] <;> omega
    | true =>
      have HI1 := Lib.hid (fun w h => HI.out f w h)
      rw [isW_nat zs f (by omega), hq] at HI1
      have HQ := Lib.hid hq
      clear hq
      go_wp2_with (first | (go_at_call 12; (with_reducible refine (HI1.out _ (HH.out _ hU)).mono ?_); rintro e u ⟨rfl, hu⟩; have hU := hU.trans hu; have hat := hat.up hu))
      obtain ⟨W1, rfl⟩ : ∃ W1, W1 = u := ⟨_, rfl⟩
      have HU1 := Lib.hid hU
      have HA1 := Lib.hid hat
      clear hU hat hu
      go_loopw [6] (fun v wr => ∃ t : Nat, j < t ∧ t ≤ zs.length ∧ v = .int .i64 t ∧ Hid (∀ k, j < k → k < t → wP zs k = false) ∧ Up w wr ∧ At wr w.heap.size 29 #[.int .i64 0, .int .i64 0]) (fun v _ => zs.length - (intOf v).toNat)
      case atStart => exact ⟨j + 1, by omega, by omega, by first | go_num | rfl, Lib.hid (fun k h1 h2 => by omega), HU1.out, HA1.out⟩
      case round =>
        obtain ⟨t, hjt, ht, rfl, HT2, hU, hat⟩ := hrel
        cases hq : wP zs t with
        | false =>
          have HI2 := Lib.hid (fun w h => HI.out t w h)
          rw [isW_nat zs t ht, hq] at HI2
          have ht0 : t < zs.length := by
            by_cases h0 : t = zs.length
            · subst h0; rw [wP_end zs hz] at hq; cases hq
            · omega
          have HQ2 := Lib.hid hq
          clear hq
          go_wp2_with (first
            | (go_at_call 12; (with_reducible refine (HI2.out _ (HH.out _ hU)).mono ?_); rintro e u ⟨rfl, hu⟩; have hU := hU.trans hu; have hat := hat.up hu)
            | (go_at_call 30; (with_reducible refine (HN.out t _ (HH.out _ hU)).mono ?_); rintro e u2 ⟨⟨r, rfl, hr⟩, hu2⟩; have hU := hU.trans hu2; have hat := hat.up hu2))
          obtain ⟨r1, r2, r3⟩ := next_step zs t r ht0 hr
          go_roundw
          case rel => exact ⟨r, by omega, by omega, rfl, Lib.hid (fun k h1 h2 => by
              rcases Nat.lt_trichotomy k t with h3 | h3 | h3
              · exact HT2.out k h1 h3
              · rw [h3]; exact HQ2.out
              · exact r3 k h3 h2), hU, hat⟩
          case measure => simp [intOf] <;> omega
        | true =>
          have HI2 := Lib.hid (fun w h => HI.out t w h)
          rw [isW_nat zs t ht, hq] at HI2
          have HQ2 := Lib.hid hq
          clear hq
          go_wp2_with (first
            | (go_at_call 12; (with_reducible refine (HI2.out _ (HH.out _ hU)).mono ?_); rintro e u ⟨rfl, hu⟩; have hU := hU.trans hu; have hat := hat.up hu)
            | (refine wpList_store_at rfl 29 _ _ rfl w.heap.size _ rfl rfl 29 _ hat (by exact Try.info29) (by rfl) (by simp [Value.oneCell']) w hU (Nat.le_refl _) ?_; intro w1 hat1 hk1 hs1 hu1))
          exact bodyPost_ret (results_cell_at Try.results14 _ _ w.heap.size 29 _ _ (by rfl) hat1 Try.underlying29 rfl (by exact Try.info29)) rfl ⟨⟨f, t, rfl, fun ho => by omega, fun m' j' hm' _ _ hj' => by
            obtain rfl : m = m' := by omega
            have hj2 := Hj.out
            obtain rfl : j = j' := by omega
            refine ⟨hf, hjt, ht, HQ.out, HQ2.out, fun k h1 h2 => ?_⟩
            rcases Nat.lt_or_ge j k with h3 | h3
            · exact HT2.out k h3 h2
            · exact HT.out k h1 h3⟩, hu1⟩

theorem aro_word' (zs : List Int) (k x y : Nat) (i : Int) (h : (pairs (wbs zs))[k]? = some (x, y)) (hh : (x : Int) ≤ i ∧ i < y ∨ ((k : Int) = (pairs (wbs zs)).length - 1 ∧ i = y)) : AroV zs i x y := by
  obtain ⟨h1, h2⟩ := List.getElem?_eq_some_iff.1 h
  have hp := pairs_len (wbs zs)
  rw [pairs_get _ _ (by omega)] at h2
  injection h2 with h2 h3
  have hx : (wbs zs)[k]? = some x := get_some (by omega) h2
  have hy : (wbs zs)[k + 1]? = some y := get_some (by omega) h3
  refine aro_word zs k x y i hx hy ?_
  rcases hh with hh | ⟨e1, e2⟩
  · exact .inl hh
  · right
    have hz : 0 < zs.length := by
      rcases Nat.eq_zero_or_pos zs.length with h0 | h0
      · rw [wbs_nil zs h0] at hx; simp at hx
      · exact h0
    have hl := wbs_last zs hz
    rw [show (wbs zs).length - 1 = k + 1 by omega, hy] at hl
    injection hl with hl
    exact ⟨hl, e2⟩
theorem aro_none' (zs : List Int) (i : Int) (h : ∀ (k x y : Nat), k < (pairs (wbs zs)).length → (pairs (wbs zs))[k]? = some (x, y) → ¬ ((x : Int) ≤ i ∧ i < y ∨ ((k : Int) = (pairs (wbs zs)).length - 1 ∧ i = y))) : AroV zs i 0 0 := by
  refine aro_none zs i fun k x y hx hy hh => ?_
  obtain ⟨h1, h2⟩ := List.getElem?_eq_some_iff.1 hx
  obtain ⟨h3, h4⟩ := List.getElem?_eq_some_iff.1 hy
  have hp := pairs_len (wbs zs)
  have hg : (pairs (wbs zs))[k]? = some (x, y) := get_some (by omega) ((pairs_get _ _ h3).trans (by rw [h2, h4]))
  refine h k x y (by omega) hg ?_
  rcases hh with hh | ⟨e1, e2⟩
  · exact .inl hh
  · exact .inr ⟨by omega, e2⟩

theorem wpList_store_low {P : Program} {ops : Array Oper} {rest : List Oper} {o : Oper} {a : Act} {w : World} {Q : Exit → Act → World → Prop} (hgd : o.guard = none) (ty : TypeId) (x y : Operand) (ho : o.op = .store ty x y)
    (g : Nat) (cells : Array Value) (hx : a.eval x = .pointer (some ⟨g, 0, none⟩)) (hy : a.eval y = .agg cells) (t : TypeId) (old : Array Value) (hg : At w g t old) (hi : (P.info? ty).map (·.size) = some cells.size)
    (hold : old.size = cells.size) (h1 : cells.all (·.oneCell') = true) (W0 : World) (B : Nat) (hu : Below B W0 w) (hB : B ≤ g)
    (h : ∀ w', At w' g t cells → Below B W0 w' → wpList P ops Q rest (a.put o.dst undef) w') : wpList P ops Q (o :: rest) a w :=
  wpList_plain hgd fun _ hK => wp_store_row ty x y ho g cells hx hy t old hg hi hold h1
    (hK _ _ (h _ (setRow_heap _ _ _ _ _ _ hg) (hu.trans ⟨rfl, rfl, rfl, by simp, fun k hk => setRow_other _ _ _ _ (by omega)⟩)))

set_option maxHeartbeats 4000000 in
theorem raround_ok (A : Option Addr) (c : Nat) (i : Int) (zs : List Int) (w : World) (hn : zs.length ≤ 1000) (hc : zs.length ≤ c) (h : Has w w.heap.size A (zs.map (Value.int .i32))) :
    Calls Try.prog 15 #[.slice A zs.length c, .int .i64 i] w fun e w' => (∃ a b : Nat, e = .returned (cutV a b) ∧ AroV zs i a b) ∧ Below w.heap.size w w' := by
  have HC := Lib.hid (fun w h => rwords_ok A c zs w hn hc h)
  have HW := Lib.hid (fun k x y h hh => aro_word' zs k x y i h hh)
  have HN := Lib.hid (aro_none' zs i)
  have hln : (pairs (wbs zs)).length ≤ 1001 := by rw [pairs_len]; have := wbs_le zs; omega
  obtain ⟨R, hR⟩ : ∃ R, AroV zs i = R := ⟨_, rfl⟩
  rw [hR] at HN ⊢
  simp only [hR] at HW
  clear hR
  generalize pairs (wbs zs) = cs at *
  obtain ⟨n, hn'⟩ : ∃ n, cs.length = n := ⟨_, rfl⟩
  rw [hn'] at HN hln
  simp only [hn'] at HW
  have HLN := Lib.hid hn'
  clear hn'
  have hz29 := at_new w #[.int .i64 0, .int .i64 0] 29
  have hU0 : Up w (w.alloc (.cells #[.int .i64 0, .int .i64 0] 29)) := (Up.refl w).alloc _
  have HH := Lib.hid (h.up hU0)
  clear h
  go_enter Try.func15, Try.ntmps15
  go_wp2_with (first | (go_at_call 31; (with_reducible refine (HC.out _ HH.out).mono ?_); rintro e u ⟨v, rfl, A1, c1, rfl, ⟨hc1, hf1⟩, hh1, hb1⟩; have hB1 := below_trans hU0.1 hb1 hU0.1.size; rw [HLN.out]))
  have hat : At u w.heap.size 29 #[.int .i64 0, .int .i64 0] := by
    unfold At
    rw [hb1.block _ (by simp)]
    exact hz29
  go_loopw [6] (fun v wr => ∃ k : Nat, k ≤ n ∧ v = .int .i64 k ∧ Hid (∀ q x y : Nat, q < k → cs[q]? = some (x, y) → ¬ ((x : Int) ≤ i ∧ i < y ∨ ((q : Int) = n - 1 ∧ i = y))) ∧ wr = u) (fun v _ => n - (intOf v).toNat)
  case atStart => exact ⟨0, by omega, rfl, Lib.hid (fun q x y h => absurd h (by omega)), rfl⟩
  case round =>
    obtain ⟨k, hk, rfl, HT, rfl⟩ := hrel
    by_cases hlt : k < n
    · obtain ⟨b, off, rfl, hb, hcc1, hcc2⟩ := hh1.at_ (i := k) (by rw [HLN.out]; exact hlt)
      obtain ⟨⟨X, Y⟩, hXY⟩ : ∃ p, cs[k]'(by rw [HLN.out]; exact hlt) = p := ⟨_, rfl⟩
      rw [hXY] at hcc1 hcc2
      simp only at hcc1 hcc2
      have HG := Lib.hid (get_some (by rw [HLN.out]; exact hlt) hXY)
      have HB1 := Lib.hid hB1
      clear hXY
      have ek : ((k : Int) == (n : Int) - 1) = decide ((k : Int) = n - 1) := by rfl
      have kl : IntKind.i64.wrap ((n : Int) - 1) = (n : Int) - 1 := IntWalk.i64_in _ (by omega)
      by_cases h1 : (X : Int) ≤ i ∧ i < Y
      · have HF := Lib.hid (HW.out k X Y HG.out (.inl h1))
        obtain ⟨h1, h2⟩ := h1
        have h1d : decide ((X : Int) ≤ i) = true := decide_eq_true h1
        have h2d : decide (i < (Y : Int)) = true := decide_eq_true h2
        go_wp2_with (first | (refine wpList_store_low rfl 29 _ _ rfl w.heap.size _ rfl rfl 29 _ hat (by exact Try.info29) (by rfl) (by simp [Value.oneCell']) w w.heap.size hB1 (Nat.le_refl _) ?_; intro w1 hat1 hu1))
        exact bodyPost_ret (results_cell_at Try.results15 _ _ w.heap.size 29 _ _ (by rfl) hat1 Try.underlying29 rfl (by exact Try.info29)) rfl ⟨⟨X, Y, rfl, HF.out⟩, hu1⟩
      by_cases h2 : (k : Int) = n - 1 ∧ i = Y
      · have HF := Lib.hid (HW.out k X Y HG.out (.inr h2))
        obtain ⟨h2, h3⟩ := h2
        clear ek kl HW HN
        subst h3
        obtain rfl : n = k + 1 := by omega
        clear h2
        have hlt2 : decide ((Y : Int) < (Y : Int)) = false := decide_eq_false (by omega)
        by_cases h4 : (X : Int) ≤ (Y : Int)
        · have h4d : decide ((X : Int) ≤ (Y : Int)) = true := decide_eq_true h4
          go_wp2_with (first | (refine wpList_store_low rfl 29 _ _ rfl w.heap.size _ rfl rfl 29 _ hat (by exact Try.info29) (by rfl) (by simp [Value.oneCell']) w w.heap.size hB1 (Nat.le_refl _) ?_; intro w1 hat1 hu1))
          exact bodyPost_ret (results_cell_at Try.results15 _ _ w.heap.size 29 _ _ (by rfl) hat1 Try.underlying29 rfl (by exact Try.info29)) rfl ⟨⟨X, Y, rfl, HF.out⟩, hu1⟩
        · have h4d : decide ((X : Int) ≤ (Y : Int)) = false := decide_eq_false h4
          go_wp2_with (first | (refine wpList_store_low rfl 29 _ _ rfl w.heap.size _ rfl rfl 29 _ hat (by exact Try.info29) (by rfl) (by simp [Value.oneCell']) w w.heap.size hB1 (Nat.le_refl _) ?_; intro w1 hat1 hu1))
          exact bodyPost_ret (results_cell_at Try.results15 _ _ w.heap.size 29 _ _ (by rfl) hat1 Try.underlying29 rfl (by exact Try.info29)) rfl ⟨⟨X, Y, rfl, HF.out⟩, hu1⟩
      have HTN : Hid (∀ q x y : Nat, q < k + 1 → cs[q]? = some (x, y) → ¬ ((x : Int) ≤ i ∧ i < y ∨ ((q : Int) = n - 1 ∧ i = y))) := Lib.hid (fun q x y hq hg => by
        rcases Nat.lt_or_ge q k with h3 | h3
        · exact HT.out q x y h3 hg
        · obtain rfl : q = k := by omega
          rw [HG.out] at hg
          injection hg with hg
          injection hg with hg1 hg2
          subst hg1; subst hg2
          intro hh
          rcases hh with hh | hh
          · exact h1 hh
          · exact h2 hh)
      by_cases g1 : (X : Int) ≤ i
      · have g2 : ¬ i < Y := fun h => h1 ⟨g1, h⟩
        have g1d : decide ((X : Int) ≤ i) = true := decide_eq_true g1
        have g2d : decide (i < (Y : Int)) = false := decide_eq_false g2
        by_cases g3 : (k : Int) = n - 1
        · have g4 : (i == (Y : Int)) = false := beq_eq_false_iff_ne.2 (fun h => h2 ⟨g3, h⟩)
          clear h1 h2 ek kl
          obtain rfl : n = k + 1 := by omega
          clear g3
          go_wp2
          go_roundw
          case rel => exact ⟨k + 1, by omega, by go_num, HTN, trivial⟩
          case measure => simp [intOf] <;> omega
        · have g3b : ((k : Int) == (n : Int) - 1) = false := beq_eq_false_iff_ne.2 g3
          clear h1 h2 ek
          go_wp2
          go_roundw
          case rel => exact ⟨k + 1, by omega, by go_num, HTN, trivial⟩
          case measure => simp [intOf] <;> omega
      · have g1d : decide ((X : Int) ≤ i) = false := decide_eq_false g1
        by_cases g3 : (k : Int) = n - 1
        · have g4 : (i == (Y : Int)) = false := beq_eq_false_iff_ne.2 (fun h => h2 ⟨g3, h⟩)
          clear h1 h2 ek kl
          obtain rfl : n = k + 1 := by omega
          clear g3
          go_wp2
          go_roundw
          case rel => exact ⟨k + 1, by omega, by go_num, HTN, trivial⟩
          case measure => simp [intOf] <;> omega
        · have g3b : ((k : Int) == (n : Int) - 1) = false := beq_eq_false_iff_ne.2 g3
          clear h1 h2 ek
          go_wp2
          go_roundw
          case rel => exact ⟨k + 1, by omega, by go_num, HTN, trivial⟩
          case measure => simp [intOf] <;> omega
    · obtain rfl : k = n := by omega
      have HF := Lib.hid (HN.out HT.out)
      go_wp2_with (first | (refine wpList_store_low rfl 29 _ _ rfl w.heap.size _ rfl rfl 29 _ hat (by exact Try.info29) (by rfl) (by simp [Value.oneCell']) w w.heap.size hB1 (Nat.le_refl _) ?_; intro w1 hat1 hu1))
      exact bodyPost_ret (results_cell_at Try.results15 _ _ w.heap.size 29 _ _ (by rfl) hat1 Try.underlying29 rfl (by exact Try.info29)) rfl ⟨⟨0, 0, rfl, HF.out⟩, hu1⟩
end Go.Proofs.Ytcplhbafbjpnlaa
