/-
  Contracts of the program's near and kindsOf: the kinds of the clusters around a boundary, and of all clusters. Condition: at most 1000 code points.
-/
import Derived.Test.YtcplhbafbjpnlaaWCls
import Derived.Test.YtcplhbafbjpnlaaCuts
import Derived.BigQuiet
import Derived.Test.YtcplhbafbjpnlaaLast
import Derived.Test.YtcplhbafbjpnlaaWJoin
set_option linter.unusedVariables false
set_option linter.unusedSimpArgs false
namespace Go.Proofs.Ytcplhbafbjpnlaa
open Go.ChangeShapes Go.WideShapes Go.ChangeAt Go.RowKit Go.Sort

theorem wp_region_last_lit {P : Program} {id : Nat} {Q : Exit → Act → World → Prop} {a : Act} {w : World} (L : List Oper) (o0 : Oper) (hL : L = L.dropLast ++ [L.getLastD o0]) (hm : P.follows .mixedOrders = true) (hg : (L.getLastD o0).guard = none) (hd : (L.getLastD o0).dst = none)
    (hB : (Region.lexB .any (L.dropLast ++ [idle (L.getLastD o0)]).toArray && backB (L.dropLast ++ [L.getLastD o0]) && backB (L.dropLast ++ [idle (L.getLastD o0)]) && waitsB L.dropLast.length (L.getLastD o0)) = true)
    (h : wpQuiet P L.toArray (fun w' => ∃ p : GrownBy, w' = grow (w.drewN p.n) p.os) (fun a' => ∀ w', (∃ p : GrownBy, w' = grow (w.drewN p.n) p.os) → (L.getLastD o0).wp P a' w' (fun a'' w'' => Q .normal a'' w'') Q) L.dropLast a) : (Code.region id L.toArray true).wp P Q a w :=
  wp_region_last_grown L.dropLast (L.getLastD o0) L.toArray (by rw [← hL]) hm hg hd hB h

theorem exPrevV (L : List Int) (i : Nat) (hn : 0 < L.length) (hi : i ≤ L.length) : ∃ p, PrevV L i p := by
  rcases Nat.eq_zero_or_pos i with rfl | h0
  · exact ⟨0, fun h => by omega, fun _ => rfl, fun m hm h => by omega⟩
  · obtain ⟨p, hp⟩ := ex_prev L hn i h0
    exact ⟨p, hp.val h0 hi⟩
theorem exNextV (L : List Int) (i : Nat) (hi : i ≤ L.length) : ∃ p, NextV L i p := by
  by_cases h0 : i = L.length
  · exact ⟨L.length, fun h => by omega, fun _ => rfl, fun m hm h => by omega⟩
  · obtain ⟨p, hp⟩ := ex_next L (L.length - i - 1) i (by omega)
    exact ⟨p, hp.val (by omega)⟩

theorem prev_v (A : Option Addr) (cp i p : Nat) (zs : List Int) (w : World) (hn : zs.length ≤ 1000) (hc : zs.length ≤ cp) (hp : PrevV (cls zs) i p) (h : Has w w.heap.size A (zs.map (Value.int .i32))) :
    Calls Try.prog 29 #[.slice A zs.length cp, .int .i64 i] w fun e w' => e = .returned (.int .i64 p) ∧ Up w w' :=
  (prev_ok A cp i zs w hn hc h).mono fun e w' ⟨⟨r, he, hr⟩, hu⟩ => ⟨by rw [he, hr.unique hp], hu⟩
theorem next_v (A : Option Addr) (cp i p : Nat) (zs : List Int) (w : World) (hn : zs.length ≤ 1000) (hc : zs.length ≤ cp) (hp : NextV (cls zs) i p) (h : Has w w.heap.size A (zs.map (Value.int .i32))) :
    Calls Try.prog 30 #[.slice A zs.length cp, .int .i64 i] w fun e w' => e = .returned (.int .i64 p) ∧ Up w w' :=
  (next_ok A cp i zs w hn hc h).mono fun e w' ⟨⟨r, he, hr⟩, hu⟩ => ⟨by rw [he, hr.unique hp], hu⟩

set_option maxHeartbeats 4000000 in
theorem near_ok (A : Option Addr) (cp i : Nat) (zs : List Int) (w : World) (hn0 : 0 < zs.length) (hn : zs.length ≤ 1000) (hi : i ≤ zs.length) (hb : bP (cls zs) i = true) (hc : zs.length ≤ cp) (h : Has w w.heap.size A (zs.map (Value.int .i32))) :
    Calls Try.prog 28 #[.slice A zs.length cp, .int .i64 i] w fun e w' => e = .returned (.agg #[.int .i64 (gk (KL zs) (ix zs i)), .int .i64 (gk (KL zs) (ix zs i + 1)), .int .i64 (gk (KL zs) (ix zs i + 2)), .int .i64 (gk (KL zs) (ix zs i + 3))]) ∧ Up w w' := by
  have mixed : Try.prog.follows .mixedOrders = true := by kernel_rfl
  have hL := cls_len zs
  obtain ⟨f, hf⟩ := exPrevV (cls zs) i (by omega) (by omega)
  obtain ⟨t, ht⟩ := exNextV (cls zs) i (by omega)
  obtain ⟨f1, f2, f3, f4, f5⟩ := prevK zs hn0 i f hi hb hf
  obtain ⟨t1, t2, t3, t4, t5, t6⟩ := nextK zs hn0 i t hi hb ht
  obtain ⟨p, hp⟩ := exPrevV (cls zs) f (by omega) (by omega)
  obtain ⟨q, hq⟩ := exNextV (cls zs) t (by omega)
  obtain ⟨p1, p2⟩ := prevK2 zs hn0 i f p hi hb hf hp
  obtain ⟨q1, q2, q3⟩ := nextK2 zs hn0 i t q hi hb ht hq
  rw [← p1, ← f1, ← t1, ← q1]
  have HP := Lib.hid (fun A w h => prev_v A cp i f zs w hn hc hf h)
  have HN := Lib.hid (fun A w h => next_v A cp i t zs w hn hc ht h)
  have HPP := Lib.hid (fun A w h => prev_v A cp f p zs w hn hc hp h)
  have HNN := Lib.hid (fun A w h => next_v A cp t q zs w hn hc hq h)
  have g1 : p < cp := by
    rcases Nat.eq_zero_or_pos i with h0 | h0
    · have := f5 h0; omega
    · have := f4 h0
      have hlt : f < i := (hf.2.2 i rfl h0 (by omega)).1
      omega
  have g2 : f < cp := by
    rcases Nat.eq_zero_or_pos i with h0 | h0
    · have := f5 h0; omega
    · have hlt : f < i := (hf.2.2 i rfl h0 (by omega)).1
      omega
  obtain ⟨bb, off, rfl, hbb, hcell⟩ := id h (fun e => by rw [List.map_eq_nil_iff] at e; subst e; simp at hn0)
  have HK := Lib.hid (fun a b m c w hab hb hm h => kindOf_at (some ⟨bb, off + a, none⟩) c a b m zs w hn hab hb hm h)
  have HH := Lib.hid (fun (w' : World) (hu : Up w w') => (h.up hu))
  clear hcell hf ht f1 f3 f4 f5 t1 t4 t5 t6 hp hq p1 q1 hb hL h
  go_enter Try.func28, Try.ntmps28
  go_wp2_with (first
    | (go_at_call 29; refine (HP.out _ _ (HH.out _ (by exact (Up.refl w).alloc _))).mono ?_; rintro e u ⟨rfl, hu⟩; have hU1 := ((Up.refl w).alloc _).trans hu)
    | (go_at_call 30; refine (HN.out _ _ (HH.out _ hU1)).mono ?_; rintro e u2 ⟨rfl, hu2⟩; have hU2 := hU1.trans hu2))
  have hUg : ∀ n os, Up w (grow (u2.drewN n) os) := fun n os => hU2.trans (Up.of_grow _ _ _)
  have HKG : Hid (∀ a b c n os, a ≤ b → b ≤ zs.length → Calls Try.prog 40 #[.slice (some ⟨bb, off + a, none⟩) (b - a) c] (grow (u2.drewN n) os) fun e w' => e = .returned (.int .i64 (kOf zs a b)) ∧ ∃ q os', w' = grow ((grow (u2.drewN n) os).drewN q) os') :=
    Lib.hid (fun a b c n os hab hb => (HK.out a b _ c _ hab hb rfl ((HH.out _ (hUg n os)).rng a b)).mono fun _ _ ⟨he, hu⟩ => ⟨he, hu.grow⟩)
  have HK0 : Hid (∀ A c n os, Calls Try.prog 40 #[.slice A 0 c] (grow (u2.drewN n) os) fun e w' => e = .returned (.int .i64 0) ∧ ∃ q os', w' = grow ((grow (u2.drewN n) os).drewN q) os') :=
    Lib.hid (fun A c n os => (kindOf_ok A c [] _ (by simp) Has.nil_).mono fun _ _ ⟨he, hu⟩ => ⟨he, hu.grow⟩)
  have hAt : At u w.heap.size 40 #[Value.int IntKind.i64 0, Value.int IntKind.i64 0, Value.int IntKind.i64 0, Value.int IntKind.i64 0] := (at_new _ _ _).up hu
  have hAg : ∀ n os, At (grow (u2.drewN n) os) w.heap.size 40 #[Value.int IntKind.i64 0, Value.int IntKind.i64 0, Value.int IntKind.i64 0, Value.int IntKind.i64 0] := fun n os => (hAt.up hu2).up (Up.of_grow _ _ _)
  refine wp_region_last_lit _ ⟨none, .move (.const undef), 0, "", #[], none⟩ (by kernel_rfl) mixed (by rfl) (by rfl) (by kernel_rfl) ?_
  dsimp only [List.dropLast, List.getLastD, List.getLast]
  have hcase : (i = cp ∧ t = cp ∧ q = cp) ∨ (i ≠ cp ∧ t = cp ∧ q = cp) ∨ (i ≠ cp ∧ t ≠ cp) := by
    by_cases h1 : i = cp
    · exact .inl ⟨h1, by omega, by omega⟩
    · by_cases h2 : t = cp
      · exact .inr (.inl ⟨h1, h2, by omega⟩)
      · exact .inr (.inr ⟨h1, h2⟩)
  have HV : Hid (i = cp → kOf zs i t = 0) := Lib.hid (fun h => by rw [show t = i by omega, kOf_self])
  have HV2 : Hid (t = cp → kOf zs t q = 0) := Lib.hid (fun h => by rw [show q = t by omega, kOf_self])
  rcases hcase with ⟨k1, k2, k3⟩ | ⟨k1, k2, k3⟩ | ⟨k1, k2⟩
  · have HE := Lib.hid (And.intro (HV.out k1) (HV2.out k2))
    clear HV HV2
    have m1 : ¬ cp = p := by omega
    have m2 : ¬ cp = f := by omega
    have m3 : (cp = i) = True := eq_true k1.symm
    have m4 : (cp = t) = True := eq_true k2.symm
    have n1 : cp - i = 0 := by omega
    have n2 : cp - t = 0 := by omega
    have n3 : t - i = 0 := by omega
    have n4 : q - t = 0 := by omega
    clear k1 k2 k3
    repeat (go_big_quiet_step (first
      | (go_at_call 29; with_reducible exact Calls.grown_of ((HPP.out _ _ (HH.out _ (hUg _ _))).mono fun _ _ ⟨he, hu⟩ => ⟨he, hu.grow⟩))
      | (go_at_call 30; with_reducible exact Calls.grown_of ((HNN.out _ _ (HH.out _ (hUg _ _))).mono fun _ _ ⟨he, hu⟩ => ⟨he, hu.grow⟩))
      | (go_at_call 40; first | with_reducible exact Calls.grown_of (HKG.out _ _ _ _ _ (by omega) (by omega)) | with_reducible exact Calls.grown_of (HK0.out _ _ _ _))))
    refine wpQuiet_nil ?_
    intro w' hw'
    obtain ⟨⟨n, os⟩, hw''⟩ := hw'
    subst hw''
    refine wp_store_row 40 _ _ rfl w.heap.size _ rfl rfl 40 _ (hAg n os) (by exact Try.info40) rfl (by simp [Value.oneCell']) ?_
    have hA2 : At ((grow (u2.drewN n) os).setRow w.heap.size _) w.heap.size 40 _ := setRow_heap (grow (u2.drewN n) os) w.heap.size _ #[Value.int IntKind.i64 (kOf zs p f), Value.int IntKind.i64 (kOf zs f i), Value.int IntKind.i64 0, Value.int IntKind.i64 0] 40 _ (hAg n os)
    have hU3 : Up w ((grow (u2.drewN n) os).setRow w.heap.size #[Value.int IntKind.i64 (kOf zs p f), Value.int IntKind.i64 (kOf zs f i), Value.int IntKind.i64 0, Value.int IntKind.i64 0]) := ⟨(hUg n os).1.trans ⟨rfl, rfl, rfl, by simp, fun k hk => setRow_other _ _ _ _ (by omega)⟩, (hUg n os).2⟩
    go_wp2
    exact bodyPost_ret (results_cell_at Try.results28 _ _ w.heap.size 40 _ _ (by rfl) hA2 Try.underlying40 rfl (by exact Try.info40)) rfl ⟨by rw [HE.out.1, HE.out.2], hU3⟩
  · have HE := Lib.hid (HV2.out k2)
    clear HV HV2
    have m1 : ¬ cp = p := by omega
    have m2 : ¬ cp = f := by omega
    have m3 : ¬ cp = i := by omega
    have m4 : (cp = t) = True := eq_true k2.symm
    have n2 : cp - t = 0 := by omega
    have n4 : q - t = 0 := by omega
    clear k1 k2 k3
    repeat (go_big_quiet_step (first
      | (go_at_call 29; with_reducible exact Calls.grown_of ((HPP.out _ _ (HH.out _ (hUg _ _))).mono fun _ _ ⟨he, hu⟩ => ⟨he, hu.grow⟩))
      | (go_at_call 30; with_reducible exact Calls.grown_of ((HNN.out _ _ (HH.out _ (hUg _ _))).mono fun _ _ ⟨he, hu⟩ => ⟨he, hu.grow⟩))
      | (go_at_call 40; first | with_reducible exact Calls.grown_of (HKG.out _ _ _ _ _ (by omega) (by omega)) | with_reducible exact Calls.grown_of (HK0.out _ _ _ _))))
    refine wpQuiet_nil ?_
    intro w' hw'
    obtain ⟨⟨n, os⟩, hw''⟩ := hw'
    subst hw''
    refine wp_store_row 40 _ _ rfl w.heap.size _ rfl rfl 40 _ (hAg n os) (by exact Try.info40) rfl (by simp [Value.oneCell']) ?_
    have hA2 : At ((grow (u2.drewN n) os).setRow w.heap.size _) w.heap.size 40 _ := setRow_heap (grow (u2.drewN n) os) w.heap.size _ #[Value.int IntKind.i64 (kOf zs p f), Value.int IntKind.i64 (kOf zs f i), Value.int IntKind.i64 (kOf zs i t), Value.int IntKind.i64 0] 40 _ (hAg n os)
    have hU3 : Up w ((grow (u2.drewN n) os).setRow w.heap.size #[Value.int IntKind.i64 (kOf zs p f), Value.int IntKind.i64 (kOf zs f i), Value.int IntKind.i64 (kOf zs i t), Value.int IntKind.i64 0]) := ⟨(hUg n os).1.trans ⟨rfl, rfl, rfl, by simp, fun k hk => setRow_other _ _ _ _ (by omega)⟩, (hUg n os).2⟩
    go_wp2
    exact bodyPost_ret (results_cell_at Try.results28 _ _ w.heap.size 40 _ _ (by rfl) hA2 Try.underlying40 rfl (by exact Try.info40)) rfl ⟨by rw [HE.out], hU3⟩
  · clear HV HV2
    have m1 : ¬ cp = p := by omega
    have m2 : ¬ cp = f := by omega
    have m3 : ¬ cp = i := by omega
    have m4 : ¬ cp = t := by omega
    repeat (go_big_quiet_step (first
      | (go_at_call 29; with_reducible exact Calls.grown_of ((HPP.out _ _ (HH.out _ (hUg _ _))).mono fun _ _ ⟨he, hu⟩ => ⟨he, hu.grow⟩))
      | (go_at_call 30; with_reducible exact Calls.grown_of ((HNN.out _ _ (HH.out _ (hUg _ _))).mono fun _ _ ⟨he, hu⟩ => ⟨he, hu.grow⟩))
      | (go_at_call 40; first | with_reducible exact Calls.grown_of (HKG.out _ _ _ _ _ (by omega) (by omega)) | with_reducible exact Calls.grown_of (HK0.out _ _ _ _))))
    refine wpQuiet_nil ?_
    intro w' hw'
    obtain ⟨⟨n, os⟩, hw''⟩ := hw'
    subst hw''
    refine wp_store_row 40 _ _ rfl w.heap.size _ rfl rfl 40 _ (hAg n os) (by exact Try.info40) rfl (by simp [Value.oneCell']) ?_
    have hA2 : At ((grow (u2.drewN n) os).setRow w.heap.size _) w.heap.size 40 _ := setRow_heap (grow (u2.drewN n) os) w.heap.size _ #[Value.int IntKind.i64 (kOf zs p f), Value.int IntKind.i64 (kOf zs f i), Value.int IntKind.i64 (kOf zs i t), Value.int IntKind.i64 (kOf zs t q)] 40 _ (hAg n os)
    have hU3 : Up w ((grow (u2.drewN n) os).setRow w.heap.size #[Value.int IntKind.i64 (kOf zs p f), Value.int IntKind.i64 (kOf zs f i), Value.int IntKind.i64 (kOf zs i t), Value.int IntKind.i64 (kOf zs t q)]) := ⟨(hUg n os).1.trans ⟨rfl, rfl, rfl, by simp, fun k hk => setRow_other _ _ _ _ (by omega)⟩, (hUg n os).2⟩
    go_wp2
    exact bodyPost_ret (results_cell_at Try.results28 _ _ w.heap.size 40 _ _ (by rfl) hA2 Try.underlying40 rfl (by exact Try.info40)) rfl ⟨rfl, hU3⟩
end Go.Proofs.Ytcplhbafbjpnlaa
