/-
  Contracts of the program's Kind and the document's. Condition: at most 1000 code points.
-/
import Derived.Test.YtcplhbafbjpnlaaWCls
import Derived.Shelf.SlSortCmp.QuietGrown
import Derived.BigQuiet
set_option linter.unusedVariables false
set_option linter.unusedSimpArgs false
namespace Go.Proofs.Ytcplhbafbjpnlaa
open Go.ChangeShapes Go.WideShapes Go.ChangeAt Go.RowKit Go.Sort

set_option maxHeartbeats 2000000 in
theorem has_ok (A : Option Addr) (cp a b : Nat) (c : Int) (zs : List Int) (w : World) (hn : zs.length ≤ 1000) (hab : a ≤ b) (hb : b ≤ zs.length) (h : Has w w.heap.size A (zs.map (Value.int .i32))) :
    Calls Try.prog 35 #[.slice A zs.length cp, .agg #[.int .i64 a, .int .i64 b], .int .i64 c] w fun e w' => e = .returned (.bool (hasC zs a b c)) ∧ Up w w' := by
  obtain ⟨V, hV⟩ : ∃ V, hasC zs a b c = V := ⟨_, rfl⟩
  rw [hV]
  have HV := Lib.hid hV
  clear hV
  have hat0 := at_new w #[.int .i64 a, .int .i64 b] 29
  have hU0 : Up w (w.alloc (.cells #[.int .i64 a, .int .i64 b] 29)) := (Up.refl w).alloc _
  go_enter Try.func35, Try.ntmps35
  go_wp2
  go_loopw [7] (fun v wr => ∃ k : Nat, a ≤ k ∧ k ≤ b ∧ v = .int .i64 k ∧ Hid (hasC zs k b c = V) ∧ Up w wr ∧ At wr w.heap.size 29 #[.int .i64 a, .int .i64 b]) (fun v _ => b - (intOf v).toNat)
  case atStart => exact ⟨a, by omega, hab, rfl, HV, hU0, hat0⟩
  case round =>
    clear hat0 hU0
    obtain ⟨k, hak, hk, rfl, HT, hU, hat⟩ := hrel
    have c1 := hat.cell 1 _ rfl
    have hg := hat.lt
    by_cases hlt : k < b
    · obtain ⟨bb, off, rfl, hbb, hcc⟩ := (h.up hU).at_int (show k < zs.length by omega)
      have hs := hasC_step zs k b c hlt hb
      rw [HT.out] at hs
      generalize zs[k] = X at hcc hs
      obtain ⟨p, hp⟩ : ∃ p, ofP X = p := ⟨_, rfl⟩
      have hw : wd X = p.wd := by unfold wd; rw [hp]
      rw [hw] at hs
      have HC := Lib.hid (fun w => rof_y X p hp w)
      have hfb := fun w => field_wd p w
      clear hw hp
      obtain ⟨bi, cl', br, sc, jn, y, mi, pa, op⟩ := p
      simp only at hs hfb
      have HC2 : Hid (∀ w, Calls Try.prog 43 #[.int .i32 X] w fun e w' => e = .returned (.agg #[.int .i64 bi, .int .i64 cl', .int .i64 br, .int .i64 sc, .int .i64 jn, .int .i64 y, .int .i32 mi, .int .i32 pa, .bool op]) ∧ Up w w') := HC
      clear HC
      have hlt2 : (k : Int) < (b : Int) := by omega
      cases hq : (y == c) with
      | true =>
        rw [hq] at hs
        have HN : Hid (V = true) := Lib.hid (by rw [hs]; rfl)
        clear hs
        go_wp2_with (first | (go_at_call 43; refine (HC2.out _).mono ?_; rintro e u ⟨rfl, hu⟩; have hU := hU.trans hu))
        go_ret
        exact ⟨by rw [HN.out]; rfl, hU⟩
      | false =>
        rw [hq] at hs
        have HN : Hid (hasC zs (k + 1) b c = V) := Lib.hid (by rw [hs]; simp)
        clear hs
        go_wp2_with (first | (go_at_call 43; refine (HC2.out _).mono ?_; rintro e u ⟨rfl, hu⟩; have hU := hU.trans hu; have hat := hat.up hu))
        go_roundw
        case rel => exact ⟨k + 1, by omega, by omega, by go_num, HN, hU, hat⟩
        case measure => simp [intOf] <;> omega
    · obtain rfl : k = b := by omega
      have hN := HT.out
      rw [hasC_none] at hN
      have HN := Lib.hid hN
      clear hN
      go_wp2
      go_ret
      exact ⟨by rw [← HN.out]; rfl, hU⟩

set_option maxHeartbeats 2000000 in
theorem rKind_ok (A : Option Addr) (cp : Nat) (a b : Int) (zs : List Int) (w : World) (hn : zs.length ≤ 1000) (h : Has w w.heap.size A (zs.map (Value.int .i32))) :
    Calls Try.prog 17 #[.slice A zs.length cp, .agg #[.int .i64 a, .int .i64 b]] w fun e w' => e = .returned (.int .i64 (kindV zs a b)) ∧ Up w w' := by
  have hat0 := at_new w #[.int .i64 a, .int .i64 b] 29
  have hU0 : Up w (w.alloc (.cells #[.int .i64 a, .int .i64 b] 29)) := (Up.refl w).alloc _
  by_cases h1 : a < 0
  · have HV : Hid (kindV zs a b = 0) := Lib.hid (by unfold kindV; rw [if_pos (.inl h1)])
    have h1d : decide (a < 0) = true := decide_eq_true h1
    go_enter Try.func17, Try.ntmps17
    go_wp2
    go_ret
    exact ⟨by rw [HV.out]; rfl, hU0⟩
  have h1d : decide (a < 0) = false := decide_eq_false h1
  by_cases h2 : (zs.length : Int) < b
  · have HV : Hid (kindV zs a b = 0) := Lib.hid (by unfold kindV; rw [if_pos (.inr (.inr h2))])
    have h2d : decide ((zs.length : Int) < b) = true := decide_eq_true h2
    go_enter Try.func17, Try.ntmps17
    go_wp2
    go_ret
    exact ⟨by rw [HV.out]; rfl, hU0⟩
  have h2d : decide ((zs.length : Int) < b) = false := decide_eq_false h2
  by_cases h3 : b ≤ a
  · have HV : Hid (kindV zs a b = 0) := Lib.hid (by unfold kindV; rw [if_pos (.inr (.inl h3))])
    have h3d : decide (b ≤ a) = true := decide_eq_true h3
    go_enter Try.func17, Try.ntmps17
    go_wp2
    go_ret
    exact ⟨by rw [HV.out]; rfl, hU0⟩
  have h3d : decide (b ≤ a) = false := decide_eq_false h3
  have hv : kindV zs a b = kindN zs a.toNat b.toNat := by unfold kindV; rw [if_neg (by omega)]
  rw [hv]
  clear hv
  obtain ⟨x, rfl⟩ : ∃ x : Nat, a = x := ⟨a.toNat, by omega⟩
  obtain ⟨y, rfl⟩ : ∃ y : Nat, b = y := ⟨b.toNat, by omega⟩
  rw [Int.toNat_natCast, Int.toNat_natCast]
  have HK := Lib.hid (fun c w h => has_ok A cp x y c zs w hn (by omega) (by omega) h)
  have HH := Lib.hid (fun (w' : World) (hu : Up w w') => h.up hu)
  have d1 : decide ((x : Int) < 0) = false := h1d
  clear h
  unfold kindN
  cases q1 : hasC zs x y 1 with
  | true =>
    have H1 := Lib.hid (fun w h => HK.out 1 w h)
    rw [q1] at H1
    clear q1
    go_enter Try.func17, Try.ntmps17
    go_wp2_with (first | (go_at_call 35; (with_reducible refine (H1.out _ (HH.out _ hU0)).mono ?_); rintro e u ⟨rfl, hu⟩; have hU1 := hU0.trans hu; have hA1 := hat0.up hu; have c10 := hA1.cell 0 _ rfl; have c11 := hA1.cell 1 _ rfl))
    go_ret
    exact ⟨rfl, hU1⟩
  | false =>
    have H1 := Lib.hid (fun w h => HK.out 1 w h)
    rw [q1] at H1
    clear q1
    cases q2 : hasC zs x y 2 with
    | true =>
      have H2 := Lib.hid (fun w h => HK.out 2 w h)
      rw [q2] at H2
      clear q2
      go_enter Try.func17, Try.ntmps17
      go_wp2_with (first
        | (go_at_call 35; (with_reducible refine (H1.out _ (HH.out _ hU0)).mono ?_); rintro e u ⟨rfl, hu⟩; have hU1 := hU0.trans hu; have hA1 := hat0.up hu; have c10 := hA1.cell 0 _ rfl; have c11 := hA1.cell 1 _ rfl)
        | (go_at_call 35; (with_reducible refine (H2.out _ (HH.out _ hU1)).mono ?_); rintro e u ⟨rfl, hu⟩; have hU2 := hU1.trans hu; have hA2 := hA1.up hu; have c20 := hA2.cell 0 _ rfl; have c21 := hA2.cell 1 _ rfl))
      go_ret
      exact ⟨rfl, hU2⟩
    | false =>
      have H2 := Lib.hid (fun w h => HK.out 2 w h)
      rw [q2] at H2
      have H3 := Lib.hid (fun w h => HK.out 7 w h)
      clear q2
      cases q3 : hasC zs x y 7 with
      | true =>
        rw [q3] at H3
        clear q3
        go_enter Try.func17, Try.ntmps17
        go_wp2_with (first
          | (go_at_call 35; (with_reducible refine (H1.out _ (HH.out _ hU0)).mono ?_); rintro e u ⟨rfl, hu⟩; have hU1 := hU0.trans hu; have hA1 := hat0.up hu; have c10 := hA1.cell 0 _ rfl; have c11 := hA1.cell 1 _ rfl)
          | (go_at_call 35; (with_reducible refine (H2.out _ (HH.out _ hU1)).mono ?_); rintro e u ⟨rfl, hu⟩; have hU2 := hU1.trans hu; have hA2 := hA1.up hu; have c20 := hA2.cell 0 _ rfl; have c21 := hA2.cell 1 _ rfl)
          | (go_at_call 35; (with_reducible refine (H3.out _ (HH.out _ hU2)).mono ?_); rintro e u ⟨rfl, hu⟩; have hU3 := hU2.trans hu))
        go_ret
        exact ⟨rfl, hU3⟩
      | false =>
        rw [q3] at H3
        clear q3
        go_enter Try.func17, Try.ntmps17
        go_wp2_with (first
          | (go_at_call 35; (with_reducible refine (H1.out _ (HH.out _ hU0)).mono ?_); rintro e u ⟨rfl, hu⟩; have hU1 := hU0.trans hu; have hA1 := hat0.up hu; have c10 := hA1.cell 0 _ rfl; have c11 := hA1.cell 1 _ rfl)
          | (go_at_call 35; (with_reducible refine (H2.out _ (HH.out _ hU1)).mono ?_); rintro e u ⟨rfl, hu⟩; have hU2 := hU1.trans hu; have hA2 := hA1.up hu; have c20 := hA2.cell 0 _ rfl; have c21 := hA2.cell 1 _ rfl)
          | (go_at_call 35; (with_reducible refine (H3.out _ (HH.out _ hU2)).mono ?_); rintro e u ⟨rfl, hu⟩; have hU3 := hU2.trans hu))
        go_ret
        exact ⟨rfl, hU3⟩

set_option maxHeartbeats 2000000 in
theorem clo_ok (r k : Int) (g : Nat) (w : World) (hg : g < w.heap.size) (h : w.cell? ⟨g, 0, none⟩ = some (.int .i64 k)) :
    Calls Try.prog 33 #[.int .i32 r, .pointer (some ⟨g, 0, none⟩)] w fun e w' => e = .returned (.bool (wd r == k)) ∧ Up w w' := by
  have mixed : Try.prog.follows .mixedOrders = true := by kernel_rfl
  have HC := Lib.hid (fun w => wclass_ok r w)
  generalize wd r = y at *
  have hl : ∀ n os, (grow (w.drewN n) os).cell? ⟨g, 0, none⟩ = some (.int .i64 k) := fun n os => cell_grown hg h n os
  go_enter Try.func33, Try.ntmps33
  go_wp2
  go_quiet_grown ((go_at_call 34; exact Calls.grown_of ((HC.out _).mono fun _ _ ⟨he, hu⟩ => ⟨he, hu.grow⟩)))
  go_wp2
  go_ret
  exact ⟨rfl, Up.of_grow _ _ _⟩

theorem any_found (zs : List Int) (p : Int → Bool) (k : Nat) (hk : k < zs.length) (h : p zs[k] = true) : zs.any p = true := List.any_eq_true.2 ⟨zs[k], List.getElem_mem hk, h⟩
theorem any_take (zs : List Int) (p : Int → Bool) (k : Nat) (hk : k < zs.length) (h : p zs[k] = false) (h0 : (zs.take k).any p = false) : (zs.take (k + 1)).any p = false := by
  rw [List.take_add_one, List.getElem?_eq_getElem hk, List.any_append, h0]
  simp [h]

set_option maxHeartbeats 2000000 in
theorem index_ok (A : Option Addr) (c g : Nat) (kk : Int) (zs : List Int) (w : World) (hn : zs.length ≤ 1000) (h : Has w w.heap.size A (zs.map (Value.int .i32))) (hg : g < w.heap.size) (hk : w.cell? ⟨g, 0, none⟩ = some (.int .i64 kk)) :
    Calls Try.prog 45 #[.slice A zs.length c, .func (.func 33) #[] #[.pointer (some ⟨g, 0, none⟩)]] w fun e w' => (∃ r : Int, e = .returned (.int .i64 r) ∧ decide (0 ≤ r) = zs.any (fun r => wd r == kk)) ∧ Up w w' := by
  obtain ⟨p, hp⟩ : ∃ p, (fun r => wd r == kk) = p := ⟨_, rfl⟩
  rw [hp]
  have HF := Lib.hid (any_found zs p)
  have HT := Lib.hid (any_take zs p)
  have HC := Lib.hid (fun r w hg h => clo_ok r kk g w hg h)
  have HP : Hid (∀ r, (wd r == kk) = p r) := Lib.hid (fun r => congrFun hp r)
  clear hp
  have HH := Lib.hid (fun (w' : World) (hu : Up w w') => h.up hu)
  have HK := Lib.hid hk
  have HG := Lib.hid hg
  clear h hk
  go_enter Try.func45, Try.ntmps45
  go_wp2
  go_loopw [8] (fun v wr => ∃ k : Nat, k ≤ zs.length ∧ v = .int .i64 k ∧ Hid ((zs.take k).any p = false) ∧ Up w wr) (fun v _ => zs.length - (intOf v).toNat)
  case atStart => exact ⟨0, by omega, rfl, Lib.hid rfl, Up.refl _⟩
  case round =>
    obtain ⟨k, hk, rfl, HA, hU⟩ := hrel
    by_cases hlt : k < zs.length
    · obtain ⟨b, off, rfl, hb, hcc⟩ := (HH.out _ hU).at_int hlt
      have hf := HF.out k hlt
      have ht := HT.out k hlt
      generalize zs[k] = X at hcc hf ht
      have hcx := HC.out X
      rw [HP.out X] at hcx
      have HCX := Lib.hid hcx
      have hs1 := hU.1.size
      have hgr : g < wr.heap.size := by omega
      have hkr := hU.cell HK.out
      clear hcx
      cases hq : p X with
      | true =>
        rw [hq] at HCX
        have HV := Lib.hid (hf hq)
        clear hf ht hq
        go_wp2_with (first | (go_at_call 33; refine (HCX.out _ hgr hkr).mono ?_; rintro e u ⟨rfl, hu⟩; have hU := hU.trans hu))
        go_ret
        exact ⟨⟨k, rfl, by rw [HV.out]; exact decide_eq_true (by omega)⟩, hU⟩
      | false =>
        rw [hq] at HCX
        have HV := Lib.hid (ht hq HA.out)
        clear hf ht hq
        go_wp2_with (first | (go_at_call 33; refine (HCX.out _ hgr hkr).mono ?_; rintro e u ⟨rfl, hu⟩; have hU := hU.trans hu))
        go_roundw
        case rel => exact ⟨k + 1, by omega, by go_num, HV, hU⟩
        case measure => simp [intOf] <;> omega
    · obtain rfl : k = zs.length := by omega
      have hA := HA.out
      rw [List.take_length] at hA
      have HV := Lib.hid hA
      clear hA
      go_wp2
      go_ret
      exact ⟨⟨-1, rfl, by rw [HV.out]; rfl⟩, hU⟩

set_option maxHeartbeats 2000000 in
theorem contains_ok (A : Option Addr) (c g : Nat) (kk : Int) (zs : List Int) (w : World) (hn : zs.length ≤ 1000) (h : Has w w.heap.size A (zs.map (Value.int .i32))) (hg : g < w.heap.size) (hk : w.cell? ⟨g, 0, none⟩ = some (.int .i64 kk)) :
    Calls Try.prog 32 #[.slice A zs.length c, .func (.func 33) #[] #[.pointer (some ⟨g, 0, none⟩)]] w fun e w' => e = .returned (.bool (zs.any (fun r => wd r == kk))) ∧ Up w w' := by
  have HC := Lib.hid (index_ok A c g kk zs w hn h hg hk)
  clear h hg hk
  go_enter Try.func32, Try.ntmps32
  go_wp2_with (first | (go_at_call 45; (with_reducible refine HC.out.mono ?_); rintro e u ⟨⟨r, rfl, hr⟩, hu⟩))
  go_ret
  exact ⟨by rw [← hr]; rfl, hu⟩
end Go.Proofs.Ytcplhbafbjpnlaa
