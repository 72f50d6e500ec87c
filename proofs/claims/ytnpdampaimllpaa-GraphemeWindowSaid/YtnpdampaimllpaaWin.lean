/-
  Contracts of Window, the program's and the document's. Condition: at most 1000 code points.
-/
import Derived.Test.YtnpdampaimllpaaStep
set_option linter.unusedVariables false
namespace Go.Proofs.Ytnpdampaimllpaa
open Go.ChangeShapes Go.WideShapes Go.ChangeAt Go.RowKit

theorem cls_drop (zs : List Int) (k : Nat) : cls (zs.drop k) = (cls zs).drop k := by unfold cls; rw [List.map_drop]
/-- a slice from a place on reads as what is left -/
theorem Has.drop {w : World} {B b off : Nat} {xs : List Value} (h : Has w B (some ⟨b, off, none⟩) xs) (k : Nat) : Has w B (some ⟨b, off + k, none⟩) (xs.drop k) := fun hne => by
  obtain ⟨b', off', e, hl, hc⟩ := h (fun e => hne (by rw [e]; simp))
  injection e with e; injection e with e1 e2; subst e1; subst e2
  refine ⟨b, off + k, rfl, hl, fun j u hu => ?_⟩
  rw [List.getElem?_drop] at hu
  have := hc (k + j) u hu
  rwa [show off + (k + j) = off + k + j by omega] at this
theorem run6_at (A : Option Addr) (c k m : Nat) (zs : List Int) (w : World) (hn : zs.length ≤ 1000) (hm : m = zs.length - k) (h : Has w w.heap.size A ((zs.drop k).map (Value.int .i32))) :
    Calls Try.prog 28 #[.slice A m c, .func (.func 29) #[] #[]] w fun e w' => (∃ r : Nat, e = .returned (.int .i64 r) ∧ Runs (fun a => a == 6) ((cls zs).drop k) r) ∧ Up w w' := by
  rw [← cls_drop, hm, ← List.length_drop]
  exact run6_ok A c (zs.drop k) w (by rw [List.length_drop]; omega) h
theorem runA_at (A : Option Addr) (c k m : Nat) (zs : List Int) (w : World) (hn : zs.length ≤ 1000) (hm : m = zs.length - k) (h : Has w w.heap.size A ((zs.drop k).map (Value.int .i32))) :
    Calls Try.prog 28 #[.slice A m c, .func (.func 30) #[] #[]] w fun e w' => (∃ r : Nat, e = .returned (.int .i64 r) ∧ Runs attB ((cls zs).drop k) r) ∧ Up w w' := by
  rw [← cls_drop, hm, ← List.length_drop]
  exact runA_ok A c (zs.drop k) w (by rw [List.length_drop]; omega) h
theorem Runs.pos {p : Int → Bool} {L : List Int} {m r : Nat} (h : Runs p (L.drop m) r) (hm : m < L.length) (hp : p (g L m) = true) : 0 < r := by
  rcases Nat.eq_zero_or_pos r with h0 | h0
  · exfalso
    rcases h.2.2 with h3 | h3
    · rw [List.length_drop] at h3; omega
    · rw [h0, g_drop, Nat.add_zero, hp] at h3; cases h3
  · exact h0
theorem Runs.zero {p : Int → Bool} {L : List Int} {m r : Nat} (h : Runs p (L.drop m) r) (hp : p (g L m) = false) : r = 0 := by
  rcases Nat.eq_zero_or_pos r with h0 | h0
  · exact h0
  · have := h.2.1 0 h0
    rw [g_drop, Nat.add_zero, hp] at this; cases this
theorem Runs.le {p : Int → Bool} {L : List Int} {m r : Nat} (h : Runs p (L.drop m) r) : r ≤ L.length - m := by
  have := h.1
  rwa [List.length_drop] at this
def WinOf (L : List Int) (i : Int) (e : Ending) : Prop := ∃ a b : Int, e = .returned (.tuple #[.int .i64 a, .int .i64 b]) ∧ WinV L i a b
theorem WinOf.out_ {L : List Int} {i : Int} {e : Ending} (he : e = .returned (.tuple #[.int .i64 0, .int .i64 0])) (h : ¬ (0 ≤ i ∧ i ≤ L.length)) : WinOf L i e :=
  ⟨0, 0, he, fun _ => ⟨rfl, rfl⟩, fun m h1 h2 => absurd ⟨by omega, by omega⟩ h⟩
theorem WinOf.six {L : List Int} {m r : Nat} {e : Ending} (he : e = .returned (.tuple #[.int .i64 m, .int .i64 ((m : Int) + r)])) (hr : Runs (fun a => a == 6) (L.drop m) r) (h0 : 0 < r) (hm : m ≤ L.length) : WinOf L m e :=
  ⟨m, (m : Int) + r, he, fun h => absurd ⟨by omega, by omega⟩ h, fun k h1 h2 => by
    obtain rfl : m = k := by omega
    exact ⟨rfl, r, hr, fun _ => rfl, fun h => by omega⟩⟩
theorem WinOf.att {L : List Int} {m s : Nat} {e : Ending} (he : e = .returned (.tuple #[.int .i64 m, .int .i64 ((m : Int) + s)])) (hr : Runs (fun a => a == 6) (L.drop m) 0) (hs : Runs attB (L.drop m) s) (hm : m ≤ L.length) : WinOf L m e :=
  ⟨m, (m : Int) + s, he, fun h => absurd ⟨by omega, by omega⟩ h, fun k h1 h2 => by
    obtain rfl : m = k := by omega
    exact ⟨rfl, 0, hr, fun h => by omega, fun _ => ⟨s, hs, rfl⟩⟩⟩

set_option maxHeartbeats 1000000 in
theorem win_ok (A : Option Addr) (c : Nat) (i : Int) (zs : List Int) (w : World) (hn : zs.length ≤ 1000) (hc : zs.length ≤ c) (h : Has w w.heap.size A (zs.map (Value.int .i32))) :
    Calls Try.prog 16 #[.slice A zs.length c, .int .i64 i] w fun e w' => WinOf (cls zs) i e ∧ Up w w' := by
  have hL := cls_len zs
  by_cases h1 : i < 0
  · go_enter Try.func16, Try.ntmps16
    go_wp2
    go_ret2
    exact ⟨WinOf.out_ rfl (by omega), Up.refl _⟩
  by_cases h2 : (zs.length : Int) < i
  · go_enter Try.func16, Try.ntmps16
    go_wp2
    go_ret2
    exact ⟨WinOf.out_ rfl (by omega), Up.refl _⟩
  obtain ⟨m, rfl⟩ : ∃ m : Nat, i = m := ⟨i.toNat, by omega⟩
  have hm : m ≤ zs.length := by omega
  clear h1 h2
  have HL := Lib.hid hL
  clear hL
  by_cases hml : m = zs.length
  · subst hml
    have hnil : zs.drop zs.length = [] := List.drop_length ..
    have H6 : Hid (∀ A c w, Calls Try.prog 28 #[.slice A 0 c, .func (.func 29) #[] #[]] w fun e w' => (e = .returned (.int .i64 0) ∧ Hid (Runs (fun a => a == 6) ((cls zs).drop zs.length) 0)) ∧ Up w w') := Lib.hid (fun A c w => (run6_at A c zs.length 0 zs w hn (by omega) (by rw [hnil]; exact Has.nil_)).mono fun e w' ⟨⟨r, he, hr⟩, hu⟩ => by
        have h0 : r = 0 := by have := hr.le; rw [HL.out] at this; omega
        subst h0
        exact ⟨⟨he, Lib.hid hr⟩, hu⟩)
    have HA : Hid (∀ A c w, Calls Try.prog 28 #[.slice A 0 c, .func (.func 30) #[] #[]] w fun e w' => (e = .returned (.int .i64 0) ∧ Hid (Runs attB ((cls zs).drop zs.length) 0)) ∧ Up w w') := Lib.hid (fun A c w => (runA_at A c zs.length 0 zs w hn (by omega) (by rw [hnil]; exact Has.nil_)).mono fun e w' ⟨⟨r, he, hr⟩, hu⟩ => by
        have h0 : r = 0 := by have := hr.le; rw [HL.out] at this; omega
        subst h0
        exact ⟨⟨he, Lib.hid hr⟩, hu⟩)
    clear hnil h
    by_cases hcm : c = zs.length
    · subst hcm
      go_enter Try.func16, Try.ntmps16
      go_wp2_with (go_at_call 28; first | (with_reducible refine (H6.out _ _ _).mono ?_; rintro e u ⟨⟨rfl, HR⟩, hu⟩) | (with_reducible refine (HA.out _ _ _).mono ?_; rintro e u2 ⟨⟨rfl, HT⟩, hu2⟩))
      go_ret2
      exact ⟨WinOf.att (s := 0) (by rw [show ((zs.length : Nat) : Int) + (0 : Nat) = zs.length by omega]; rfl) HR.out HT.out (by have := HL.out; omega), hu.trans hu2⟩
    · go_enter Try.func16, Try.ntmps16
      go_wp2_with (go_at_call 28; first | (with_reducible refine (H6.out _ _ _).mono ?_; rintro e u ⟨⟨rfl, HR⟩, hu⟩) | (with_reducible refine (HA.out _ _ _).mono ?_; rintro e u2 ⟨⟨rfl, HT⟩, hu2⟩))
      go_ret2
      exact ⟨WinOf.att (s := 0) (by rw [show ((zs.length : Nat) : Int) + (0 : Nat) = zs.length by omega]; rfl) HR.out HT.out (by have := HL.out; omega), hu.trans hu2⟩
  have hlt : m < zs.length := by omega
  obtain ⟨b, off, rfl, hb, hcc⟩ := h.at_int hlt
  have hcm : ¬ c = m := by omega
  have hd := h.drop m
  rw [← List.map_drop] at hd
  have H6 := Lib.hid (fun A c w h => run6_at A c m (zs.length - m) zs w hn rfl h)
  have HA := Lib.hid (fun A c w h => runA_at A c m (zs.length - m) zs w hn rfl h)
  clear hcc h
  have hg := g_cls zs m hlt
  by_cases h6 : (cl zs[m] == 6) = true
  · have H6' : Hid (∀ A c w, Has w w.heap.size A ((zs.drop m).map (Value.int .i32)) → Calls Try.prog 28 #[.slice A (zs.length - m) c, .func (.func 29) #[] #[]] w fun e w' => (∃ r : Nat, e = .returned (.int .i64 r) ∧ 0 < r ∧ r ≤ zs.length - m ∧ Hid (Runs (fun a => a == 6) ((cls zs).drop m) r)) ∧ Up w w') := Lib.hid (fun A c w h => (H6.out A c w h).mono fun e w' ⟨⟨r, he, hr⟩, hu⟩ => ⟨⟨r, he, hr.pos (by rw [HL.out]; exact hlt) (by rw [hg]; exact h6), by have := hr.le; rwa [HL.out] at this, Lib.hid hr⟩, hu⟩)
    clear H6 HA hg h6
    go_enter Try.func16, Try.ntmps16
    go_wp2_with (go_at_call 28; with_reducible refine (H6'.out _ _ _ hd).mono ?_; rintro e u ⟨⟨r, rfl, hr0, hrl, HR⟩, hu⟩)
    go_ret2
    exact ⟨WinOf.six rfl HR.out hr0 (by rw [HL.out]; exact hm), hu⟩
  · have H6' : Hid (∀ A c w, Has w w.heap.size A ((zs.drop m).map (Value.int .i32)) → Calls Try.prog 28 #[.slice A (zs.length - m) c, .func (.func 29) #[] #[]] w fun e w' => (e = .returned (.int .i64 0) ∧ Hid (Runs (fun a => a == 6) ((cls zs).drop m) 0)) ∧ Up w w') := Lib.hid (fun A c w h => (H6.out A c w h).mono fun e w' ⟨⟨r, he, hr⟩, hu⟩ => by
        have h0 : r = 0 := hr.zero (by rw [hg]; simpa using h6)
        subst h0
        exact ⟨⟨he, Lib.hid hr⟩, hu⟩)
    have HA' : Hid (∀ A c w, Has w w.heap.size A ((zs.drop m).map (Value.int .i32)) → Calls Try.prog 28 #[.slice A (zs.length - m) c, .func (.func 30) #[] #[]] w fun e w' => (∃ r : Nat, e = .returned (.int .i64 r) ∧ r ≤ zs.length - m ∧ Hid (Runs attB ((cls zs).drop m) r)) ∧ Up w w') := Lib.hid (fun A c w h => (HA.out A c w h).mono fun e w' ⟨⟨r, he, hr⟩, hu⟩ => ⟨⟨r, he, by have := hr.le; rwa [HL.out] at this, Lib.hid hr⟩, hu⟩)
    clear H6 HA hg h6
    go_enter Try.func16, Try.ntmps16
    go_wp2_with (go_at_call 28; first | (with_reducible refine (H6'.out _ _ _ hd).mono ?_; rintro e u ⟨⟨rfl, HR⟩, hu⟩) | (with_reducible refine (HA'.out _ _ _ (hd.up hu)).mono ?_; rintro e u2 ⟨⟨s, rfl, hsl, HS⟩, hu2⟩))
    go_ret2
    exact ⟨WinOf.att rfl HR.out HS.out (by rw [HL.out]; exact hm), hu.trans hu2⟩

set_option maxHeartbeats 1000000 in
theorem rwin_ok (A : Option Addr) (c : Nat) (i : Int) (zs : List Int) (w : World) (hn : zs.length ≤ 1000) (h : Has w w.heap.size A (zs.map (Value.int .i32))) :
    Calls Try.prog 17 #[.slice A zs.length c, .int .i64 i] w fun e w' => WinOf (cls zs) i e ∧ Up w w' := by
  have hL := cls_len zs
  by_cases h1 : i < 0
  · go_enter Try.func17, Try.ntmps17
    go_wp2
    go_ret2
    exact ⟨WinOf.out_ rfl (by omega), Up.refl _⟩
  by_cases h2 : (zs.length : Int) < i
  · go_enter Try.func17, Try.ntmps17
    go_wp2
    go_ret2
    exact ⟨WinOf.out_ rfl (by omega), Up.refl _⟩
  obtain ⟨m, rfl⟩ : ∃ m : Nat, i = m := ⟨i.toNat, by omega⟩
  have hm : m ≤ zs.length := by omega
  clear h1 h2
  have HL := Lib.hid hL
  clear hL
  have hd1 : decide ((m : Int) < 0) = false := decide_eq_false (by omega)
  have hd3 : decide (zs.length < m) = false := decide_eq_false (by omega)
  go_enter Try.func17, Try.ntmps17
  go_wp2
  go_loopw [6] (fun v wr => ∃ k : Nat, m ≤ k ∧ k ≤ zs.length ∧ v = .int .i64 k ∧ Hid (∀ j, m ≤ j → j < k → g (cls zs) j = 6) ∧ Up w wr) (fun v _ => zs.length - (intOf v).toNat)
  case atStart => exact ⟨m, by omega, hm, rfl, Lib.hid (fun j h1 h2 => absurd h1 (by omega)), Up.refl _⟩
  case round =>
    obtain ⟨k, hmk, hk, rfl, HT, hU⟩ := hrel
    by_cases hmore : ∃ (h : k < zs.length), cl zs[k] = 6
    · obtain ⟨hlt, h6⟩ := hmore
      obtain ⟨b, off, rfl, hb, hcc⟩ := (h.up hU).at_int hlt
      have HQ := Lib.hid (show g (cls zs) k = 6 by rw [g_cls zs k hlt]; exact h6)
      generalize zs[k] = X at hcc h6
      go_wp2_with (go_at_call 31; refine (rclass_ok _ _).mono ?_; rintro e u ⟨rfl, hu⟩; have hU := hU.trans hu; rw [h6])
      go_roundw
      case rel => exact ⟨k + 1, by omega, by omega, by go_num, Lib.hid (fun j h1 h2 => by
          rcases Nat.lt_or_ge j k with h3 | h3
          · exact HT.out j h1 h3
          · obtain rfl : j = k := by omega
            exact HQ.out), hU⟩
      case measure => simp [intOf] <;> omega
    · -- the run of Regionals ends here
      have HR : Hid (Runs (fun a => a == 6) ((cls zs).drop m) (k - m)) := Lib.hid ⟨by rw [List.length_drop, HL.out]; omega, fun j hj => by rw [g_drop, HT.out (m + j) (by omega) (by omega)]; rfl, by
        rw [List.length_drop, HL.out, g_drop, show m + (k - m) = k by omega]
        by_cases hlt : k < zs.length
        · right
          rw [g_cls zs k hlt]
          exact beq_eq_false_iff_ne.2 (fun h => hmore ⟨hlt, h⟩)
        · left; omega⟩
      clear HT
      by_cases hkm : m < k
      · have hkm' : ¬ k ≤ m := by omega
        by_cases hlt : k < zs.length
        · obtain ⟨b, off, rfl, hb, hcc⟩ := (h.up hU).at_int hlt
          have h6 : ¬ cl zs[k] = 6 := fun h => hmore ⟨hlt, h⟩
          have HC := Lib.hid (fun w => rclass_ok zs[k] w)
          clear hmore
          generalize zs[k] = X at hcc h6 HC
          generalize cl X = y at h6 HC
          have e6 : (y == 6) = false := beq_eq_false_iff_ne.2 h6
          go_wp2_with (go_at_call 31; refine (HC.out _).mono ?_; rintro e u ⟨rfl, hu⟩; have hU := hU.trans hu)
          go_ret2
          exact ⟨WinOf.six (r := k - m) (by rw [show (m : Int) + (k - m : Nat) = k by omega]; rfl) HR.out (by omega) (by rw [HL.out]; exact hm), hU⟩
        · obtain rfl : k = zs.length := by omega
          clear hmore
          go_wp2
          go_ret2
          exact ⟨WinOf.six (r := zs.length - m) (by rw [show (m : Int) + (zs.length - m : Nat) = zs.length by omega]; rfl) HR.out (by omega) (by rw [HL.out]; exact hm), hU⟩
      · obtain rfl : k = m := by omega
        rw [Nat.sub_self] at HR
        by_cases hlt : k < zs.length
        · obtain ⟨b, off, rfl, hb, hcc⟩ := (h.up hU).at_int hlt
          have h6 : ¬ cl zs[k] = 6 := fun h => hmore ⟨hlt, h⟩
          have HC := Lib.hid (fun w => rclass_ok zs[k] w)
          clear hmore
          generalize zs[k] = X at hcc h6 HC
          generalize cl X = y at h6 HC
          have e6 : (y == 6) = false := beq_eq_false_iff_ne.2 h6
          go_wp2_with (go_at_call 31; refine (HC.out _).mono ?_; rintro e u ⟨rfl, hu⟩; have hU := hU.trans hu)
          have HUk := Lib.hid hU
          go_loopw [6] (fun v wr => ∃ q : Nat, k ≤ q ∧ q ≤ zs.length ∧ v = .int .i64 q ∧ Hid (∀ j, k ≤ j → j < q → attB (g (cls zs) j) = true) ∧ Up w wr) (fun v _ => zs.length - (intOf v).toNat)
          case atStart => exact ⟨k, by omega, hk, rfl, Lib.hid (fun j h1 h2 => absurd h1 (by omega)), hU⟩
          case round =>
            clear hU
            obtain ⟨q, hkq, hq, rfl, HT, hU⟩ := hrel
            by_cases hlq : q < zs.length
            · obtain ⟨b, off, hAe, hb, hcc⟩ := (h.up hU).at_int hlq
              cases hAe
              have hg := g_cls zs q hlq
              have HC := Lib.hid (fun w => rclass_ok zs[q] w)
              generalize zs[q] = X at hcc hg HC
              generalize cl X = y at hg HC
              by_cases h4 : y = 4
              · subst h4
                have HQ := Lib.hid (show attB (g (cls zs) q) = true by rw [hg]; rfl)
                clear hg
                go_wp2_with (go_at_call 31; refine (HC.out _).mono ?_; rintro e u ⟨rfl, hu⟩; have hU := hU.trans hu)
                go_roundw
                case rel => exact ⟨q + 1, by omega, by omega, by go_num, Lib.hid (fun j h1 h2 => by
                    rcases Nat.lt_or_ge j q with h3 | h3
                    · exact HT.out j h1 h3
                    · obtain rfl : j = q := by omega
                      exact HQ.out), hU⟩
                case measure => simp [intOf] <;> omega
              · by_cases h5 : y = 5
                · subst h5
                  have HQ := Lib.hid (show attB (g (cls zs) q) = true by rw [hg]; rfl)
                  clear hg
                  go_wp2_with (go_at_call 31; refine (HC.out _).mono ?_; rintro e u ⟨rfl, hu⟩; have hU := hU.trans hu; have hcc := hu.cell hcc)
                  go_roundw
                  case rel => exact ⟨q + 1, by omega, by omega, by go_num, Lib.hid (fun j h1 h2 => by
                      rcases Nat.lt_or_ge j q with h3 | h3
                      · exact HT.out j h1 h3
                      · obtain rfl : j = q := by omega
                        exact HQ.out), hU⟩
                  case measure => simp [intOf] <;> omega
                · have e4 : (y == 4) = false := beq_eq_false_iff_ne.2 h4
                  have e5 : (y == 5) = false := beq_eq_false_iff_ne.2 h5
                  have HQ := Lib.hid (show attB (g (cls zs) q) = false by rw [hg]; unfold attB; rw [e4, e5]; rfl)
                  have HS : Hid (Runs attB ((cls zs).drop k) (q - k)) := Lib.hid ⟨by rw [List.length_drop, HL.out]; omega, fun j hj => by rw [g_drop, HT.out (k + j) (by omega) (by omega)], .inr (by rw [g_drop, show k + (q - k) = q by omega]; exact HQ.out)⟩
                  clear hg HT
                  go_wp2_with (go_at_call 31; refine (HC.out _).mono ?_; rintro e u ⟨rfl, hu⟩; have hU := hU.trans hu; have hcc := hu.cell hcc)
                  go_ret2
                  exact ⟨WinOf.att (s := q - k) (by rw [show (k : Int) + (q - k : Nat) = q by omega]; rfl) HR.out HS.out (by rw [HL.out]; exact hm), hU⟩
            · obtain rfl : q = zs.length := by omega
              have HS : Hid (Runs attB ((cls zs).drop k) (zs.length - k)) := Lib.hid ⟨by rw [List.length_drop, HL.out]; omega, fun j hj => by rw [g_drop, HT.out (k + j) (by omega) (by omega)], .inl (by rw [List.length_drop, HL.out])⟩
              clear HT
              go_wp2
              go_ret2
              exact ⟨WinOf.att (s := zs.length - k) (by rw [show (k : Int) + (zs.length - k : Nat) = zs.length by omega]; rfl) HR.out HS.out (by rw [HL.out]; exact hm), hU⟩
        · have hkn : ¬ (k : Int) < zs.length := by omega
          have hkd : decide ((k : Int) < zs.length) = false := decide_eq_false hkn
          have hkd2 : decide (k < zs.length) = false := decide_eq_false (by omega)
          clear hmore
          go_wp2
          have HUk := Lib.hid hU
          go_loopw [6] (fun v wr => ∃ q : Nat, k ≤ q ∧ q ≤ zs.length ∧ v = .int .i64 q ∧ Hid (∀ j, k ≤ j → j < q → attB (g (cls zs) j) = true) ∧ Up w wr) (fun v _ => zs.length - (intOf v).toNat)
          case atStart => exact ⟨k, by omega, hk, rfl, Lib.hid (fun j h1 h2 => absurd h1 (by omega)), hU⟩
          case round =>
            clear hU
            obtain ⟨q, hkq, hq, rfl, HT, hU⟩ := hrel
            by_cases hlq : q < zs.length
            · obtain ⟨b, off, hAe, hb, hcc⟩ := (h.up hU).at_int hlq
              cases hAe
              have hg := g_cls zs q hlq
              have HC := Lib.hid (fun w => rclass_ok zs[q] w)
              generalize zs[q] = X at hcc hg HC
              generalize cl X = y at hg HC
              by_cases h4 : y = 4
              · subst h4
                have HQ := Lib.hid (show attB (g (cls zs) q) = true by rw [hg]; rfl)
                clear hg
                go_wp2_with (go_at_call 31; refine (HC.out _).mono ?_; rintro e u ⟨rfl, hu⟩; have hU := hU.trans hu)
                go_roundw
                case rel => exact ⟨q + 1, by omega, by omega, by go_num, Lib.hid (fun j h1 h2 => by
                    rcases Nat.lt_or_ge j q with h3 | h3
                    · exact HT.out j h1 h3
                    · obtain rfl : j = q := by omega
                      exact HQ.out), hU⟩
                case measure => simp [intOf] <;> omega
              · by_cases h5 : y = 5
                · subst h5
                  have HQ := Lib.hid (show attB (g (cls zs) q) = true by rw [hg]; rfl)
                  clear hg
                  go_wp2_with (go_at_call 31; refine (HC.out _).mono ?_; rintro e u ⟨rfl, hu⟩; have hU := hU.trans hu; have hcc := hu.cell hcc)
                  go_roundw
                  case rel => exact ⟨q + 1, by omega, by omega, by go_num, Lib.hid (fun j h1 h2 => by
                      rcases Nat.lt_or_ge j q with h3 | h3
                      · exact HT.out j h1 h3
                      · obtain rfl : j = q := by omega
                        exact HQ.out), hU⟩
                  case measure => simp [intOf] <;> omega
                · have e4 : (y == 4) = false := beq_eq_false_iff_ne.2 h4
                  have e5 : (y == 5) = false := beq_eq_false_iff_ne.2 h5
                  have HQ := Lib.hid (show attB (g (cls zs) q) = false by rw [hg]; unfold attB; rw [e4, e5]; rfl)
                  have HS : Hid (Runs attB ((cls zs).drop k) (q - k)) := Lib.hid ⟨by rw [List.length_drop, HL.out]; omega, fun j hj => by rw [g_drop, HT.out (k + j) (by omega) (by omega)], .inr (by rw [g_drop, show k + (q - k) = q by omega]; exact HQ.out)⟩
                  clear hg HT
                  go_wp2_with (go_at_call 31; refine (HC.out _).mono ?_; rintro e u ⟨rfl, hu⟩; have hU := hU.trans hu; have hcc := hu.cell hcc)
                  go_ret2
                  exact ⟨WinOf.att (s := q - k) (by rw [show (k : Int) + (q - k : Nat) = q by omega]; rfl) HR.out HS.out (by rw [HL.out]; exact hm), hU⟩
            · obtain rfl : q = zs.length := by omega
              have HS : Hid (Runs attB ((cls zs).drop k) (zs.length - k)) := Lib.hid ⟨by rw [List.length_drop, HL.out]; omega, fun j hj => by rw [g_drop, HT.out (k + j) (by omega) (by omega)], .inl (by rw [List.length_drop, HL.out])⟩
              clear HT
              go_wp2
              go_ret2
              exact ⟨WinOf.att (s := zs.length - k) (by rw [show (k : Int) + (zs.length - k : Nat) = zs.length by omega]; rfl) HR.out HS.out (by rw [HL.out]; exact hm), hU⟩
end Go.Proofs.Ytnpdampaimllpaa
