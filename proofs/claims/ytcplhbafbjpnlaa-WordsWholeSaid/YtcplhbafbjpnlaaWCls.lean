/-
  Contracts of the small functions of words: a code point's Word class, letters or digits, a cluster's kind (the program's and the document's). Condition: at most 1000 code points.
-/
import Derived.Test.YtcplhbafbjpnlaaSmall
import Derived.Test.YtcplhbafbjpnlaaDrop
import Derived.Test.YtcplhbafbjpnlaaWrd
set_option linter.unusedVariables false
set_option linter.unusedSimpArgs false
namespace Go.Proofs.Ytcplhbafbjpnlaa
open Go.ChangeShapes Go.WideShapes Go.ChangeAt Go.RowKit Go.Sort

theorem field_wd (p : Pr) (w : World) : (Instr.field 53 (.agg #[.int .i64 p.bidi, .int .i64 p.cl, .int .i64 p.br, .int .i64 p.sc, .int .i64 p.jn, .int .i64 p.wd, .int .i32 p.mi, .int .i32 p.pa, .bool p.op]) 5).run Try.prog w = .ok (.int .i64 p.wd) w := by
  simp [Instr.field, go_sem, part, asAgg, Try.isAgg53]

set_option maxHeartbeats 1000000 in
theorem wclass_ok (r : Int) (w : World) : Calls Try.prog 34 #[.int .i32 r] w fun e w' => e = .returned (.int .i64 (wd r)) ∧ Up w w' := by
  obtain ⟨p, hp⟩ : ∃ p, ofP r = p := ⟨_, rfl⟩
  have hc : wd r = p.wd := by unfold wd; rw [hp]
  rw [hc]
  have HC := Lib.hid (fun w => of_x r p hp w)
  have hfb := fun w => field_wd p w
  clear hp hc
  go_enter Try.func34, Try.ntmps34
  go_wp2_with (go_at_call 46; refine (HC.out _).mono ?_; rintro e u ⟨rfl, hu⟩)
  go_ret
  exact ⟨rfl, hu⟩

theorem alnum_ok (a : Int) (w : World) : Calls Try.prog 36 #[.int .i64 a] w fun e w' => e = .returned (.bool (alB a)) ∧ w = w' := by
  unfold alB
  by_cases h1 : a = 1
  · subst h1
    go_enter Try.func36, Try.ntmps36
    go_wp2
    go_ret
    exact ⟨rfl, rfl⟩
  have e1 : (a == 1) = false := beq_eq_false_iff_ne.2 h1
  go_enter Try.func36, Try.ntmps36
  go_wp2
  go_ret
  exact ⟨by simp [e1], rfl⟩
theorem solid_ok (a : Int) (w : World) : Calls Try.prog 37 #[.int .i64 a] w fun e w' => e = .returned (.bool (alB a)) ∧ w = w' := by
  unfold alB
  by_cases h1 : a = 1
  · subst h1
    go_enter Try.func37, Try.ntmps37
    go_wp2
    go_ret
    exact ⟨rfl, rfl⟩
  have e1 : (a == 1) = false := beq_eq_false_iff_ne.2 h1
  go_enter Try.func37, Try.ntmps37
  go_wp2
  go_ret
  exact ⟨by simp [e1], rfl⟩

theorem kOf_full (zs : List Int) : kOf zs 0 zs.length = kd zs := by unfold kOf rng; simp

set_option maxHeartbeats 1000000 in
theorem kindOf_ok (A : Option Addr) (c : Nat) (zs : List Int) (w : World) (hn : zs.length ≤ 1000) (h : Has w w.heap.size A (zs.map (Value.int .i32))) :
    Calls Try.prog 40 #[.slice A zs.length c] w fun e w' => e = .returned (.int .i64 (kd zs)) ∧ Up w w' := by
  go_enter Try.func40, Try.ntmps40
  go_wp2
  go_loopw [8] (fun v wr => ∃ k : Nat, k ≤ zs.length ∧ v = .int .i64 k ∧ Hid (kOf zs k zs.length = kd zs) ∧ Up w wr) (fun v _ => zs.length - (intOf v).toNat)
  case atStart => exact ⟨0, by omega, rfl, Lib.hid (kOf_full zs), Up.refl _⟩
  case round =>
    obtain ⟨k, hk, rfl, HT, hU⟩ := hrel
    by_cases hlt : k < zs.length
    · obtain ⟨b, off, rfl, hb, hcc⟩ := (h.up hU).at_int hlt
      have hs := kOf_step zs k zs.length hlt (Nat.le_refl _)
      rw [HT.out] at hs
      generalize zs[k] = X at hcc hs
      have HC := Lib.hid (fun w => wclass_ok X w)
      generalize wd X = y at HC hs
      by_cases h6 : y = 6
      · subst h6
        rw [if_pos rfl] at hs
        have HN := Lib.hid hs
        clear hs
        go_wp2_with (go_at_call 34; refine (HC.out _).mono ?_; rintro e u ⟨rfl, hu⟩; have hU := hU.trans hu)
        go_roundw
        case rel => exact ⟨k + 1, by omega, by go_num, Lib.hid HN.out.symm, hU⟩
        case measure => simp [intOf] <;> omega
      · rw [if_neg h6] at hs
        have HN := Lib.hid hs
        clear hs
        have e6 : (y != 6) = true := bne_iff_ne.2 h6
        clear h6
        go_wp2_with (go_at_call 34; refine (HC.out _).mono ?_; rintro e u ⟨rfl, hu⟩; have hU := hU.trans hu)
        go_ret
        exact ⟨by rw [HN.out]; rfl, hU⟩
    · obtain rfl : k = zs.length := by omega
      have HN := HT.out
      rw [kOf_self] at HN
      have HN := Lib.hid HN
      go_wp2
      go_ret
      exact ⟨by rw [← HN.out]; rfl, hU⟩

/-- a part of a text -/
theorem kindOf_at (A : Option Addr) (c a b m : Nat) (zs : List Int) (w : World) (hn : zs.length ≤ 1000) (hab : a ≤ b) (hb : b ≤ zs.length) (hm : m = b - a) (h : Has w w.heap.size A ((rng zs a b).map (Value.int .i32))) :
    Calls Try.prog 40 #[.slice A m c] w fun e w' => e = .returned (.int .i64 (kOf zs a b)) ∧ Up w w' := by
  subst hm
  rw [← rng_len zs a b hab hb]
  exact kindOf_ok A c (rng zs a b) w (by rw [rng_len zs a b hab hb]; omega) h
theorem Has.rng {w : World} {B b off : Nat} {zs : List Int} (h : Has w B (some ⟨b, off, none⟩) (zs.map (Value.int .i32))) (i j : Nat) : Has w B (some ⟨b, off + i, none⟩) ((rng zs i j).map (Value.int .i32)) := by
  have := (h.drop i).front (j - i)
  rwa [← List.map_drop, ← List.map_take] at this

set_option maxHeartbeats 1000000 in
theorem rkind_ok (A : Option Addr) (c a b : Nat) (zs : List Int) (w : World) (hn : zs.length ≤ 1000) (hab : a ≤ b) (hb : b ≤ zs.length) (h : Has w w.heap.size A (zs.map (Value.int .i32))) :
    Calls Try.prog 26 #[.slice A zs.length c, .int .i64 a, .int .i64 b] w fun e w' => e = .returned (.int .i64 (kOf zs a b)) ∧ Up w w' := by
  obtain ⟨V, hV⟩ : ∃ V, kOf zs a b = V := ⟨_, rfl⟩
  rw [hV]
  have HV := Lib.hid hV
  clear hV
  go_enter Try.func26, Try.ntmps26
  go_wp2
  go_loopw [7] (fun v wr => ∃ k : Nat, a ≤ k ∧ k ≤ b ∧ v = .int .i64 k ∧ Hid (kOf zs k b = V) ∧ Up w wr) (fun v _ => b - (intOf v).toNat)
  case atStart => exact ⟨a, by omega, hab, rfl, HV, Up.refl _⟩
  case round =>
    obtain ⟨k, hak, hk, rfl, HT, hU⟩ := hrel
    by_cases hlt : k < b
    · obtain ⟨b', off, rfl, hb', hcc⟩ := (h.up hU).at_int (show k < zs.length by omega)
      have hs := kOf_step zs k b hlt hb
      rw [HT.out] at hs
      generalize zs[k] = X at hcc hs
      obtain ⟨p, hp⟩ : ∃ p, ofP X = p := ⟨_, rfl⟩
      have hw : wd X = p.wd := by unfold wd; rw [hp]
      rw [hw] at hs
      have HC := Lib.hid (fun w => rof_y X p hp w)
      have hfb := fun w => field_wd p w
      clear hw hp
      obtain ⟨bi, cl', br, sc, jn, y, mi, pa, op⟩ := p
      simp only at hs hfb
      have HC2 : Hid (∀ w, Calls Try.prog 43 #[.int .i32 X] w fun e w' => e = .returned (.agg #[.int .i64 bi, .int .i64 cl', .int .i64 br, .int .i64 sc, .int .i64 jn, .int .i64 y, .int .i32 mi, .int .i32 pa, .bool op]) ∧ Up w w') := HC
      clear HC
      by_cases h6 : y = 6
      · subst h6
        rw [if_pos rfl] at hs
        have HN := Lib.hid hs
        clear hs
        go_wp2_with (go_at_call 43; refine (HC2.out _).mono ?_; rintro e u ⟨rfl, hu⟩; have hU := hU.trans hu)
        go_roundw
        case rel => exact ⟨k + 1, by omega, by omega, by go_num, Lib.hid HN.out.symm, hU⟩
        case measure => simp [intOf] <;> omega
      · rw [if_neg h6] at hs
        have HN := Lib.hid hs
        clear hs
        have e6 : (y != 6) = true := bne_iff_ne.2 h6
        clear h6
        go_wp2_with (go_at_call 43; refine (HC2.out _).mono ?_; rintro e u ⟨rfl, hu⟩; have hU := hU.trans hu)
        go_ret
        exact ⟨by rw [HN.out]; rfl, hU⟩
    · obtain rfl : k = b := by omega
      have HN := HT.out
      rw [kOf_self] at HN
      have HN := Lib.hid HN
      go_wp2
      go_ret
      exact ⟨by rw [← HN.out]; rfl, hU⟩
end Go.Proofs.Ytcplhbafbjpnlaa
