/-
  Contract of the program's Kind. Condition: at most 1000 code points.
-/
import Derived.Test.YtcplhbafbjpnlaaWKnd
set_option linter.unusedVariables false
set_option linter.unusedSimpArgs false
namespace Go.Proofs.Ytcplhbafbjpnlaa
open Go.ChangeShapes Go.WideShapes Go.ChangeAt Go.RowKit Go.Sort

theorem idx0 (w : World) : (Instr.index 45 (.agg #[.int .i64 1, .int .i64 2, .int .i64 7]) (.int .i64 0)).run Try.prog w = .ok (.int .i64 1) w := by
  have a3 := Try.isAgg3
  have z3 := Try.sizeOf3
  simp [Instr.index, run_underlying Try.underlying45, asIntOf, part, Sem.run_bind, a3, z3, go_sem, Result.andThen]
theorem idx1 (w : World) : (Instr.index 45 (.agg #[.int .i64 1, .int .i64 2, .int .i64 7]) (.int .i64 1)).run Try.prog w = .ok (.int .i64 2) w := by
  have a3 := Try.isAgg3
  have z3 := Try.sizeOf3
  simp [Instr.index, run_underlying Try.underlying45, asIntOf, part, Sem.run_bind, a3, z3, go_sem, Result.andThen]
theorem idx2 (w : World) : (Instr.index 45 (.agg #[.int .i64 1, .int .i64 2, .int .i64 7]) (.int .i64 2)).run Try.prog w = .ok (.int .i64 7) w := by
  have a3 := Try.isAgg3
  have z3 := Try.sizeOf3
  simp [Instr.index, run_underlying Try.underlying45, asIntOf, part, Sem.run_bind, a3, z3, go_sem, Result.andThen]

set_option maxHeartbeats 4000000 in
theorem wKind_ok (A : Option Addr) (cp : Nat) (a b : Int) (zs : List Int) (w : World) (hn : zs.length ≤ 1000) (hc : zs.length ≤ cp) (h : Has w w.heap.size A (zs.map (Value.int .i32))) :
    Calls Try.prog 16 #[.slice A zs.length cp, .agg #[.int .i64 a, .int .i64 b]] w fun e w' => e = .returned (.int .i64 (kindV zs a b)) ∧ Up w w' := by
  have hat0 := at_new w #[.int .i64 a, .int .i64 b] 29
  have hU0 : Up w (w.alloc (.cells #[.int .i64 a, .int .i64 b] 29)) := (Up.refl w).alloc _
  by_cases h1 : a < 0
  · have HV : Hid (kindV zs a b = 0) := Lib.hid (by unfold kindV; rw [if_pos (.inl h1)])
    have h1d : decide (a < 0) = true := decide_eq_true h1
    go_enter Try.func16, Try.ntmps16
    go_wp2
    go_ret
    exact ⟨by rw [HV.out]; rfl, hU0⟩
  have h1d : decide (a < 0) = false := decide_eq_false h1
  by_cases h3 : b ≤ a
  · have HV : Hid (kindV zs a b = 0) := Lib.hid (by unfold kindV; rw [if_pos (.inr (.inl h3))])
    have h3d : decide (b ≤ a) = true := decide_eq_true h3
    go_enter Try.func16, Try.ntmps16
    go_wp2
    go_ret
    exact ⟨by rw [HV.out]; rfl, hU0⟩
  have h3d : decide (b ≤ a) = false := decide_eq_false h3
  by_cases h2 : (zs.length : Int) < b
  · have HV : Hid (kindV zs a b = 0) := Lib.hid (by unfold kindV; rw [if_pos (.inr (.inr h2))])
    have h2d : decide ((zs.length : Int) < b) = true := decide_eq_true h2
    go_enter Try.func16, Try.ntmps16
    go_wp2
    go_ret
    exact ⟨by rw [HV.out]; rfl, hU0⟩
  have h2d : decide ((zs.length : Int) < b) = false := decide_eq_false h2
  have hv : kindV zs a b = kindN zs a.toNat b.toNat := by unfold kindV; rw [if_neg (by omega)]
  rw [hv]
  clear hv
  obtain ⟨x, rfl⟩ : ∃ x : Nat, a = x := ⟨a.toNat, by omega⟩
  obtain ⟨y, rfl⟩ : ∃ y : Nat, b = y := ⟨b.toNat, by omega⟩
  rw [Int.toNat_natCast, Int.toNat_natCast]
  have hxy : x < y := by omega
  have hyn : y ≤ zs.length := by omega
  obtain ⟨bb, off, rfl, hbb, hzc⟩ := h.at_int (show x < zs.length by omega)
  have HH := Lib.hid (fun (w' : World) (hu : Up w w') => (h.up hu).rng x y)
  have HK := Lib.hid (fun kk g w h hg hk => contains_ok (some ⟨bb, off + x, none⟩) (cp - x) g kk (rng zs x y) w (by rw [rng_len zs x y (by omega) hyn]; omega) h hg hk)
  simp only [rng_len zs x y (by omega) hyn] at HK
  have hE : ∀ c, (rng zs x y).any (fun r => wd r == c) = hasC zs x y c := fun c => rfl
  simp only [hE] at HK
  have hcx : ¬ cp = x := by omega
  have hyc : y ≤ cp := by omega
  have g1 : decide (y ≤ x) = false := decide_eq_false (by omega)
  have g2 : decide (zs.length < y) = false := decide_eq_false (by omega)
  clear h hzc hE h1 h2 h3
  obtain ⟨V, hV⟩ : ∃ V, kindN zs x y = V := ⟨_, rfl⟩
  rw [hV]
  unfold kindN at hV
  have HV := Lib.hid hV
  clear hV
  generalize hasC zs x y = p at *
  go_enter Try.func16, Try.ntmps16
  go_wp2
  clear h1d h2d h3d g1 g2
  go_loopw [25] (fun v wr => ∃ k : Nat, k ≤ 3 ∧ v = .int .i64 k ∧ Hid (k = 0 ∨ (k = 1 ∧ p 1 = false) ∨ (k = 2 ∧ p 1 = false ∧ p 2 = false) ∨ (k = 3 ∧ p 1 = false ∧ p 2 = false ∧ p 7 = false)) ∧ Up w wr ∧ At wr w.heap.size 29 #[.int .i64 x, .int .i64 y]) (fun v _ => 3 - (intOf v).toNat)
  case atStart => exact ⟨0, by omega, rfl, Lib.hid (.inl rfl), hU0, hat0⟩
  case round =>
    clear hat0 hU0
    obtain ⟨k, hk, rfl, HF, hU, hat⟩ := hrel
    have c0 := hat.cell 0 _ rfl
    have c1 := hat.cell 1 _ rfl
    have hlt := hat.lt
    have i0 := idx0
    have i1 := idx1
    have i2 := idx2
    have hAb := fun kk : Int => (hat.alloc (.cells #[.int .i64 kk] 3))
    have hUb := fun kk : Int => hU.alloc (.cells #[.int .i64 kk] 3)
    rcases HF.out with hk0 | ⟨hk0, hq1⟩ | ⟨hk0, hq1, hq2⟩ | ⟨hk0, hq1, hq2, hq3⟩
    · subst hk0
      have HKk := Lib.hid (fun g w h hg hk => HK.out 1 g w h hg hk)
      have hka : (wr.alloc (.cells #[.int .i64 1] 3)).cell? ⟨wr.heap.size, 0, none⟩ = some (.int .i64 1) := push_cell wr _ _ 0 _ rfl
      have hAa := hAb 1
      have hUa := hUb 1
      have hga : wr.heap.size < (wr.alloc (.cells #[.int .i64 1] 3)).heap.size := by simp
      clear hAb hUb
      obtain ⟨z, hq⟩ : ∃ z, p 1 = z := ⟨_, rfl⟩
      rw [hq] at HKk
      cases z with
      | true =>
        have HE : Hid (V = 1) := Lib.hid (by rw [← HV.out]; simp only [hq]; rfl)
        clear hq
        go_wp2_with (first | (go_at_call 32; (with_reducible refine (HKk.out _ _ (HH.out _ hUa) hga hka).mono ?_); rintro e u ⟨rfl, hu⟩; have hU5 := hUa.trans hu; have hA5 := hAa.up hu; have hk5 := hu.cell hka))
        go_ret
        exact ⟨by rw [HE.out]; rfl, hU5⟩
      | false =>
        have HQ := Lib.hid hq
        clear hq
        go_wp2_with (first | (go_at_call 32; (with_reducible refine (HKk.out _ _ (HH.out _ hUa) hga hka).mono ?_); rintro e u ⟨rfl, hu⟩; have hU5 := hUa.trans hu; have hA5 := hAa.up hu; have hk5 := hu.cell hka))
        go_roundw
        case rel => exact ⟨1, by omega, rfl, Lib.hid (.inr (.inl ⟨rfl, HQ.out⟩)), hU5, hA5⟩
        case measure => simp [intOf]
    · subst hk0
      have HKk := Lib.hid (fun g w h hg hk => HK.out 2 g w h hg hk)
      have hka : (wr.alloc (.cells #[.int .i64 2] 3)).cell? ⟨wr.heap.size, 0, none⟩ = some (.int .i64 2) := push_cell wr _ _ 0 _ rfl
      have hAa := hAb 2
      have hUa := hUb 2
      have hga : wr.heap.size < (wr.alloc (.cells #[.int .i64 2] 3)).heap.size := by simp
      clear hAb hUb
      obtain ⟨z, hq⟩ : ∃ z, p 2 = z := ⟨_, rfl⟩
      rw [hq] at HKk
      cases z with
      | true =>
        have HE : Hid (V = 2) := Lib.hid (by rw [← HV.out]; simp only [hq1, hq]; rfl)
        clear hq
        have HQ1 := Lib.hid hq1
        clear hq1
        go_wp2_with (first | (go_at_call 32; (with_reducible refine (HKk.out _ _ (HH.out _ hUa) hga hka).mono ?_); rintro e u ⟨rfl, hu⟩; have hU5 := hUa.trans hu; have hA5 := hAa.up hu; have hk5 := hu.cell hka))
        go_ret
        exact ⟨by rw [HE.out]; rfl, hU5⟩
      | false =>
        have HQ := Lib.hid hq
        clear hq
        have HQ1 := Lib.hid hq1
        clear hq1
        go_wp2_with (first | (go_at_call 32; (with_reducible refine (HKk.out _ _ (HH.out _ hUa) hga hka).mono ?_); rintro e u ⟨rfl, hu⟩; have hU5 := hUa.trans hu; have hA5 := hAa.up hu; have hk5 := hu.cell hka))
        go_roundw
        case rel => exact ⟨2, by omega, rfl, Lib.hid (.inr (.inr (.inl ⟨rfl, HQ1.out, HQ.out⟩))), hU5, hA5⟩
        case measure => simp [intOf]
    · subst hk0
      have HKk := Lib.hid (fun g w h hg hk => HK.out 7 g w h hg hk)
      have hka : (wr.alloc (.cells #[.int .i64 7] 3)).cell? ⟨wr.heap.size, 0, none⟩ = some (.int .i64 7) := push_cell wr _ _ 0 _ rfl
      have hAa := hAb 7
      have hUa := hUb 7
      have hga : wr.heap.size < (wr.alloc (.cells #[.int .i64 7] 3)).heap.size := by simp
      clear hAb hUb
      obtain ⟨z, hq⟩ : ∃ z, p 7 = z := ⟨_, rfl⟩
      rw [hq] at HKk
      cases z with
      | true =>
        have HE : Hid (V = 7) := Lib.hid (by rw [← HV.out]; simp only [hq1, hq2, hq]; rfl)
        clear hq
        have HQ1 := Lib.hid hq1
        have HQ2 := Lib.hid hq2
        clear hq1 hq2
        go_wp2_with (first | (go_at_call 32; (with_reducible refine (HKk.out _ _ (HH.out _ hUa) hga hka).mono ?_); rintro e u ⟨rfl, hu⟩; have hU5 := hUa.trans hu; have hA5 := hAa.up hu; have hk5 := hu.cell hka))
        go_ret
        exact ⟨by rw [HE.out]; rfl, hU5⟩
      | false =>
        have HQ := Lib.hid hq
        clear hq
        have HQ1 := Lib.hid hq1
        have HQ2 := Lib.hid hq2
        clear hq1 hq2
        go_wp2_with (first | (go_at_call 32; (with_reducible refine (HKk.out _ _ (HH.out _ hUa) hga hka).mono ?_); rintro e u ⟨rfl, hu⟩; have hU5 := hUa.trans hu; have hA5 := hAa.up hu; have hk5 := hu.cell hka))
        go_roundw
        case rel => exact ⟨3, by omega, rfl, Lib.hid (.inr (.inr (.inr ⟨rfl, HQ1.out, HQ2.out, HQ.out⟩))), hU5, hA5⟩
        case measure => simp [intOf]
    · subst hk0
      have HE : Hid (V = 0) := Lib.hid (by rw [← HV.out]; simp only [hq1, hq2, hq3]; rfl)
      clear hq1 hq2 hq3 hAb hUb
      go_wp2
      go_ret
      exact ⟨by rw [HE.out]; rfl, hU⟩
end Go.Proofs.Ytcplhbafbjpnlaa
