/-
  For every two []int, bool and int the statement WeakParts returns true: an L or an R parts the work of the rules, and the rules done once more change nothing. No condition.
-/
import Derived.Test.YtlgdogebnopjfaaHas
import Derived.Test.YtlgdogebnopjfaaWkl
set_option linter.unusedVariables false
namespace Go.Proofs.Ytlgdogebnopjfaa.weakParts
open Go.ChangeShapes Go.WideShapes Go.ChangeAt Go.RowKit Go.Proofs.Ytlgdogebnopjfaa
theorem own : ownKnob Try.prog.godebug = none := by kernel_rfl
theorem laidOut : laidOutB Try.prog = true := by kernel_rfl

theorem mine_cap {k : IntKind} {e : TypeId} {w : World} {B n c : Nat} {A : Option Addr} {xs : List Int} (h : Mine k e w B (.slice A n c) xs) : A = none → c = 0 := by
  intro hA
  subst hA
  rcases h.2 with ⟨a, b⟩ | ⟨g, cap, cur, a, b, r⟩
  · injection a
  · cases a
theorem made_ (w : World) : Mine .i64 3 (w.alloc (.cells #[] 3)) w.heap.size (.slice (some ⟨w.heap.size, 0, none⟩) 0 0) [] := World.ownsRow_made w #[] 0 (Nat.le_refl _) (Nat.zero_le _) (by simp)
theorem below_made (w : World) : Below w.heap.size w (w.alloc (.cells #[] 3)) := (Below.refl _ _).alloc (Nat.le_refl _) _
theorem len_parts (a b : List Int) (m : Int) : (a ++ m :: b).length = a.length + 1 + b.length := by simp; omega

set_option maxRecDepth 20000 in
set_option maxHeartbeats 8000000 in
theorem walk (A0 : Option Addr) (c0 : Nat) (z0 : List Int) (A1 : Option Addr) (c1 : Nat) (z1 : List Int) (a2 : Bool) (a3 : Int) (w : World) (n0 : z0.length ≤ 9223372036854775807) (m0 : z0.length ≤ c0) (w0 : ∀ z ∈ z0, (Lit.int .i64 z).wf = true) (h0 : Has w w.heap.size A0 (z0.map (Value.int .i64))) (e0 : A0 = none → c0 = 0) (n1 : z1.length ≤ 9223372036854775807) (m1 : z1.length ≤ c1) (w1 : ∀ z ∈ z1, (Lit.int .i64 z).wf = true) (h1 : Has w w.heap.size A1 (z1.map (Value.int .i64))) (e1 : A1 = none → c1 = 0) (w3 : (Lit.int .i64 a3).wf = true) :
    Calls Try.prog 5 #[.slice A0 z0.length c0, .slice A1 z1.length c1, .bool a2, .int .i64 a3] w fun e w' => e = .returned (.bool true) ∧ Below w.heap.size w w' := by
  have HAL := Lib.hid (fun w => alive_ok w)
  by_cases hl : 150 < z0.length
  · have d0 : decide ((150 : Int) < (z0.length : Int)) = true := decide_eq_true (by omega)
    clear w0 m0 h0 w1 m1 h1 w3 e0 e1
    go_enter Try.func5, Try.ntmps5
    go_wp2_with (go_at_call 8; (with_reducible refine (HAL.out _).mono ?_); rintro e u ⟨rfl, hb⟩)
    go_ret
    exact ⟨rfl, hb⟩
  have d0 : decide ((150 : Int) < (z0.length : Int)) = false := decide_eq_false (by omega)
  by_cases hm : 150 < z1.length
  · have d1 : decide ((150 : Int) < (z1.length : Int)) = true := decide_eq_true (by omega)
    clear w0 m0 h0 w1 m1 h1 w3 e0 e1
    go_enter Try.func5, Try.ntmps5
    go_wp2_with (go_at_call 8; (with_reducible refine (HAL.out _).mono ?_); rintro e u ⟨rfl, hb⟩)
    go_ret
    exact ⟨rfl, hb⟩
  have d1 : decide ((150 : Int) < (z1.length : Int)) = false := decide_eq_false (by omega)
  obtain ⟨n0', hn0⟩ : ∃ n, n = z0.length := ⟨_, rfl⟩
  obtain ⟨n1', hn1⟩ : ∃ n, n = z1.length := ⟨_, rfl⟩
  rw [← hn0, ← hn1]
  rw [← hn0] at d0 hl
  rw [← hn1] at d1 hm
  have N0 := Lib.hid hn0
  have N1 := Lib.hid hn1
  have E0 := Lib.hid e0
  have E1 := Lib.hid e1
  have P0 := Lib.hid (fun W (hb : Below w.heap.size w W) => h0.carry hb)
  have P1 := Lib.hid (fun W (hb : Below w.heap.size w W) => h1.carry hb)
  obtain ⟨N, hN⟩ : ∃ N, N = n0' + 1 + n1' := ⟨_, rfl⟩
  have HNb : N ≤ 301 := by omega
  clear w0 m0 h0 w1 m1 h1 w3 e0 e1 hn0 hn1 n0 n1
  have hm0 := made_ w
  have hb0 := below_made w
  cases a2
  · have HP : Hid (z0 ++ 2 :: z1 = ([] ++ z0) ++ [2] ++ z1 ∧ (z0 ++ 2 :: z1).length = N ∧ weakW a3 (z0 ++ 2 :: z1) = ([] ++ weakW a3 z0) ++ [2] ++ weakW 2 z1 ∧ weakW a3 (weakW a3 (z0 ++ 2 :: z1)) = weakW a3 (z0 ++ 2 :: z1) ∧ (weakW a3 (z0 ++ 2 :: z1)).length = N) :=
      Lib.hid ⟨by simp, by rw [len_parts, hN, N0.out, N1.out], by rw [weak_part 2 (by decide) a3 z0 z1]; simp, weak_twice a3 _, by rw [weak_len, len_parts, hN, N0.out, N1.out]⟩
    generalize z0 ++ 2 :: z1 = L at HP
    obtain ⟨R, hR⟩ : ∃ R, weakW a3 L = R := ⟨_, rfl⟩
    rw [hR] at HP
    have HR := Lib.hid hR
    have L0 : Hid ((weakW a3 z0).length = n0') := Lib.hid (by rw [weak_len]; exact N0.out.symm)
    have L1 : Hid ((weakW 2 z1).length = n1') := Lib.hid (by rw [weak_len]; exact N1.out.symm)
    obtain ⟨R0, hR0⟩ : ∃ R0, weakW a3 z0 = R0 := ⟨_, rfl⟩
    obtain ⟨R1, hR1⟩ : ∃ R1, weakW 2 z1 = R1 := ⟨_, rfl⟩
    rw [hR0] at HP L0
    rw [hR1] at HP L1
    have HW0 := Lib.hid (fun W (hb : Below w.heap.size w W) => weak_ok A0 n0' c0 a3 z0 W N0.out (by omega) (P0.out W hb))
    have HW1 := Lib.hid (fun W (hb : Below w.heap.size w W) => weak_ok A1 n1' c1 2 z1 W N1.out (by omega) (P1.out W hb))
    have HWL := Lib.hid (fun W A c (h : Has W W.heap.size A (L.map (Value.int .i64))) => weak_ok A N c a3 L W HP.out.2.1.symm (by omega) h)
    have HWR := Lib.hid (fun W A c (h : Has W W.heap.size A (R.map (Value.int .i64))) => weak_ok A N c a3 R W HP.out.2.2.2.2.symm (by omega) h)
    rw [HR.out] at HWL
    rw [HP.out.2.2.2.1] at HWR
    have HNU := Lib.hid (fun W A B c d (h1 : Has W W.heap.size A (R.map (Value.int .i64))) (h2 : Has W W.heap.size B (R.map (Value.int .i64))) => numbers_ok A B c d N N R R W HP.out.2.2.2.2.symm HP.out.2.2.2.2.symm (by omega) h1 h2 rfl)
    rw [hR0] at HW0
    rw [hR1] at HW1
    have HNb2 := Lib.hid HNb
    clear hR hR0 hR1 hN HNb
    go_enter Try.func5, Try.ntmps5
    go_wp2_with (first
      | (at_builtin; refine wpList_pushall (k := .i64) (bytes := 8) rfl _ _ 25 rfl Try.underlying25 fullI (by decide) w.heap.size _ [] z0 w _ A0 n0' c0 N0.out E0.out (P0.out _ hb0) hm0 rfl rfl hb0 hb0.size (by simp) (by have := N0.out; omega) ?_; intro v1 u1 hM1 hb1 _; clear hm0)
      | (at_builtin; refine wpList_push (k := .i64) (bytes := 8) rfl _ _ 25 rfl Try.underlying25 fullI (by decide) w.heap.size v1 ([] ++ z0) 2 w u1 hM1 rfl rfl hb1 hb1.size (by have := N0.out; simp; omega) ?_; intro v2 u2 hM2 hb2; clear hM1 hb1)
      | (at_builtin; refine wpList_pushall (k := .i64) (bytes := 8) rfl _ _ 25 rfl Try.underlying25 fullI (by decide) w.heap.size v2 (([] ++ z0) ++ [2]) z1 w u2 A1 n1' c1 N1.out E1.out (P1.out _ hb2) hM2 rfl rfl hb2 hb2.size (by have := N0.out; simp; omega) (by have := N1.out; omega) ?_; intro v3 u3 hM3 hb3 _; rw [← HP.out.1] at hM3; obtain ⟨A3, c3, rfl, hc3, _, hh3⟩ := hM3.size; rw [HP.out.2.1] at hM3 hc3 ⊢; clear hM2 hb2)
      | (go_at_call 9; (with_reducible refine (HWL.out u3 A3 c3 hh3).mono ?_); rintro e u4 ⟨v4, rfl, hM4, hb4⟩; obtain ⟨A4, c4, rfl, hc4, _, hh4⟩ := hM4.size; rw [HP.out.2.2.2.2] at hc4 ⊢; clear HWL hM3 hh3 hM4;
          have hB4 := below_trans hb3 hb4 hb3.size; have mm := made_ u4; have bm := below_made u4; have hBm := below_trans hB4 bm hB4.size; clear hb3 hb4)
      | (go_at_call 9; (with_reducible refine (HW0.out _ hBm).mono ?_); rintro e u5 ⟨v5, rfl, hM5, hb5⟩; obtain ⟨A5, c5, rfl, hc5, _, hh5⟩ := hM5.size; have ec5 := mine_cap hM5; rw [L0.out] at hc5 ⊢; have m5 := mm.below hb5; have b5 := bm.trans (hb5.mono bm.size); clear HW0 hM5 mm hb5 bm hBm)
      | (at_builtin; refine wpList_pushall (k := .i64) (bytes := 8) rfl _ _ 25 rfl Try.underlying25 fullI (by decide) u4.heap.size _ [] R0 u4 u5 A5 n0' c5 L0.out.symm ec5 hh5 m5 rfl rfl b5 b5.size (by simp) (by have := L0.out; omega) ?_; intro v6 u6 m6 b6 _; clear m5 b5 hh5)
      | (at_builtin; refine wpList_push (k := .i64) (bytes := 8) rfl _ _ 25 rfl Try.underlying25 fullI (by decide) u4.heap.size v6 ([] ++ R0) 2 u4 u6 m6 rfl rfl b6 b6.size (by have := L0.out; simp; omega) ?_; intro v7 u7 m7 b7; clear m6 b6)
      | (go_at_call 9; (with_reducible refine (HW1.out u7 (below_trans hB4 b7 hB4.size)).mono ?_); rintro e u8 ⟨v8, rfl, hM8, hb8⟩; obtain ⟨A8, c8, rfl, hc8, _, hh8⟩ := hM8.size; have ec8 := mine_cap hM8; rw [L1.out] at hc8 ⊢; have m8 := m7.below hb8; have b8 := b7.trans (hb8.mono b7.size); clear HW1 hM8 m7 b7 hb8)
      | (at_builtin; refine wpList_pushall (k := .i64) (bytes := 8) rfl _ _ 25 rfl Try.underlying25 fullI (by decide) u4.heap.size v7 (([] ++ R0) ++ [2]) R1 u4 u8 A8 n1' c8 L1.out.symm ec8 hh8 m8 rfl rfl b8 b8.size (by have := L0.out; simp; omega) (by have := L1.out; omega) ?_; intro v9 u9 m9 b9 _; clear m8 b8 hh8; rw [← HP.out.2.2.1] at m9; obtain ⟨A9, c9, rfl, hc9, _, hh9⟩ := m9.size; rw [HP.out.2.2.2.2] at hc9 ⊢; have hh4' := hh4.carry b9; have hB9 := below_trans hB4 b9 hB4.size; clear m9 hh4 b9 hB4)
      | (go_at_call 11; (with_reducible refine (HNU.out u9 A4 A9 c4 c9 hh4' hh9).mono ?_); rintro e u10 ⟨rfl, q, hq⟩; have hh10 : Has u10 u10.heap.size A4 (R.map (Value.int .i64)) := (by rw [hq]; exact hh4'); have hB10 : Below w.heap.size w u10 := (by rw [hq]; exact below_drewN hB9 q);
          clear hq hh4' hh9 hB9)
      | (go_at_call 9; (with_reducible refine (HWR.out u10 A4 c4 hh10).mono ?_); rintro e u11 ⟨v11, rfl, hM11, hb11⟩; obtain ⟨A11, c11, rfl, hc11, _, hh11⟩ := hM11.size; rw [HP.out.2.2.2.2] at hc11 ⊢; have hh10' := hh10.carry hb11; have hB11 := below_trans hB10 hb11 hB10.size; clear HWR hM11 hb11 hh10 hB10)
      | (go_at_call 11; (with_reducible refine (HNU.out u11 A11 A4 c11 c4 hh11 hh10').mono ?_); rintro e u12 ⟨rfl, q, hq⟩; have hB12 : Below w.heap.size w u12 := (by rw [hq]; exact below_drewN hB11 q);
          clear hq hh11 hh10' hB11)
      | (go_at_call 8; (with_reducible refine (HAL.out u12).mono ?_); rintro e u13 ⟨rfl, hb13⟩))
    go_ret
    exact ⟨rfl, below_trans hB12 hb13 hB12.size⟩
  · have HP : Hid (z0 ++ 1 :: z1 = ([] ++ z0) ++ [1] ++ z1 ∧ (z0 ++ 1 :: z1).length = N ∧ weakW a3 (z0 ++ 1 :: z1) = ([] ++ weakW a3 z0) ++ [1] ++ weakW 1 z1 ∧ weakW a3 (weakW a3 (z0 ++ 1 :: z1)) = weakW a3 (z0 ++ 1 :: z1) ∧ (weakW a3 (z0 ++ 1 :: z1)).length = N) :=
      Lib.hid ⟨by simp, by rw [len_parts, hN, N0.out, N1.out], by rw [weak_part 1 (by decide) a3 z0 z1]; simp, weak_twice a3 _, by rw [weak_len, len_parts, hN, N0.out, N1.out]⟩
    generalize z0 ++ 1 :: z1 = L at HP
    obtain ⟨R, hR⟩ : ∃ R, weakW a3 L = R := ⟨_, rfl⟩
    rw [hR] at HP
    have HR := Lib.hid hR
    have L0 : Hid ((weakW a3 z0).length = n0') := Lib.hid (by rw [weak_len]; exact N0.out.symm)
    have L1 : Hid ((weakW 1 z1).length = n1') := Lib.hid (by rw [weak_len]; exact N1.out.symm)
    obtain ⟨R0, hR0⟩ : ∃ R0, weakW a3 z0 = R0 := ⟨_, rfl⟩
    obtain ⟨R1, hR1⟩ : ∃ R1, weakW 1 z1 = R1 := ⟨_, rfl⟩
    rw [hR0] at HP L0
    rw [hR1] at HP L1
    have HW0 := Lib.hid (fun W (hb : Below w.heap.size w W) => weak_ok A0 n0' c0 a3 z0 W N0.out (by omega) (P0.out W hb))
    have HW1 := Lib.hid (fun W (hb : Below w.heap.size w W) => weak_ok A1 n1' c1 1 z1 W N1.out (by omega) (P1.out W hb))
    have HWL := Lib.hid (fun W A c (h : Has W W.heap.size A (L.map (Value.int .i64))) => weak_ok A N c a3 L W HP.out.2.1.symm (by omega) h)
    have HWR := Lib.hid (fun W A c (h : Has W W.heap.size A (R.map (Value.int .i64))) => weak_ok A N c a3 R W HP.out.2.2.2.2.symm (by omega) h)
    rw [HR.out] at HWL
    rw [HP.out.2.2.2.1] at HWR
    have HNU := Lib.hid (fun W A B c d (h1 : Has W W.heap.size A (R.map (Value.int .i64))) (h2 : Has W W.heap.size B (R.map (Value.int .i64))) => numbers_ok A B c d N N R R W HP.out.2.2.2.2.symm HP.out.2.2.2.2.symm (by omega) h1 h2 rfl)
    rw [hR0] at HW0
    rw [hR1] at HW1
    have HNb2 := Lib.hid HNb
    clear hR hR0 hR1 hN HNb
    go_enter Try.func5, Try.ntmps5
    go_wp2_with (first
      | (at_builtin; refine wpList_pushall (k := .i64) (bytes := 8) rfl _ _ 25 rfl Try.underlying25 fullI (by decide) w.heap.size _ [] z0 w _ A0 n0' c0 N0.out E0.out (P0.out _ hb0) hm0 rfl rfl hb0 hb0.size (by simp) (by have := N0.out; omega) ?_; intro v1 u1 hM1 hb1 _; clear hm0)
      | (at_builtin; refine wpList_push (k := .i64) (bytes := 8) rfl _ _ 25 rfl Try.underlying25 fullI (by decide) w.heap.size v1 ([] ++ z0) 1 w u1 hM1 rfl rfl hb1 hb1.size (by have := N0.out; simp; omega) ?_; intro v2 u2 hM2 hb2; clear hM1 hb1)
      | (at_builtin; refine wpList_pushall (k := .i64) (bytes := 8) rfl _ _ 25 rfl Try.underlying25 fullI (by decide) w.heap.size v2 (([] ++ z0) ++ [1]) z1 w u2 A1 n1' c1 N1.out E1.out (P1.out _ hb2) hM2 rfl rfl hb2 hb2.size (by have := N0.out; simp; omega) (by have := N1.out; omega) ?_; intro v3 u3 hM3 hb3 _; rw [← HP.out.1] at hM3; obtain ⟨A3, c3, rfl, hc3, _, hh3⟩ := hM3.size; rw [HP.out.2.1] at hM3 hc3 ⊢; clear hM2 hb2)
      | (go_at_call 9; (with_reducible refine (HWL.out u3 A3 c3 hh3).mono ?_); rintro e u4 ⟨v4, rfl, hM4, hb4⟩; obtain ⟨A4, c4, rfl, hc4, _, hh4⟩ := hM4.size; rw [HP.out.2.2.2.2] at hc4 ⊢; clear HWL hM3 hh3 hM4;
          have hB4 := below_trans hb3 hb4 hb3.size; have mm := made_ u4; have bm := below_made u4; have hBm := below_trans hB4 bm hB4.size; clear hb3 hb4)
      | (go_at_call 9; (with_reducible refine (HW0.out _ hBm).mono ?_); rintro e u5 ⟨v5, rfl, hM5, hb5⟩; obtain ⟨A5, c5, rfl, hc5, _, hh5⟩ := hM5.size; have ec5 := mine_cap hM5; rw [L0.out] at hc5 ⊢; have m5 := mm.below hb5; have b5 := bm.trans (hb5.mono bm.size); clear HW0 hM5 mm hb5 bm hBm)
      | (at_builtin; refine wpList_pushall (k := .i64) (bytes := 8) rfl _ _ 25 rfl Try.underlying25 fullI (by decide) u4.heap.size _ [] R0 u4 u5 A5 n0' c5 L0.out.symm ec5 hh5 m5 rfl rfl b5 b5.size (by simp) (by have := L0.out; omega) ?_; intro v6 u6 m6 b6 _; clear m5 b5 hh5)
      | (at_builtin; refine wpList_push (k := .i64) (bytes := 8) rfl _ _ 25 rfl Try.underlying25 fullI (by decide) u4.heap.size v6 ([] ++ R0) 1 u4 u6 m6 rfl rfl b6 b6.size (by have := L0.out; simp; omega) ?_; intro v7 u7 m7 b7; clear m6 b6)
      | (go_at_call 9; (with_reducible refine (HW1.out u7 (below_trans hB4 b7 hB4.size)).mono ?_); rintro e u8 ⟨v8, rfl, hM8, hb8⟩; obtain ⟨A8, c8, rfl, hc8, _, hh8⟩ := hM8.size; have ec8 := mine_cap hM8; rw [L1.out] at hc8 ⊢; have m8 := m7.below hb8; have b8 := b7.trans (hb8.mono b7.size); clear HW1 hM8 m7 b7 hb8)
      | (at_builtin; refine wpList_pushall (k := .i64) (bytes := 8) rfl _ _ 25 rfl Try.underlying25 fullI (by decide) u4.heap.size v7 (([] ++ R0) ++ [1]) R1 u4 u8 A8 n1' c8 L1.out.symm ec8 hh8 m8 rfl rfl b8 b8.size (by have := L0.out; simp; omega) (by have := L1.out; omega) ?_; intro v9 u9 m9 b9 _; clear m8 b8 hh8; rw [← HP.out.2.2.1] at m9; obtain ⟨A9, c9, rfl, hc9, _, hh9⟩ := m9.size; rw [HP.out.2.2.2.2] at hc9 ⊢; have hh4' := hh4.carry b9; have hB9 := below_trans hB4 b9 hB4.size; clear m9 hh4 b9 hB4)
      | (go_at_call 11; (with_reducible refine (HNU.out u9 A4 A9 c4 c9 hh4' hh9).mono ?_); rintro e u10 ⟨rfl, q, hq⟩; have hh10 : Has u10 u10.heap.size A4 (R.map (Value.int .i64)) := (by rw [hq]; exact hh4'); have hB10 : Below w.heap.size w u10 := (by rw [hq]; exact below_drewN hB9 q);
          clear hq hh4' hh9 hB9)
      | (go_at_call 9; (with_reducible refine (HWR.out u10 A4 c4 hh10).mono ?_); rintro e u11 ⟨v11, rfl, hM11, hb11⟩; obtain ⟨A11, c11, rfl, hc11, _, hh11⟩ := hM11.size; rw [HP.out.2.2.2.2] at hc11 ⊢; have hh10' := hh10.carry hb11; have hB11 := below_trans hB10 hb11 hB10.size; clear HWR hM11 hb11 hh10 hB10)
      | (go_at_call 11; (with_reducible refine (HNU.out u11 A11 A4 c11 c4 hh11 hh10').mono ?_); rintro e u12 ⟨rfl, q, hq⟩; have hB12 : Below w.heap.size w u12 := (by rw [hq]; exact below_drewN hB11 q);
          clear hq hh11 hh10' hB11)
      | (go_at_call 8; (with_reducible refine (HAL.out u12).mono ?_); rintro e u13 ⟨rfl, hb13⟩))
    go_ret
    exact ⟨rfl, below_trans hB12 hb13 hB12.size⟩

set_option maxRecDepth 100000 in
theorem lifted (os : Os) (started : os.Started) (H : Type) (enc : TypeId × Value → H) :
    ReturnsInHanded {} Try.checked os 5 .any (Rows.weakPartsSpec.pre6 enc Try.prog Try.f5 Rows.weakPartsRow.domain false) (Rows.weakPartsSpec.post enc Try.prog Try.f5 false true false false) := by
  refine returnsInHanded_of_change (C := Try.checked) own started (by kernel_rfl) Try.func5
    (ChangeSpec.witness6 (enc := enc) (C := Try.checked) false ⟨#[], #[.slice none 0 0, .slice none 0 0, .bool false, .int .i64 0], []⟩ 8 (by kernel_rfl) (by kernel_rfl) (by kernel_rfl) (by kernel_rfl)) ?_
  intro W base args ds gs before hval0 hW hcnd _
  have hval : ∀ (j : Nat) t v, Try.f5.params[j]? = some t → args[j]? = some v → Value.okWide Try.prog W .any base t v := hval0
  have hW' := hW
  obtain ⟨p, q, hA0, hV, rfl, hfz, hnd⟩ := hW
  have hA : DataW.TrodAll enc Try.prog W 0 (fun _ => true) true Try.f5.params.toList args.toList ds p := hA0
  rw [Try.params5] at hA hval
  obtain ⟨v0, vs0, d0, ds0, p0, q0, hargs, rfl, rfl, h0, r0⟩ := trodAll_cons hA
  obtain ⟨v1, vs1, d1, ds1, p1, q1, rfl, rfl, rfl, h1, r1⟩ := trodAll_cons r0
  obtain ⟨v2, vs2, d2, ds2, p2, q2, rfl, rfl, rfl, h2, r2⟩ := trodAll_cons r1
  obtain ⟨v3, vs3, d3, ds3, p3, q3, rfl, rfl, rfl, h3, r3⟩ := trodAll_cons r2
  obtain ⟨rfl, rfl, rfl⟩ := trodAll_nil r3
  obtain rfl : args = #[v0, v1, v2, v3] := by cases args; simp_all
  obtain ⟨rfl, rfl⟩ := trodVars_none hV
  clear hA0 hval0
  have hlt : ∀ x ∈ p0 ++ (p1 ++ (p2 ++ (p3 ++ []))), x.block < W.heap.size := fun x hx => by simpa using hW'.lt x (List.mem_append_left _ hx)
  have k0 := h0
  have k1 := h1
  have k2 := h2
  have k3 := h3
  obtain ⟨A0, l0, c0, rfl⟩ := okWide_slice Try.underlying25 (hval 0 25 v0 rfl rfl)
  obtain ⟨z0, rfl, n0, m0, w0, hh0⟩ := has_ints Try.underlying25 Try.underlying3 (by kernel_rfl) h0 (fun x hx => hlt x (List.mem_append_left _ hx))
  have e0 := none_cap Try.underlying25 Try.underlying3 (by kernel_rfl) k0
  obtain ⟨A1, l1, c1, rfl⟩ := okWide_slice Try.underlying25 (hval 1 25 v1 rfl rfl)
  obtain ⟨z1, rfl, n1, m1, w1, hh1⟩ := has_ints Try.underlying25 Try.underlying3 (by kernel_rfl) h1 (fun x hx => hlt x (List.mem_append_right _ (List.mem_append_left _ hx)))
  have e1 := none_cap Try.underlying25 Try.underlying3 (by kernel_rfl) k1
  obtain ⟨a2, rfl, rfl, rfl⟩ := open_bool Try.underlying4 (hval 2 4 v2 rfl rfl) h2
  obtain ⟨a3, rfl, rfl, rfl, w3⟩ := open_int Try.underlying3 (hval 3 3 v3 rfl rfl) h3
  refine (walk A0 c0 z0 A1 c1 z1 a2 a3 W n0 m0 w0 hh0 e0 n1 m1 w1 hh1 e1 w3).mono fun e W' ⟨he, hb⟩ => ?_
  subst he
  exact ⟨_, rfl, _, _, _, [], _, [], hW', (trodAll_cons_mk (shut_bool Try.underlying4 _) trodAll_mk0), (trodAll_cons_mk (Below.trod laidOut (by kernel_rfl) (of_decide_eq_true (by kernel_rfl)) k0 hb (fun x hx => hlt x (List.mem_append_left _ hx))) (trodAll_cons_mk (Below.trod laidOut (by kernel_rfl) (of_decide_eq_true (by kernel_rfl)) k1 hb (fun x hx => hlt x (List.mem_append_right _ (List.mem_append_left _ hx)))) (trodAll_cons_mk (Below.trod laidOut (by kernel_rfl) (of_decide_eq_true (by kernel_rfl)) k2 hb (fun x hx => hlt x (List.mem_append_right _ (List.mem_append_right _ (List.mem_append_left _ hx))))) (trodAll_cons_mk (Below.trod laidOut (by kernel_rfl) (of_decide_eq_true (by kernel_rfl)) k3 hb (fun x hx => hlt x (List.mem_append_right _ (List.mem_append_right _ (List.mem_append_right _ (List.mem_append_left _ hx)))))) trodAll_mk0)))), rfl, hb.frame _, fun h => by cases h⟩

theorem over : Rows.weakPartsRow.holds Try.pinned (OpenSpec.ofChange Rows.weakPartsSpec) :=
  OpenClaim.holds_of_wide 5 Try.f5 rfl rfl rfl rfl rfl rfl rfl ⟨rfl, rfl, rfl, rfl, rfl⟩ rfl rfl rfl rfl rfl (by kernel_rfl) Try.func5 (by kernel_rfl)
    (of_decide_eq_true (by kernel_rfl)) (by unfold Func.isWrapper; first | (rw [if_pos (by decide +kernel)]; kernel_rfl) | (rw [if_neg (by decide +kernel)]; exact ⟨rfl, rfl⟩))
    (fun os started H enc _ => lifted os started H enc)

/-- the statement -/
theorem proved : Rows.WeakPartsSaid :=
  over
#print axioms proved
end Go.Proofs.Ytlgdogebnopjfaa.weakParts
