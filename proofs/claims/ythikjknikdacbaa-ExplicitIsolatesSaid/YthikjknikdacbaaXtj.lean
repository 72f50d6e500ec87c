/-
  What the statements use beside the two sides: the document's Depth, too long, lists compared, plain classes, classes within an isolate. Condition: at most 900 classes.
-/
import Derived.Test.YthikjknikdacbaaXrh
set_option linter.unusedVariables false
set_option linter.unusedSimpArgs false
namespace Go.Proofs.Ythikjknikdacbaa
open Go.ChangeShapes Go.WideShapes Go.ChangeAt Go.RowKit Go.Sort

def dpN (l : List Nat) (b k : Nat) : Nat := (l.take k).foldl max b
theorem dpN_succ (l : List Nat) (b k : Nat) (h : k < l.length) : dpN l b (k + 1) = max (dpN l b k) l[k] := by
  unfold dpN
  rw [List.take_succ_eq_append_getElem h, List.foldl_append]
  rfl
set_option maxRecDepth 20000 in
set_option maxHeartbeats 2000000 in
theorem rdepth_ok (A : Option Addr) (n c b : Nat) (cs : List Int) (w : World) (hn : n = cs.length) (hc : n ≤ c) (hmax : n ≤ 900) (hb : b ≤ 1) (h : Has w w.heap.size A (cs.map (Value.int .i64))) :
    Calls Try.prog 13 #[.slice A n c, .int .i64 (b : Int)] w fun e w' => e = .returned (.int .i64 (depL b cs : Int)) ∧ Below w.heap.size w w' := by
  have HL := Lib.hid (rlevels_ok A n c b cs w hn hc hmax hb h)
  have hll : (lvN b cs n).length = n := lvN_len b cs n (by omega)
  have HD : Hid (dpN (lvN b cs n) b n = depL b cs) := Lib.hid (by unfold dpN depL lvL; rw [List.take_of_length_le (by omega), hn])
  unfold lvI at HL
  generalize lvN b cs n = L at *
  generalize depL b cs = D at *
  have HLL := Lib.hid hll
  have HLM : Hid ((L.map Int.ofNat).length = n) := Lib.hid (by rw [List.length_map, hll])
  clear hn h hll
  go_enter Try.func13, Try.ntmps13
  go_wp2_with (go_at_call 10; (with_reducible refine HL.out.mono ?_); rintro e u ⟨v1, v2, rfl, h1, h2, hbu⟩; obtain ⟨A1, c1, rfl, hc1, _, hh1⟩ := h1.size; rw [HLM.out])
  clear h1 h2 hc1
  go_loopw [7, 8] (fun v7 v8 wr => ∃ k M : Nat, k ≤ n ∧ v8 = .int .i64 k ∧ v7 = .int .i64 (M : Int) ∧ Hid (dpN L b k = M) ∧ u = wr) (fun _ v8 _ => n - (intOf v8).toNat)
  case atStart => exact ⟨0, b, by omega, rfl, rfl, Lib.hid rfl, rfl⟩
  case round =>
    obtain ⟨k, M, hkn, rfl, rfl, HM, rfl⟩ := hrel
    by_cases hlt : k < n
    · have hk1 : k < L.length := by have := HLL.out; omega
      obtain ⟨b', off', rfl, hb', hc⟩ := hh1.at_int (k := k) (by rw [HLM.out]; exact hlt)
      rw [List.getElem_map] at hc
      have HS := Lib.hid (dpN_succ L b k hk1)
      generalize L[k] = X at *
      have HS2 : Hid (dpN L b (k + 1) = max M X) := Lib.hid (by rw [HS.out, HM.out])
      have hc2 : u.cell? ⟨b', off' + k, none⟩ = some (.int .i64 (X : Int)) := hc
      have HY : Hid (max (M : Int) (X : Int) = ((max M X : Nat) : Int)) := Lib.hid (by omega)
      clear HS HM hk1 hh1 hc
      go_wp2_with (refine wpList_max rfl _ _ _ rfl (M : Int) (X : Int) rfl rfl _ HY.out ?_)
      go_roundw
      case rel => exact ⟨k + 1, max M X, by omega, by go_num, rfl, HS2, trivial⟩
      case measure => simp [intOf] <;> omega
    · obtain rfl : k = n := by omega
      have HM2 : Hid (M = D) := Lib.hid (by rw [← HM.out, HD.out])
      clear HM
      go_wp2
      go_ret
      exact ⟨by rw [HM2.out]; rfl, hbu⟩

theorem long_ok (A : Option Addr) (n c : Nat) (w : World) : Calls Try.prog 8 #[.slice A n c] w fun e w' => e = .returned (.bool (decide (200 < n))) ∧ w = w' := by
  by_cases h : 200 < n
  · have hd : decide ((200 : Int) < n) = true := decide_eq_true (by omega)
    rw [decide_eq_true h]
    go_enter Try.func8, Try.ntmps8
    go_wp2
    go_ret
    exact ⟨rfl, rfl⟩
  · have hd : decide ((200 : Int) < n) = false := decide_eq_false (by omega)
    rw [decide_eq_false h]
    go_enter Try.func8, Try.ntmps8
    go_wp2
    go_ret
    exact ⟨rfl, rfl⟩

set_option maxHeartbeats 1000000 in
theorem eqs_ok (A B : Option Addr) (c d n : Nat) (xs : List Int) (w : World) (hnx : n = xs.length) (hn : n ≤ 1000000) (h1 : Has w w.heap.size A (xs.map (Value.int .i64))) (h2 : Has w w.heap.size B (xs.map (Value.int .i64))) :
    Calls Try.prog 11 #[.slice A n c, .slice B n d] w fun e w' => e = .returned (.bool true) ∧ Below w.heap.size w w' := by
  have HN := Lib.hid hnx
  clear hnx
  go_enter Try.func11, Try.ntmps11
  go_wp2
  go_loopw [5] (fun i wr => ∃ k : Nat, k ≤ n ∧ i = .int .i64 k ∧ ∃ q, wr = w.drewN q) (fun i _ => n - (intOf i).toNat)
  case atStart => exact ⟨0, by omega, rfl, 0, rfl⟩
  case round =>
    obtain ⟨k, hk, rfl, q, rfl⟩ := hrel
    by_cases hlt : k < n
    · have hlt2 : k < xs.length := by rw [← HN.out]; exact hlt
      obtain ⟨b, off, rfl, hb, hc⟩ := h1.at_int hlt2
      obtain ⟨b2, off2, rfl, hb2, hc2⟩ := h2.at_int hlt2
      generalize xs[k] = X at hc hc2
      clear h1 h2
      go_wp2
      go_quiet (fail)
      go_wp2
      go_roundw
      case rel => exact ⟨k + 1, by omega, by go_num, _, rfl⟩
      case measure => simp [intOf] <;> omega
    · obtain rfl : k = n := by omega
      go_wp2
      go_ret
      exact ⟨rfl, below_drewN (Below.refl _ _) _⟩

theorem tmod_bnd (n : Int) (k : Int) (hk : 0 < k) : -k < n.tmod k ∧ n.tmod k < k := ⟨Int.lt_tmod_of_pos n hk, Int.tmod_lt_of_pos n hk⟩
/-- without a sign, by its remainder -/
def absI (m : Int) : Int := if m < 0 then -m else m
/-- a plain class, by any number -/
def plainI (n : Int) : Int := if 9 ≤ absI (n.tmod 12) then absI (n.tmod 12) + 3 else absI (n.tmod 12) + 1
theorem plainI_bnd (n : Int) : (1 ≤ plainI n ∧ plainI n ≤ 9) ∨ (12 ≤ plainI n ∧ plainI n ≤ 14) := by
  unfold plainI absI
  have h := tmod_bnd n 12 (by decide)
  split <;> split <;> omega
set_option maxHeartbeats 1000000 in
theorem plain_ok (z : Int) (hz : (Lit.int .i64 z).wf = true) (w : World) : Calls Try.prog 16 #[.int .i64 z] w fun e w' => e = .returned (.int .i64 (plainI z)) ∧ w = w' := by
  have hb := tmod_bnd z 12 (by decide)
  obtain ⟨P, hP⟩ : ∃ P, plainI z = P := ⟨_, rfl⟩
  rw [hP]
  unfold plainI absI at hP
  obtain ⟨M, hM⟩ : ∃ M, z.tmod 12 = M := ⟨_, rfl⟩
  rw [hM] at hP hb
  by_cases h0 : M < 0
  · rw [if_pos h0] at hP
    by_cases h9 : 9 ≤ -M
    · have HP : Hid (-M + 3 = P) := Lib.hid (by rw [if_pos h9] at hP; exact hP)
      clear hP
      go_enter Try.func16, Try.ntmps16
      go_wp2
      go_ret
      exact ⟨by rw [← HP.out]; rfl, rfl⟩
    · have HP : Hid (-M + 1 = P) := Lib.hid (by rw [if_neg h9] at hP; exact hP)
      clear hP
      go_enter Try.func16, Try.ntmps16
      go_wp2
      go_ret
      exact ⟨by rw [← HP.out]; rfl, rfl⟩
  · rw [if_neg h0] at hP
    by_cases h9 : 9 ≤ M
    · have HP : Hid (M + 3 = P) := Lib.hid (by rw [if_pos h9] at hP; exact hP)
      clear hP
      go_enter Try.func16, Try.ntmps16
      go_wp2
      go_ret
      exact ⟨by rw [← HP.out]; rfl, rfl⟩
    · have HP : Hid (M + 1 = P) := Lib.hid (by rw [if_neg h9] at hP; exact hP)
      clear hP
      go_enter Try.func16, Try.ntmps16
      go_wp2
      go_ret
      exact ⟨by rw [← HP.out]; rfl, rfl⟩
/-- a class within an isolate, by any number -/
def withinI (n : Int) : Int := if absI (n.tmod 20) = 11 then 14 else absI (n.tmod 20)
theorem withinI_bnd (n : Int) : midC (withinI n) := by
  have h := tmod_bnd n 20 (by decide)
  have hA : 0 ≤ absI (n.tmod 20) ∧ absI (n.tmod 20) < 20 := by unfold absI; split <;> omega
  unfold withinI
  generalize absI (n.tmod 20) = q at hA ⊢
  by_cases h1 : q = 11
  · rw [if_pos h1]; exact ⟨by decide, by decide, by decide⟩
  · rw [if_neg h1]
    refine ⟨h1, ?_, by omega⟩
    unfold opnC
    simp only [Bool.or_eq_false_iff, beq_eq_false_iff_ne]
    omega
set_option maxHeartbeats 1000000 in
theorem within_ok (z : Int) (hz : (Lit.int .i64 z).wf = true) (w : World) : Calls Try.prog 35 #[.int .i64 z] w fun e w' => e = .returned (.int .i64 (withinI z)) ∧ w = w' := by
  have hb := tmod_bnd z 20 (by decide)
  obtain ⟨P, hP⟩ : ∃ P, withinI z = P := ⟨_, rfl⟩
  rw [hP]
  unfold withinI absI at hP
  obtain ⟨M, hM⟩ : ∃ M, z.tmod 20 = M := ⟨_, rfl⟩
  rw [hM] at hP hb
  by_cases h0 : M < 0
  · rw [if_pos h0] at hP
    by_cases h9 : M = -11
    · subst h9
      have HP : Hid (14 = P) := Lib.hid (by rw [if_pos (by decide)] at hP; exact hP)
      clear hP
      go_enter Try.func35, Try.ntmps35
      go_wp2
      go_ret
      exact ⟨by rw [← HP.out]; rfl, rfl⟩
    · have HP : Hid (-M = P) := Lib.hid (by rw [if_neg (by omega)] at hP; exact hP)
      have e1 : (-M == 11) = false := beq_eq_false_iff_ne.2 (by omega)
      clear hP
      go_enter Try.func35, Try.ntmps35
      go_wp2
      go_ret
      exact ⟨by rw [← HP.out]; rfl, rfl⟩
  · rw [if_neg h0] at hP
    by_cases h9 : M = 11
    · subst h9
      have HP : Hid (14 = P) := Lib.hid (by rw [if_pos rfl] at hP; exact hP)
      clear hP
      go_enter Try.func35, Try.ntmps35
      go_wp2
      go_ret
      exact ⟨by rw [← HP.out]; rfl, rfl⟩
    · have HP : Hid (M = P) := Lib.hid (by rw [if_neg h9] at hP; exact hP)
      have e1 : (M == 11) = false := beq_eq_false_iff_ne.2 (by omega)
      clear hP
      go_enter Try.func35, Try.ntmps35
      go_wp2
      go_ret
      exact ⟨by rw [← HP.out]; rfl, rfl⟩
end Go.Proofs.Ythikjknikdacbaa
