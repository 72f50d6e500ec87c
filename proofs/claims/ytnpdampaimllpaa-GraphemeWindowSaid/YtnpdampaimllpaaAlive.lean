/-
  Contract of the chapter's examples: they answer true. Two equal slices of ints compare equal. No condition.
-/
import Derived.Test.YtnpdampaimllpaaCuts
import Derived.Test.YtnpdampaimllpaaGo
import Derived.Deep.QuietTactic
import Derived.BigQuiet
set_option linter.unusedVariables false
namespace Go.Proofs.Ytnpdampaimllpaa
open Go.ChangeShapes Go.WideShapes Go.ChangeAt Go.RowKit

set_option maxHeartbeats 1000000 in
theorem numbers_ok (A B : Option Addr) (c d n : Nat) (xs : List Int) (w : World) (hnx : n = xs.length) (hn : n ≤ 1000000) (h1 : Has w w.heap.size A (xs.map (Value.int .i64))) (h2 : Has w w.heap.size B (xs.map (Value.int .i64))) :
    Calls Try.prog 13 #[.slice A n c, .slice B n d] w fun e w' => e = .returned (.bool true) ∧ Below w.heap.size w w' := by
  have HN := Lib.hid hnx
  clear hnx
  go_enter Try.func13, Try.ntmps13
  go_wp2
  go_loopw [13] (fun i wr => ∃ k : Nat, k ≤ n ∧ i = .int .i64 k ∧ ∃ q, wr = w.drewN q) (fun i _ => n - (intOf i).toNat)
  case atStart => exact ⟨0, by omega, rfl, 0, rfl⟩
  case round =>
    obtain ⟨k, hk, rfl, q, rfl⟩ := hrel
    by_cases hlt : k < n
    · have hlt2 : k < xs.length := by rw [← HN.out]; exact hlt
      obtain ⟨b, off, rfl, hb, hc⟩ := h1.at_int hlt2
      obtain ⟨b2, off2, rfl, hb2, hc2⟩ := h2.at_int hlt2
      generalize xs[k] = X at hc hc2
      clear h1 h2
      go_wp2
      go_quiet (fail)
      go_wp2
      go_roundw
      case rel => exact ⟨k + 1, by omega, by go_num, _, rfl⟩
      case measure => simp [intOf] <;> omega
    · obtain rfl : k = n := by omega
      go_wp2
      go_ret
      exact ⟨rfl, below_drewN (Below.refl _ _) _⟩

theorem win_alive (e : Ending) (h : WinOf (cls [97, 769, 769, 98]) 1 e) : e = .returned (.tuple #[.int .i64 1, .int .i64 3]) := by
  obtain ⟨a, b, rfl, hv⟩ := h
  have hd : (cls [97, 769, 769, 98]).drop 1 = [4, 4, 0] := by kernel_rfl
  have k : WinV (cls [97, 769, 769, 98]) 1 1 3 := by
    refine ⟨fun h => absurd ⟨by omega, by rw [cls_len]; decide⟩ h, fun m hm _ => ?_⟩
    obtain rfl : m = 1 := by omega
    rw [hd]
    refine ⟨rfl, 0, ⟨by decide, fun j hj => absurd hj (by omega), .inr (by decide)⟩, fun h => absurd h (by omega), fun _ => ⟨2, ⟨by decide, fun j hj => ?_, .inr (by decide)⟩, by decide⟩⟩
    rcases j with _ | _ | j
    · decide
    · decide
    · omega
  obtain ⟨rfl, rfl⟩ := hv.unique k
  rfl
theorem lit_bounds (xs : List Int) (n : Nat) (hn : n = xs.length) (hm : n ≤ 1000) (A : Option Addr) (ys : List Int) (hy : zb (bnds (cls xs)) = ys) (w : World) (h : Has w w.heap.size A (xs.map (Value.int .i32))) :
    Calls Try.prog 14 #[.slice A n n] w fun e w' => SliceOf .i64 w w' e ys := by
  subst hy; subst hn
  exact bounds_ok A _ xs w hm (Nat.le_refl _) h
theorem lit_count (xs : List Int) (n : Nat) (hn : n = xs.length) (hm : n ≤ 1000) (A : Option Addr) (m : Nat) (hy : (cutsL (cls xs)).length = m) (w : World) (h : Has w w.heap.size A (xs.map (Value.int .i32))) :
    Calls Try.prog 11 #[.slice A n n] w fun e w' => e = .returned (.int .i64 m) ∧ Below w.heap.size w w' := by
  subst hy; subst hn
  exact count_ok A _ xs w hm (Nat.le_refl _) h
theorem lit_win (A : Option Addr) (w : World) (h : Has w w.heap.size A (([97, 769, 769, 98] : List Int).map (Value.int .i32))) :
    Calls Try.prog 16 #[.slice A 4 4, .int .i64 1] w fun e w' => e = .returned (.tuple #[.int .i64 1, .int .i64 3]) ∧ Below w.heap.size w w' :=
  (win_ok A 4 1 [97, 769, 769, 98] w (by decide) (by decide) h).mono fun e w' ⟨he, hu⟩ => ⟨win_alive e he, hu.1⟩

theorem Has.lit (w : World) (xs : List Int) (cs : Array Value) (hcs : (xs.map (Value.int .i32)).toArray = cs) : Has (w.alloc (.cells cs 21)) (w.alloc (.cells cs 21)).heap.size (some ⟨w.heap.size, 0, none⟩) (xs.map (Value.int .i32)) := by
  subst hcs; exact has_lit w .i32 21 xs

set_option maxHeartbeats 1000000 in
theorem alive_ok (w : World) : Calls Try.prog 8 #[] w fun e w' => e = .returned (.bool true) ∧ Below w.heap.size w w' := by
  have H1 : Hid (∀ A w, Has w w.heap.size A (([101, 769, 120] : List Int).map (Value.int .i32)) → Calls Try.prog 14 #[.slice A 3 3] w fun e w' => SliceOf .i64 w w' e [0, 2, 3]) := Lib.hid (fun A w h => lit_bounds [101, 769, 120] 3 rfl (by omega) A [0, 2, 3] (by kernel_rfl) w h)
  have H2 : Hid (∀ A w, Has w w.heap.size A (([127462, 127462, 127462, 127462] : List Int).map (Value.int .i32)) → Calls Try.prog 14 #[.slice A 4 4] w fun e w' => SliceOf .i64 w w' e [0, 2, 4]) := Lib.hid (fun A w h => lit_bounds [127462, 127462, 127462, 127462] 4 rfl (by omega) A [0, 2, 4] (by kernel_rfl) w h)
  have H3 : Hid (∀ A w, Has w w.heap.size A (([97, 769, 769, 98] : List Int).map (Value.int .i32)) → Calls Try.prog 16 #[.slice A 4 4, .int .i64 1] w fun e w' => e = .returned (.tuple #[.int .i64 1, .int .i64 3]) ∧ Below w.heap.size w w') := Lib.hid (fun A w h => lit_win A w h)
  have H4 : Hid (∀ A w, Has w w.heap.size A (([13, 10] : List Int).map (Value.int .i32)) → Calls Try.prog 11 #[.slice A 2 2] w fun e w' => e = .returned (.int .i64 1) ∧ Below w.heap.size w w') := Lib.hid (fun A w h => lit_count [13, 10] 2 rfl (by omega) A 1 (by kernel_rfl) w h)
  have H5 : Hid (∀ A w, Has w w.heap.size A (([128102, 8205, 128102] : List Int).map (Value.int .i32)) → Calls Try.prog 11 #[.slice A 3 3] w fun e w' => e = .returned (.int .i64 1) ∧ Below w.heap.size w w') := Lib.hid (fun A w h => lit_count [128102, 8205, 128102] 3 rfl (by omega) A 1 (by kernel_rfl) w h)
  have H6 : Hid (∀ A w, Has w w.heap.size A (([97, 8205, 128102] : List Int).map (Value.int .i32)) → Calls Try.prog 11 #[.slice A 3 3] w fun e w' => e = .returned (.int .i64 2) ∧ Below w.heap.size w w') := Lib.hid (fun A w h => lit_count [97, 8205, 128102] 3 rfl (by omega) A 2 (by kernel_rfl) w h)
  go_enter Try.func8, Try.ntmps8
  go_wp2_with (first
    | (go_at_call 14; (with_reducible refine (H1.out _ _ (by exact Has.lit w [101, 769, 120] _ rfl)).mono ?_); rintro e u1 ⟨v1, rfl, A1, c1, rfl, hf1, hh1, hb1⟩; have hC1 := ((Below.refl w.heap.size w).alloc (Nat.le_refl _) (.cells #[.int .i32 101, .int .i32 769, .int .i32 120] 21)).trans (hb1.mono (by simp)); have hB1 := hC1)
    | (go_at_call 14; (with_reducible refine (H2.out _ _ (by exact Has.lit u1 [127462, 127462, 127462, 127462] _ rfl)).mono ?_); rintro e u2 ⟨v2, rfl, A2, c2, rfl, hf2, hh2, hb2⟩; have hC2 := ((Below.refl u1.heap.size u1).alloc (Nat.le_refl _) (.cells #[.int .i32 127462, .int .i32 127462, .int .i32 127462, .int .i32 127462] 21)).trans (hb2.mono (by simp)); have hB2 := below_trans hB1 hC2 hB1.size; have hh1b := hh1.carry hC2)
    | (go_at_call 16; (with_reducible refine (H3.out _ _ (by exact Has.lit u2 [97, 769, 769, 98] _ rfl)).mono ?_); rintro e u3 ⟨rfl, hb3⟩; have hC3 := ((Below.refl u2.heap.size u2).alloc (Nat.le_refl _) (.cells #[.int .i32 97, .int .i32 769, .int .i32 769, .int .i32 98] 21)).trans (hb3.mono (by simp)); have hB3 := below_trans hB2 hC3 hB2.size; have hh1c := hh1b.carry hC3; have hh2c := hh2.carry hC3; obtain ⟨b1, o1, rfl, hbb1, hr1⟩ := hh1c.at_int (k := 1) (by decide); obtain ⟨b2, o2, rfl, hbb2, hr2⟩ := hh2c.at_int (k := 1) (by decide); simp only [List.getElem_cons_succ, List.getElem_cons_zero] at hr1 hr2)
    | (go_at_call 11; (with_reducible refine (H4.out _ _ (by exact Has.lit u3 [13, 10] _ rfl)).mono ?_); rintro e u4 ⟨rfl, hb4⟩; have hC4 := ((Below.refl u3.heap.size u3).alloc (Nat.le_refl _) (.cells #[.int .i32 13, .int .i32 10] 21)).trans (hb4.mono (by simp)); have hB4 := below_trans hB3 hC4 hB3.size)
    | (go_at_call 11; (with_reducible refine (H5.out _ _ (by exact Has.lit u4 [128102, 8205, 128102] _ rfl)).mono ?_); rintro e u5 ⟨rfl, hb5⟩; have hC5 := ((Below.refl u4.heap.size u4).alloc (Nat.le_refl _) (.cells #[.int .i32 128102, .int .i32 8205, .int .i32 128102] 21)).trans (hb5.mono (by simp)); have hB5 := below_trans hB4 hC5 hB4.size)
    | (go_at_call 11; (with_reducible refine (H6.out _ _ (by exact Has.lit u5 [97, 8205, 128102] _ rfl)).mono ?_); rintro e u6 ⟨rfl, hb6⟩; have hC6 := ((Below.refl u5.heap.size u5).alloc (Nat.le_refl _) (.cells #[.int .i32 97, .int .i32 8205, .int .i32 128102] 21)).trans (hb6.mono (by simp)); have hB6 := below_trans hB5 hC6 hB5.size))
  go_ret
  exact ⟨rfl, hB6⟩
end Go.Proofs.Ytnpdampaimllpaa
