/-
  Contract of the library's FullRune at any bytes, over the library's two tables. No condition beside the tables.
-/
import Derived.Test.YtcegaelpbeefaaaDoorGives
import Derived.Test.YtcegaelpbeefaaaDoorShelf2
import Derived.Deep.QuietTactic
import Derived.BigQuiet
set_option linter.unusedVariables false
namespace Go.Proofs.YtcegaelpbeefaaaDoor
open Go.ChangeShapes Go.WideShapes Go.ChangeAt Go.RowKit

/-- a first byte whose form has no more bytes than there are -/
theorem full_whole (b off n c : Nat) (x0 F : Nat) (w : World) (hn : 1 ≤ n) (h0 : x0 < 256) (hs0 : w.cell? ⟨b, off, none⟩ = some (.int .u8 x0)) (hF : w.cell? ⟨0, x0, none⟩ = some (.int .u8 F))
    (hk : (F = 240 ∧ 0 ≤ n) ∨ (F = 241 ∧ 1 ≤ n) ∨ (F = 2 ∧ 2 ≤ n) ∨ ((F = 19 ∨ F = 3 ∨ F = 35) ∧ 3 ≤ n) ∨ ((F = 52 ∨ F = 4 ∨ F = 68) ∧ 4 ≤ n)) :
    Calls Tryd.prog 43 #[.slice (some ⟨b, off, none⟩) n c] w fun e w' => e = .returned (.bool true) ∧ Below w.heap.size w w' := by
  have hne : ¬ ((n : Int) = 0) := by omega
  have hpos : (0 : Int) < n := by omega
  rcases hk with ⟨rfl, hk⟩ | ⟨rfl, hk⟩ | ⟨rfl, hk⟩ | ⟨hF3, hk⟩ | ⟨hF4, hk⟩
  · have hge : (n : Int) ≥ 0 := by omega
    go_enter Tryd.func43, Tryd.ntmps43
    go_wp2
    go_ret
    exact ⟨rfl, Below.refl _ _⟩
  · have hge : (n : Int) ≥ 1 := by omega
    go_enter Tryd.func43, Tryd.ntmps43
    go_wp2
    go_ret
    exact ⟨rfl, Below.refl _ _⟩
  · have hge : (n : Int) ≥ 2 := by omega
    go_enter Tryd.func43, Tryd.ntmps43
    go_wp2
    go_ret
    exact ⟨rfl, Below.refl _ _⟩
  · have hge : (n : Int) ≥ 3 := by omega
    rcases hF3 with rfl | rfl | rfl
    all_goals
      go_enter Tryd.func43, Tryd.ntmps43
      go_wp2
      go_ret
      exact ⟨rfl, Below.refl _ _⟩
  · have hge : (n : Int) ≥ 4 := by omega
    rcases hF4 with rfl | rfl | rfl
    all_goals
      go_enter Tryd.func43, Tryd.ntmps43
      go_wp2
      go_ret
      exact ⟨rfl, Below.refl _ _⟩

/-- one byte of a longer form -/
theorem full_one (b off c : Nat) (x0 F : Nat) (w : World) (h0 : x0 < 256) (hs0 : w.cell? ⟨b, off, none⟩ = some (.int .u8 x0)) (hF : w.cell? ⟨0, x0, none⟩ = some (.int .u8 F))
    (lo hi i : Nat) (hk : F = 2 ∧ i = 0 ∨ F = 19 ∧ i = 1 ∨ F = 3 ∧ i = 0 ∨ F = 35 ∧ i = 2 ∨ F = 52 ∧ i = 3 ∨ F = 4 ∧ i = 0 ∨ F = 68 ∧ i = 4)
    (hl : w.cell? ⟨1, 2 * i, none⟩ = some (.int .u8 lo)) (hh : w.cell? ⟨1, 2 * i + 1, none⟩ = some (.int .u8 hi)) :
    Calls Tryd.prog 43 #[.slice (some ⟨b, off, none⟩) 1 c] w fun e w' => e = .returned (.bool false) ∧ Below w.heap.size w w' := by
  rcases hk with ⟨rfl, rfl⟩ | ⟨rfl, rfl⟩ | ⟨rfl, rfl⟩ | ⟨rfl, rfl⟩ | ⟨rfl, rfl⟩ | ⟨rfl, rfl⟩ | ⟨rfl, rfl⟩
  all_goals
    simp only [Nat.reduceMul, Nat.reduceAdd] at hl hh
    go_enter Tryd.func43, Tryd.ntmps43
    go_wp2
    go_quiet (fail)
    go_wp2
    go_ret
    exact ⟨rfl, below_drewN ((Below.refl _ _).alloc (Nat.le_refl _) _) _⟩

set_option maxHeartbeats 2000000 in
/-- two bytes of a longer form -/
theorem full_two (b off c : Nat) (x0 x1 F : Nat) (w : World) (h0 : x0 < 256) (hs0 : w.cell? ⟨b, off, none⟩ = some (.int .u8 x0)) (hs1 : w.cell? ⟨b, off + 1, none⟩ = some (.int .u8 x1)) (hF : w.cell? ⟨0, x0, none⟩ = some (.int .u8 F))
    (lo hi i : Nat) (hk : F = 19 ∧ i = 1 ∨ F = 3 ∧ i = 0 ∨ F = 35 ∧ i = 2 ∨ F = 52 ∧ i = 3 ∨ F = 4 ∧ i = 0 ∨ F = 68 ∧ i = 4)
    (hl : w.cell? ⟨1, 2 * i, none⟩ = some (.int .u8 lo)) (hh : w.cell? ⟨1, 2 * i + 1, none⟩ = some (.int .u8 hi)) (hb : b < w.heap.size) :
    Calls Tryd.prog 43 #[.slice (some ⟨b, off, none⟩) 2 c] w fun e w' => e = .returned (.bool (decide (¬ (lo ≤ x1 ∧ x1 ≤ hi)))) ∧ Below w.heap.size w w' := by
  by_cases k1 : x1 < lo
  · have e : decide (¬ (lo ≤ x1 ∧ x1 ≤ hi)) = true := by simp; omega
    rw [e]
    clear e
    have k1' : (x1 : Int) < lo := by omega
    rcases hk with ⟨rfl, rfl⟩ | ⟨rfl, rfl⟩ | ⟨rfl, rfl⟩ | ⟨rfl, rfl⟩ | ⟨rfl, rfl⟩ | ⟨rfl, rfl⟩
    all_goals
      simp only [Nat.reduceMul, Nat.reduceAdd] at hl hh
      go_enter Tryd.func43, Tryd.ntmps43
      go_wp2
      go_quiet (fail)
      go_wp2
      go_ret
      exact ⟨rfl, below_drewN ((Below.refl _ _).alloc (Nat.le_refl _) _) _⟩
  have k1' : ¬ (x1 : Int) < lo := by omega
  by_cases k2 : hi < x1
  · have e : decide (¬ (lo ≤ x1 ∧ x1 ≤ hi)) = true := by simp; omega
    rw [e]
    clear e
    have k2' : (hi : Int) < x1 := by omega
    rcases hk with ⟨rfl, rfl⟩ | ⟨rfl, rfl⟩ | ⟨rfl, rfl⟩ | ⟨rfl, rfl⟩ | ⟨rfl, rfl⟩ | ⟨rfl, rfl⟩
    all_goals
      simp only [Nat.reduceMul, Nat.reduceAdd] at hl hh
      go_enter Tryd.func43, Tryd.ntmps43
      go_wp2
      go_quiet (fail)
      go_wp2
      go_ret
      exact ⟨rfl, below_drewN ((Below.refl _ _).alloc (Nat.le_refl _) _) _⟩
  · have e : decide (¬ (lo ≤ x1 ∧ x1 ≤ hi)) = false := by simp; omega
    rw [e]
    clear e
    have k2' : ¬ (hi : Int) < x1 := by omega
    rcases hk with ⟨rfl, rfl⟩ | ⟨rfl, rfl⟩ | ⟨rfl, rfl⟩ | ⟨rfl, rfl⟩ | ⟨rfl, rfl⟩ | ⟨rfl, rfl⟩
    all_goals
      simp only [Nat.reduceMul, Nat.reduceAdd] at hl hh
      go_enter Tryd.func43, Tryd.ntmps43
      go_wp2
      go_quiet (fail)
      go_wp2
      go_ret
      exact ⟨rfl, below_drewN ((Below.refl _ _).alloc (Nat.le_refl _) _) _⟩
set_option maxHeartbeats 2000000 in
/-- three bytes of a longer form -/
theorem full_three (b off c : Nat) (x0 x1 x2 F : Nat) (w : World) (h0 : x0 < 256) (hs0 : w.cell? ⟨b, off, none⟩ = some (.int .u8 x0)) (hs1 : w.cell? ⟨b, off + 1, none⟩ = some (.int .u8 x1)) (hs2 : w.cell? ⟨b, off + 2, none⟩ = some (.int .u8 x2)) (hF : w.cell? ⟨0, x0, none⟩ = some (.int .u8 F))
    (lo hi i : Nat) (hk : F = 52 ∧ i = 3 ∨ F = 4 ∧ i = 0 ∨ F = 68 ∧ i = 4)
    (hl : w.cell? ⟨1, 2 * i, none⟩ = some (.int .u8 lo)) (hh : w.cell? ⟨1, 2 * i + 1, none⟩ = some (.int .u8 hi)) (hb : b < w.heap.size) :
    Calls Tryd.prog 43 #[.slice (some ⟨b, off, none⟩) 3 c] w fun e w' => e = .returned (.bool (decide (¬ ((lo ≤ x1 ∧ x1 ≤ hi) ∧ 128 ≤ x2 ∧ x2 ≤ 191)))) ∧ Below w.heap.size w w' := by
  by_cases k1 : x1 < lo
  · have e : decide (¬ ((lo ≤ x1 ∧ x1 ≤ hi) ∧ 128 ≤ x2 ∧ x2 ≤ 191)) = true := decide_eq_true (by omega)
    rw [e]
    clear e
    have k1' : (x1 : Int) < lo := by omega
    rcases hk with ⟨rfl, rfl⟩ | ⟨rfl, rfl⟩ | ⟨rfl, rfl⟩
    all_goals
      simp only [Nat.reduceMul, Nat.reduceAdd] at hl hh
      go_enter Tryd.func43, Tryd.ntmps43
      go_wp2
      go_quiet (fail)
      go_wp2
      go_ret
      exact ⟨rfl, below_drewN ((Below.refl _ _).alloc (Nat.le_refl _) _) _⟩
  have k1' : ¬ (x1 : Int) < lo := by omega
  by_cases k2 : hi < x1
  · have e : decide (¬ ((lo ≤ x1 ∧ x1 ≤ hi) ∧ 128 ≤ x2 ∧ x2 ≤ 191)) = true := decide_eq_true (by omega)
    rw [e]
    clear e
    have k2' : (hi : Int) < x1 := by omega
    rcases hk with ⟨rfl, rfl⟩ | ⟨rfl, rfl⟩ | ⟨rfl, rfl⟩
    all_goals
      simp only [Nat.reduceMul, Nat.reduceAdd] at hl hh
      go_enter Tryd.func43, Tryd.ntmps43
      go_wp2
      go_quiet (fail)
      go_wp2
      go_ret
      exact ⟨rfl, below_drewN ((Below.refl _ _).alloc (Nat.le_refl _) _) _⟩
  have k2' : ¬ (hi : Int) < x1 := by omega
  by_cases k3 : x2 < 128
  · have e : decide (¬ ((lo ≤ x1 ∧ x1 ≤ hi) ∧ 128 ≤ x2 ∧ x2 ≤ 191)) = true := decide_eq_true (by omega)
    rw [e]
    clear e
    have k3' : (x2 : Int) < 128 := by omega
    rcases hk with ⟨rfl, rfl⟩ | ⟨rfl, rfl⟩ | ⟨rfl, rfl⟩
    all_goals
      simp only [Nat.reduceMul, Nat.reduceAdd] at hl hh
      go_enter Tryd.func43, Tryd.ntmps43
      go_wp2
      go_quiet (fail)
      go_wp2
      go_ret
      exact ⟨rfl, below_drewN ((Below.refl _ _).alloc (Nat.le_refl _) _) _⟩
  have k3' : ¬ (x2 : Int) < 128 := by omega
  by_cases k4 : 191 < x2
  · have e : decide (¬ ((lo ≤ x1 ∧ x1 ≤ hi) ∧ 128 ≤ x2 ∧ x2 ≤ 191)) = true := decide_eq_true (by omega)
    rw [e]
    clear e
    have k4' : (191 : Int) < x2 := by omega
    rcases hk with ⟨rfl, rfl⟩ | ⟨rfl, rfl⟩ | ⟨rfl, rfl⟩
    all_goals
      simp only [Nat.reduceMul, Nat.reduceAdd] at hl hh
      go_enter Tryd.func43, Tryd.ntmps43
      go_wp2
      go_quiet (fail)
      go_wp2
      go_ret
      exact ⟨rfl, below_drewN ((Below.refl _ _).alloc (Nat.le_refl _) _) _⟩
  · have e : decide (¬ ((lo ≤ x1 ∧ x1 ≤ hi) ∧ 128 ≤ x2 ∧ x2 ≤ 191)) = false := decide_eq_false (by omega)
    rw [e]
    clear e
    have k4' : ¬ (191 : Int) < x2 := by omega
    rcases hk with ⟨rfl, rfl⟩ | ⟨rfl, rfl⟩ | ⟨rfl, rfl⟩
    all_goals
      simp only [Nat.reduceMul, Nat.reduceAdd] at hl hh
      go_enter Tryd.func43, Tryd.ntmps43
      go_wp2
      go_quiet (fail)
      go_wp2
      go_ret
      exact ⟨rfl, below_drewN ((Below.refl _ _).alloc (Nat.le_refl _) _) _⟩

end Go.Proofs.YtcegaelpbeefaaaDoor
