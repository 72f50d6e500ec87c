/-
  Contracts of Same of 05 at two lists of spans that are alike, and of long and level of the statements. Condition: at most 1000 spans.
-/
import Derived.Test.YtnocdminhcpmpaaRok
set_option linter.unusedVariables false
set_option linter.unusedSimpArgs false
namespace Go.Proofs.Ytnocdminhcpmpaa
open Go.ChangeShapes Go.WideShapes Go.ChangeAt Go.RowKit Go.Sort

set_option maxRecDepth 20000 in
set_option maxHeartbeats 4000000 in
theorem same5_ok (A B : Option Addr) (c d n : Nat) (rs : List Rn) (w : World) (hnx : n = rs.length) (hn : n ≤ 1000000) (h1 : HasN LSp w w.heap.size A rs) (h2 : HasN LSp w w.heap.size B rs) :
    Calls Try.prog 15 #[.slice A n c, .slice B n d] w fun e w' => e = .returned (.bool true) ∧ ∃ q, w' = w.drewN q := by
  have HN := Lib.hid hnx
  clear hnx
  go_enter Try.func15, Try.ntmps15
  go_wp2
  go_loopw [5] (fun i wr => ∃ k : Nat, k ≤ n ∧ i = .int .i64 k ∧ ∃ q, wr = w.drewN q) (fun i _ => n - (intOf i).toNat)
  case atStart => exact ⟨0, by omega, rfl, 0, rfl⟩
  case round =>
    obtain ⟨k, hk, rfl, q, rfl⟩ := hrel
    by_cases hlt : k < n
    · have hlt2 : k < rs.length := by rw [← HN.out]; exact hlt
      obtain ⟨b, off, rfl, hb, hc⟩ := h1.at_ hlt2
      obtain ⟨b2, off2, rfl, hb2, hc2⟩ := h2.at_ hlt2
      generalize rs[k] = X at hc hc2
      obtain ⟨x, y, z⟩ := X
      have c1 : w.cell? ⟨b, off + k * 3, none⟩ = some (.int .i64 (x : Int)) := hc 0 _ rfl
      have c2 : w.cell? ⟨b, off + k * 3 + 1, none⟩ = some (.int .i64 (y : Int)) := hc 1 _ rfl
      have c3 : w.cell? ⟨b, off + k * 3 + 2, none⟩ = some (.int .i64 (z : Int)) := hc 2 _ rfl
      have d1 : w.cell? ⟨b2, off2 + k * 3, none⟩ = some (.int .i64 (x : Int)) := hc2 0 _ rfl
      have d2 : w.cell? ⟨b2, off2 + k * 3 + 1, none⟩ = some (.int .i64 (y : Int)) := hc2 1 _ rfl
      have d3 : w.cell? ⟨b2, off2 + k * 3 + 2, none⟩ = some (.int .i64 (z : Int)) := hc2 2 _ rfl
      clear h1 h2 hc hc2
      go_wp2
      go_quiet (fail)
      go_wp2
      go_roundw
      case rel => exact ⟨k + 1, by omega, by go_num, _, rfl⟩
      case measure => simp [intOf] <;> omega
    · obtain rfl : k = n := by omega
      go_wp2
      go_ret
      exact ⟨rfl, _, rfl⟩
theorem long_ok (A : Option Addr) (n c : Nat) (w : World) : Calls Try.prog 9 #[.slice A n c] w fun e w' => e = .returned (.bool (decide (30 < n))) ∧ w = w' := by
  by_cases h : 30 < n
  · rw [decide_eq_true h]
    have h' : (30 : Int) < (n : Int) := by omega
    go_enter Try.func9, Try.ntmps9
    go_wp2
    go_ret
    exact ⟨rfl, rfl⟩
  · rw [decide_eq_false h]
    have h' : ¬ (30 : Int) < (n : Int) := by omega
    go_enter Try.func9, Try.ntmps9
    go_wp2
    go_ret
    exact ⟨rfl, rfl⟩
/-- a level out of any number -/
def levP (z : Int) : Nat := (z.tmod 126).natAbs
theorem lev_le (z : Int) : levP z ≤ 125 := by
  unfold levP
  have h1 := Int.tmod_lt_of_pos z (b := 126) (by decide)
  have h2 := Int.lt_tmod_of_pos z (b := 126) (by decide)
  omega
theorem level_ok (z : Int) (w : World) : Calls Try.prog 22 #[.int .i64 z] w fun e w' => e = .returned (.int .i64 (levP z : Int)) ∧ w = w' := by
  unfold levP
  obtain ⟨m, hm⟩ : ∃ m, z.tmod 126 = m := ⟨_, rfl⟩
  have h1 : m < 126 := by rw [← hm]; exact Int.tmod_lt_of_pos z (by decide)
  have h2 : -126 < m := by rw [← hm]; exact Int.lt_tmod_of_pos z (by decide)
  rw [hm]
  by_cases h : m < 0
  · have he : ((m.natAbs : Nat) : Int) = -m := by omega
    rw [he]
    clear he
    go_enter Try.func22, Try.ntmps22
    go_wp2
    go_ret
    exact ⟨rfl, rfl⟩
  · have he : ((m.natAbs : Nat) : Int) = m := by omega
    rw [he]
    clear he
    go_enter Try.func22, Try.ntmps22
    go_wp2
    go_ret
    exact ⟨rfl, rfl⟩
end Go.Proofs.Ytnocdminhcpmpaa
