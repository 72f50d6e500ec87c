/-
  Contracts of the document's Room and Same: Room tells whether the sum of the positive weights is an int, and Same is true of two slices that hold the same ints.
-/
import Derived.Test.YtijhcgppahncdaaHas
import Derived.Test.YtijhcgppahncdaaPart
import Derived.LoopTactic
import Derived.Deep.QuietTactic
import Derived.BigQuiet
set_option linter.unusedVariables false
namespace Go.Proofs.Ytijhcgppahncdaa
open Go.ChangeShapes Go.WideShapes Go.ChangeAt Go.RowKit

/-- the sum of the weights that count -/
def psum : List Int → Int
  | [] => 0
  | z :: l => pw z + psum l
theorem psum_append (l m : List Int) : psum (l ++ m) = psum l + psum m := by
  induction l with
  | nil => simp [psum]
  | cons z l ih => simp [psum, ih]; omega
theorem psum_nonneg (l : List Int) : 0 ≤ psum l := by
  induction l with
  | nil => simp [psum]
  | cons z l ih => have := pw_nonneg z; simp [psum]; omega
theorem psum_take (l : List Int) (k : Nat) (h : k < l.length) : psum (l.take (k + 1)) = psum (l.take k) + pw l[k] := by
  rw [List.take_succ_eq_append_getElem h, psum_append]; simp [psum]
theorem psum_le (l : List Int) (k : Nat) : psum (l.take k) ≤ psum l := by
  have h := psum_append (l.take k) (l.drop k)
  rw [List.take_append_drop] at h
  have := psum_nonneg (l.drop k)
  omega
theorem psum_all (l : List Int) : psum (l.take l.length) = psum l := by rw [List.take_length]

theorem room_yes (A : Option Addr) (c : Nat) (zs : List Int) (w : World) (h : Has w w.heap.size A (zs.map (Value.int .i64))) (hn : zs.length ≤ 9223372036854775807)
    (hwf : ∀ z ∈ zs, -9223372036854775808 ≤ z ∧ z ≤ 9223372036854775807) (hs : psum zs ≤ 9223372036854775807) :
    Calls Try.prog 16 #[.slice A zs.length c] w fun e w' => e = .returned (.bool true) ∧ w = w' := by
  go_enter Try.func16, Try.ntmps16
  go_wp2
  go_loop [3, 4] (fun l i => ∃ k : Nat, k ≤ zs.length ∧ i = .int .i64 k ∧ l = .int .i64 (9223372036854775807 - psum (zs.take k))) (fun _ i => zs.length - (intOf i).toNat)
  case atStart => exact ⟨0, by omega, rfl, by simp [psum]⟩
  case round =>
    obtain ⟨k, hk, rfl, rfl⟩ := hrel
    have hp0 := psum_nonneg (zs.take k)
    have hp1 := psum_le zs k
    by_cases hlt : k < zs.length
    · obtain ⟨b, off, rfl, hb, hc⟩ := h.at_int hlt
      have ht := psum_take zs k hlt
      have hp2 := psum_le zs (k + 1)
      obtain ⟨hz0, hz1⟩ := hwf zs[k] (List.getElem_mem hlt)
      obtain ⟨z, hz⟩ : ∃ z, zs[k] = z := ⟨_, rfl⟩
      rw [hz] at hc ht hz0 hz1
      obtain ⟨S, hS⟩ : ∃ S, psum (zs.take k) = S := ⟨_, rfl⟩
      obtain ⟨S', hS'⟩ : ∃ S, psum (zs.take (k + 1)) = S := ⟨_, rfl⟩
      rw [hS] at hp0 hp1 ht ⊢
      rw [hS'] at hp2 ht
      have HS' := Lib.hid hS'
      clear hz hS hS' h
      by_cases hp : 0 < z
      · rw [pw_pos hp] at ht
        have HT := Lib.hid ht
        have hle : z ≤ 9223372036854775807 - S := by omega
        clear ht
        go_wp2
        go_round
        case rel => exact ⟨k + 1, by omega, by go_num, by rw [HS'.out, HT.out]; go_num⟩
        case measure => simp [intOf]; omega
      · rw [pw_neg hp] at ht
        have HT := Lib.hid ht
        have hle : z ≤ 9223372036854775807 - S := by omega
        clear ht
        go_wp2
        go_round
        case rel => exact ⟨k + 1, by omega, by go_num, by rw [HS'.out, HT.out]; go_num⟩
        case measure => simp [intOf]; omega
    · go_wp2
      go_ret
      exact ⟨rfl, rfl⟩

theorem room_no (A : Option Addr) (c : Nat) (zs : List Int) (w : World) (h : Has w w.heap.size A (zs.map (Value.int .i64))) (hn : zs.length ≤ 9223372036854775807)
    (hwf : ∀ z ∈ zs, -9223372036854775808 ≤ z ∧ z ≤ 9223372036854775807) (hs : 9223372036854775807 < psum zs) :
    Calls Try.prog 16 #[.slice A zs.length c] w fun e w' => e = .returned (.bool false) ∧ w = w' := by
  go_enter Try.func16, Try.ntmps16
  go_wp2
  go_loop [3, 4] (fun l i => ∃ k : Nat, k ≤ zs.length ∧ i = .int .i64 k ∧ l = .int .i64 (9223372036854775807 - psum (zs.take k)) ∧ psum (zs.take k) ≤ 9223372036854775807) (fun _ i => zs.length - (intOf i).toNat)
  case atStart => exact ⟨0, by omega, rfl, by simp [psum], by simp [psum]⟩
  case round =>
    obtain ⟨k, hk, rfl, rfl, hle0⟩ := hrel
    have hp0 := psum_nonneg (zs.take k)
    by_cases hlt : k < zs.length
    · obtain ⟨b, off, rfl, hb, hc⟩ := h.at_int hlt
      have ht := psum_take zs k hlt
      obtain ⟨hz0, hz1⟩ := hwf zs[k] (List.getElem_mem hlt)
      obtain ⟨z, hz⟩ : ∃ z, zs[k] = z := ⟨_, rfl⟩
      rw [hz] at hc ht hz0 hz1
      obtain ⟨S, hS⟩ : ∃ S, psum (zs.take k) = S := ⟨_, rfl⟩
      obtain ⟨S', hS'⟩ : ∃ S, psum (zs.take (k + 1)) = S := ⟨_, rfl⟩
      rw [hS] at hp0 hle0 ht ⊢
      rw [hS'] at ht
      have HS' := Lib.hid hS'
      clear hz hS hS' h
      by_cases hp : 0 < z
      · rw [pw_pos hp] at ht
        by_cases hle : z ≤ 9223372036854775807 - S
        · have HT := Lib.hid ht
          clear ht
          go_wp2
          go_round
          case rel => exact ⟨k + 1, by omega, by go_num, by rw [HS'.out, HT.out]; go_num, by rw [HS'.out, HT.out]; omega⟩
          case measure => simp [intOf]; omega
        · clear ht
          go_wp2
          go_ret
          exact ⟨rfl, rfl⟩
      · rw [pw_neg hp] at ht
        have HT := Lib.hid ht
        have hle : z ≤ 9223372036854775807 - S := by omega
        clear ht
        go_wp2
        go_round
        case rel => exact ⟨k + 1, by omega, by go_num, by rw [HS'.out, HT.out]; go_num, by rw [HS'.out, HT.out]; omega⟩
        case measure => simp [intOf]; omega
    · exfalso
      obtain rfl : k = zs.length := by omega
      rw [psum_all] at hle0
      omega

theorem same_yes (A A' : Option Addr) (c c' : Nat) (zs : List Int) (w : World) (h : Has w w.heap.size A (zs.map (Value.int .i64))) (h' : Has w w.heap.size A' (zs.map (Value.int .i64))) (hn : zs.length ≤ 9223372036854775807) :
    Calls Try.prog 17 #[.slice A zs.length c, .slice A' zs.length c'] w fun e w' => e = .returned (.bool true) ∧ Below w.heap.size w w' := by
  go_enter Try.func17, Try.ntmps17
  go_wp2
  go_loopw [5] (fun i wr => ∃ (k j : Nat), k ≤ zs.length ∧ i = .int .i64 k ∧ wr = w.drewN j) (fun i _ => zs.length - (intOf i).toNat)
  case atStart => exact ⟨0, 0, by omega, rfl, rfl⟩
  case round =>
    obtain ⟨k, j, hk, rfl, rfl⟩ := hrel
    by_cases hlt : k < zs.length
    · obtain ⟨b, off, rfl, hb, hc⟩ := h.at_int hlt
      obtain ⟨b', off', rfl, hb', hc'⟩ := h'.at_int hlt
      clear h h'
      go_wp2
      go_quiet (fail)
      go_wp2
      go_roundw
      case rel => exact ⟨k + 1, _, by omega, by go_num, rfl⟩
      case measure => simp [intOf]; omega
    · go_wp2
      go_ret
      exact ⟨rfl, below_drewN (Below.refl _ _) _⟩
end Go.Proofs.Ytijhcgppahncdaa
