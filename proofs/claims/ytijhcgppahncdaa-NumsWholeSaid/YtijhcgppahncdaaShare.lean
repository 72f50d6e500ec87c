/-
  Contract of nums.Share: for at most 65536 weights whose sum is an int it returns no slice where that sum is 0, and else a new slice of the parts, each a difference of two floors.
-/
import Derived.Test.YtijhcgppahncdaaRefShare
import Derived.Deep.OwnRows
set_option linter.unusedVariables false
namespace Go.Proofs.Ytijhcgppahncdaa
open Go.ChangeShapes Go.WideShapes Go.ChangeAt Go.RowKit

/-- a row that has been filled up to k -/
def filled (t : Int) (zs : List Int) (k : Nat) (j : Nat) : Value := .int .i64 (if j < k then onePart t zs j else 0)
theorem filled_step (t : Int) (zs : List Int) (k : Nat) (j : Nat) : (if j = k then Value.int .i64 (onePart t zs k) else filled t zs k j) = filled t zs (k + 1) j := by
  unfold filled
  by_cases h : j = k
  · subst h; rw [if_pos rfl, if_pos (by omega)]
  · rw [if_neg h]
    by_cases h' : j < k
    · rw [if_pos h', if_pos (by omega)]
    · rw [if_neg h', if_neg (by omega)]
theorem filled_has {w : World} {g : Nat} {t : Int} {zs : List Int} (h : w.rowIs g 3 zs.length (filled t zs zs.length)) : Has w w.heap.size (some ⟨g, 0, none⟩) ((parts t zs zs.length).map (Value.int .i64)) := fun _ => by
  refine ⟨g, 0, rfl, h.lt, fun j u hu => ?_⟩
  rw [List.getElem?_map, Option.map_eq_some_iff] at hu
  obtain ⟨z, hz, rfl⟩ := hu
  unfold parts at hz
  rw [List.getElem?_map, Option.map_eq_some_iff] at hz
  obtain ⟨i, hi, rfl⟩ := hz
  obtain ⟨hl, rfl⟩ := List.getElem?_eq_some_iff.1 hi
  simp only [List.length_range] at hl
  rw [Nat.zero_add, h.cell hl]
  simp [filled, hl]

set_option maxHeartbeats 1000000 in
theorem share_nil (t : Int) (A : Option Addr) (c : Nat) (zs : List Int) (w : World) (h : Has w w.heap.size A (zs.map (Value.int .i64))) (hn : zs.length ≤ 65536)
    (hwf : ∀ z ∈ zs, -9223372036854775808 ≤ z ∧ z ≤ 9223372036854775807) (hs : psum zs = 0) :
    Calls Try.prog 18 #[.int .i64 t, .slice A zs.length c] w fun e w' => e = .returned (.slice none 0 0) ∧ Below w.heap.size w w' := by
  go_enter Try.func18, Try.ntmps18
  have HS := Lib.hid hs
  clear hs
  go_wp2
  go_loop [5, 16] (fun l i => ∃ k : Nat, k ≤ zs.length ∧ i = .int .i64 k ∧ l = .int .i64 (psum (zs.take k))) (fun _ i => zs.length - (intOf i).toNat)
  case atStart => exact ⟨0, by omega, rfl, by simp [psum]⟩
  case round =>
    obtain ⟨k, hk, rfl, rfl⟩ := hrel
    have hp0 := psum_nonneg (zs.take k)
    have hp1 := psum_le zs k
    rw [HS.out] at hp1
    by_cases hlt : k < zs.length
    · obtain ⟨b, off, rfl, hb, hc⟩ := h.at_int hlt
      have ht := psum_take zs k hlt
      have hp2 := psum_le zs (k + 1)
      rw [HS.out] at hp2
      obtain ⟨hz0, hz1⟩ := hwf zs[k] (List.getElem_mem hlt)
      obtain ⟨z, hz⟩ : ∃ z, zs[k] = z := ⟨_, rfl⟩
      rw [hz] at hc ht hz0 hz1
      obtain ⟨S, hS⟩ : ∃ S, psum (zs.take k) = S := ⟨_, rfl⟩
      rw [hS] at hp0 hp1 ht ⊢
      have hcl := addWeight_any S z hp0 (by omega)
      have HT := Lib.hid ht
      clear hz hS h ht
      go_wp2_with (go_at_call 26; refine (hcl _).mono ?_; rintro e w' ⟨rfl, rfl⟩)
      go_round
      case rel => exact ⟨k + 1, by omega, by go_num, by rw [HT.out]⟩
      case measure => simp [intOf]; omega
    · obtain rfl : k = zs.length := by omega
      have he : psum (zs.take zs.length) = 0 := by rw [psum_all]; exact HS.out
      rw [he]
      clear he hp0 hp1
      go_wp2
      go_ret
      exact ⟨rfl, Below.refl _ _⟩

set_option maxHeartbeats 2000000 in
theorem share_any (t : Int) (t0 : -9223372036854775808 ≤ t) (t1 : t ≤ 9223372036854775807) (A : Option Addr) (c : Nat) (zs : List Int) (w : World) (h : Has w w.heap.size A (zs.map (Value.int .i64))) (hn : zs.length ≤ 65536)
    (hwf : ∀ z ∈ zs, -9223372036854775808 ≤ z ∧ z ≤ 9223372036854775807) (hs : 0 < psum zs) (hs' : psum zs ≤ 9223372036854775807) :
    Calls Try.prog 18 #[.int .i64 t, .slice A zs.length c] w fun e w' => ∃ g, e = .returned (.slice (some ⟨g, 0, none⟩) zs.length zs.length) ∧ w.heap.size ≤ g ∧ w'.rowIs g 3 zs.length (filled t zs zs.length) ∧ Below w.heap.size w w' := by
  have hmk := run_make_row' (P := Try.prog) 27 3 (.int .i64 0) 8 Try.underlying27 Try.info3 rfl .i64 .i64 zs.length (by omega) (by omega)
  have h' := h
  have HH := Lib.hid h'
  clear h'
  obtain ⟨S, hSz⟩ : ∃ S, psum zs = S := ⟨_, rfl⟩
  rw [hSz] at hs hs'
  have HS := Lib.hid hSz
  clear hSz
  go_enter Try.func18, Try.ntmps18
  go_wp2
  go_loop [5, 16] (fun l i => ∃ k : Nat, k ≤ zs.length ∧ i = .int .i64 k ∧ l = .int .i64 (psum (zs.take k))) (fun _ i => zs.length - (intOf i).toNat)
  case atStart => exact ⟨0, by omega, rfl, by simp [psum]⟩
  case round =>
    obtain ⟨k, hk, rfl, rfl⟩ := hrel
    have hp0 := psum_nonneg (zs.take k)
    have hp1 := psum_le zs k
    rw [HS.out] at hp1
    by_cases hlt : k < zs.length
    · obtain ⟨b, off, rfl, hb, hc⟩ := h.at_int hlt
      have ht := psum_take zs k hlt
      have hp2 := psum_le zs (k + 1)
      rw [HS.out] at hp2
      obtain ⟨hz0, hz1⟩ := hwf zs[k] (List.getElem_mem hlt)
      obtain ⟨z, hz⟩ : ∃ z, zs[k] = z := ⟨_, rfl⟩
      rw [hz] at hc ht hz0 hz1
      obtain ⟨S0, hS⟩ : ∃ S, psum (zs.take k) = S := ⟨_, rfl⟩
      rw [hS] at hp0 hp1 ht ⊢
      have hcl := addWeight_any S0 z hp0 (by omega)
      have HT := Lib.hid ht
      clear hz hS h ht
      go_wp2_with (go_at_call 26; refine (hcl _).mono ?_; rintro e w' ⟨rfl, rfl⟩)
      go_round
      case rel => exact ⟨k + 1, by omega, by go_num, by rw [HT.out]⟩
      case measure => simp [intOf]; omega
    · obtain rfl : k = zs.length := by omega
      have he : psum (zs.take zs.length) = S := by rw [psum_all]; exact HS.out
      rw [he]
      have hnz : (S == 0) = false := by simp; omega
      clear he hp0 hp1 h hlt hk
      go_wp2
      clear hnz hmk
      obtain ⟨G, hG⟩ : ∃ G, w.heap.size = G := ⟨_, rfl⟩
      have hrow := World.rowIs_made w (.int .i64 0) zs.length 3
      rw [hG] at hrow ⊢
      have HG := Lib.hid hG
      have hz0 : por t 0 S = 0 := by simp [por]
      have HZ0 := Lib.hid hz0
      clear hG hz0
      go_loopw [9, 10, 31] (fun s p i wr => ∃ k : Nat, k ≤ zs.length ∧ i = .int .i64 k ∧ s = .int .i64 (psum (zs.take k)) ∧ p = .int .i64 (por t (psum (zs.take k)) S) ∧ wr.rowIs G 3 zs.length (filled t zs k) ∧ Below G w wr) (fun _ _ i _ => zs.length - (intOf i).toNat)
      case atStart => exact ⟨0, by omega, rfl, by simp [psum], by simp [psum]; exact HZ0.out.symm, hrow.congr (fun i _ => by simp [filled]), (Below.refl _ _).alloc (by rw [HG.out]; exact Nat.le_refl _) _⟩
      case round =>
        clear hrow
        obtain ⟨k, hk, rfl, rfl, rfl, hrow, hbl⟩ := hrel
        have hp0 := psum_nonneg (zs.take k)
        have hp1 := psum_le zs k
        rw [HS.out] at hp1
        by_cases hlt : k < zs.length
        · obtain ⟨b, off, rfl, hb, hc0⟩ := HH.out.at_int hlt
          rw [HG.out] at hb
          have hc := (hbl.cell (p := ⟨b, off + k, none⟩) hb).trans hc0
          have ht := psum_take zs k hlt
          have hp2 := psum_le zs (k + 1)
          have hp3 := psum_nonneg (zs.take (k + 1))
          rw [HS.out] at hp2
          obtain ⟨hz0, hz1⟩ := hwf zs[k] (List.getElem_mem hlt)
          have hon : onePart t zs k = wrap64 (por t (psum (zs.take (k + 1))) S - por t (psum (zs.take k)) S) := by unfold onePart; rw [HS.out]
          obtain ⟨z, hz⟩ : ∃ z, zs[k] = z := ⟨_, rfl⟩
          rw [hz] at hc ht hz0 hz1
          obtain ⟨S0, hS⟩ : ∃ S, psum (zs.take k) = S := ⟨_, rfl⟩
          obtain ⟨S1, hS1⟩ : ∃ S, psum (zs.take (k + 1)) = S := ⟨_, rfl⟩
          rw [hS] at hp0 hp1 ht hon ⊢
          rw [hS1] at ht hp2 hp3 hon
          have hcl := addWeight_any S0 z hp0 (by omega)
          rw [← ht] at hcl
          have hpo := portion_any t S1 S t0 t1 hp3 hp2 hs hs'
          have hcell := hrow.cell hlt
          have hfro := hrow.frozen k
          obtain ⟨X, hX⟩ : ∃ X, filled t zs k k = X := ⟨_, rfl⟩
          rw [hX] at hcell
          have HT := Lib.hid hS1
          have HON := Lib.hid hon
          clear hz hS hS1 ht hc0 hX hon
          go_wp2_with (first | (go_at_call 26; refine (hcl _).mono ?_; rintro e w' ⟨rfl, rfl⟩) | (go_at_call 27; refine (hpo _).mono ?_; rintro e w' ⟨rfl, kd, rfl⟩))
          go_roundw
          case rel => exact ⟨k + 1, by omega, by go_num, by rw [HT.out], by rw [HT.out], (World.rowIs.set (w := wr.drewN kd) hrow k _).congr (fun j _ => by rw [← HON.out]; exact filled_step t zs k j), (below_drewN hbl kd).setCell (Nat.le_refl _) _⟩
          case measure => simp [intOf]; omega
        · go_wp2
          go_ret
          exact ⟨G, rfl, by rw [HG.out]; exact Nat.le_refl _, by obtain rfl : k = zs.length := by omega
                                                                 exact hrow, by rw [HG.out]; exact hbl⟩
end Go.Proofs.Ytijhcgppahncdaa
