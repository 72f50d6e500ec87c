/-
  Contract of the document's Sums: of at most 65536 weights whose sum is an int it returns a new slice of the sums of the first weights, from none to all.
-/
import Derived.Test.YtijhcgppahncdaaRoom
import Derived.Test.YtijhcgppahncdaaMine
set_option linter.unusedVariables false
namespace Go.Proofs.Ytijhcgppahncdaa
open Go.ChangeShapes Go.WideShapes Go.ChangeAt Go.RowKit

theorem Try.info3 : (Try.prog.info? 3).map (fun i => (i.zero, i.size, i.bytes)) = some (some (.int .i64 0), 1, 8) := by kernel_rfl
/-- the sums of the first weights, from none to k -/
def sums (zs : List Int) (k : Nat) : List Int := (List.range (k + 1)).map fun j => psum (zs.take j)
theorem sums_length (zs : List Int) (k : Nat) : (sums zs k).length = k + 1 := by simp [sums]
theorem sums_zero (zs : List Int) : sums zs 0 = [0] := by simp [sums, psum, List.range_succ]
theorem sums_succ (zs : List Int) (k : Nat) : sums zs (k + 1) = sums zs k ++ [psum (zs.take (k + 1))] := by simp [sums, List.range_succ]
theorem sums_get (zs : List Int) (k j : Nat) (h : j ≤ k) : (sums zs k)[j]? = some (psum (zs.take j)) := by
  unfold sums
  rw [List.getElem?_map, List.getElem?_range (by omega)]; rfl

set_option maxHeartbeats 1000000 in
theorem sums_any (A : Option Addr) (c : Nat) (zs : List Int) (w : World) (h : Has w w.heap.size A (zs.map (Value.int .i64))) (hn : zs.length ≤ 65536)
    (hwf : ∀ z ∈ zs, -9223372036854775808 ≤ z ∧ z ≤ 9223372036854775807) (hs : psum zs ≤ 9223372036854775807) :
    Calls Try.prog 28 #[.slice A zs.length c] w fun e w' => ∃ v, e = .returned v ∧ Mine .i64 3 w' w.heap.size v (sums zs zs.length) ∧ Below w.heap.size w w' := by
  obtain ⟨B, hB⟩ : ∃ B, w.heap.size = B := ⟨_, rfl⟩
  rw [hB] at h ⊢
  have HB := Lib.hid hB
  have hstart : Mine .i64 3 (w.alloc (.cells #[.int .i64 0] 3)) B (.slice (some ⟨B, 0, none⟩) 1 1) (sums zs 0) := by
    rw [sums_zero, ← hB]; exact Mine.one _ _ _ _ _ (Nat.le_refl _)
  clear hB
  go_enter Try.func28, Try.ntmps28
  have hB := HB.out
  go_wp2
  clear hB
  go_loopw [3, 4] (fun v i wr => ∃ k : Nat, k ≤ zs.length ∧ i = .int .i64 k ∧ Mine .i64 3 wr B v (sums zs k) ∧ Below B w wr) (fun _ i _ => zs.length - (intOf i).toNat)
  case atStart => exact ⟨0, Nat.zero_le _, rfl, hstart, (Below.refl _ _).alloc (by rw [HB.out]; exact Nat.le_refl _) _⟩
  case round =>
    clear hstart
    obtain ⟨k, hk, rfl, hown, hbl⟩ := hrel
    have hl := sums_length zs k
    by_cases hlt : k < zs.length
    · obtain ⟨g, cp, hv, hg1, hg2, hcells⟩ := hown.form (by intro e; rw [e] at hl; simp at hl)
      rw [hl] at hv
      subst hv
      have hc1 := hcells k _ (sums_get zs k k (Nat.le_refl _))
      obtain ⟨b, off, rfl, hb, hc0⟩ := h.at_int hlt
      have hc2 := (hbl.cell (p := ⟨b, off + k, none⟩) hb).trans hc0
      have ht := psum_take zs k hlt
      have hp0 := psum_nonneg (zs.take k)
      have hp1 := psum_le zs k
      have hp2 := psum_le zs (k + 1)
      have hsc := sums_succ zs k
      obtain ⟨hw0, hw1⟩ := hwf zs[k] (List.getElem_mem hlt)
      obtain ⟨z, hz⟩ : ∃ z, zs[k] = z := ⟨_, rfl⟩
      obtain ⟨S, hS⟩ : ∃ S, psum (zs.take k) = S := ⟨_, rfl⟩
      obtain ⟨S', hS'⟩ : ∃ S, psum (zs.take (k + 1)) = S := ⟨_, rfl⟩
      rw [hz] at hc2 ht hw0 hw1
      rw [hS] at hc1 ht hp0 hp1
      rw [hS'] at ht hp2 hsc
      have HSC := Lib.hid hsc
      have HL := Lib.hid hl
      have hsz := hbl.size
      clear hz hS hS' hsc hl hcells hc0 h
      have HB1 := HB.out
      rw [HB1] at hsz
      clear HB1
      by_cases hp : 0 < z
      · rw [pw_pos hp] at ht
        have HT := Lib.hid ht
        have hle : S + z ≤ 9223372036854775807 := by omega
        clear ht
        go_wp2_with (at_builtin; refine wpList_push rfl _ _ 27 rfl Try.underlying27 Try.info3 (by omega) B _ (sums zs k) (S + z) w _ hown rfl rfl hbl hsz (by rw [HL.out]; omega) ?_; intro v' w1 hown' hbl')
        clear hown hbl
        go_roundw
        case rel => exact ⟨k + 1, by omega, by go_num, by rw [HSC.out, HT.out]; exact hown', hbl'⟩
        case measure => simp [intOf]; omega
      · rw [pw_neg hp] at ht
        have HT : Hid (S' = S) := Lib.hid (by omega)
        have hle : S + z ≤ 9223372036854775807 := by omega
        clear ht
        go_wp2_with (at_builtin; refine wpList_push rfl _ _ 27 rfl Try.underlying27 Try.info3 (by omega) B _ (sums zs k) (S) w _ hown rfl rfl hbl hsz (by rw [HL.out]; omega) ?_; intro v' w1 hown' hbl')
        clear hown hbl
        go_roundw
        case rel => exact ⟨k + 1, by omega, by go_num, by rw [HSC.out, HT.out]; exact hown', hbl'⟩
        case measure => simp [intOf]; omega
    · go_wp2
      go_ret
      exact ⟨_, rfl, by obtain rfl : k = zs.length := by omega
                        exact hown, hbl⟩
end Go.Proofs.Ytijhcgppahncdaa
