/-
  Contracts of nums.Split and of the document's Split: for 1 to 200 parts both return a new slice of the parts of the total by that many weights of 1; for parts below 1 or above 65536 no slice.
-/
import Derived.Test.YtijhcgppahncdaaShare
set_option linter.unusedVariables false
namespace Go.Proofs.Ytijhcgppahncdaa
open Go.ChangeShapes Go.WideShapes Go.ChangeAt Go.RowKit

def ones (p : Nat) : List Int := List.replicate p 1
theorem ones_length (p : Nat) : (ones p).length = p := by simp [ones]
theorem ones_succ (p : Nat) : ones (p + 1) = ones p ++ [1] := by simp [ones, List.replicate_succ']
theorem psum_ones (p : Nat) : psum (ones p) = p := by
  induction p with
  | zero => rfl
  | succ p ih => rw [ones_succ, psum_append, ih]; simp [psum, pw]
theorem ones_wf (p : Nat) : ∀ z ∈ ones p, -9223372036854775808 ≤ z ∧ z ≤ 9223372036854775807 := by
  intro z hz
  have := List.eq_of_mem_replicate hz
  omega
theorem ones_get (p j : Nat) (u : Value) (h : ((ones p).map (Value.int .i64))[j]? = some u) : j < p ∧ u = .int .i64 1 := by
  unfold ones at h
  rw [List.map_replicate, List.getElem?_replicate] at h
  split at h
  · injection h with h; exact ⟨by assumption, h.symm⟩
  · cases h
def oned (k : Nat) (j : Nat) : Value := .int .i64 (if j < k then 1 else 0)
theorem oned_step (k : Nat) (j : Nat) : (if j = k then Value.int .i64 1 else oned k j) = oned (k + 1) j := by
  unfold oned
  by_cases h : j = k
  · subst h; rw [if_pos rfl, if_pos (by omega)]
  · rw [if_neg h]
    by_cases h' : j < k
    · rw [if_pos h', if_pos (by omega)]
    · rw [if_neg h', if_neg (by omega)]
theorem oned_has {w : World} {g p : Nat} (h : w.rowIs g 3 p (oned p)) : Has w w.heap.size (some ⟨g, 0, none⟩) ((ones p).map (Value.int .i64)) := fun _ => by
  refine ⟨g, 0, rfl, h.lt, fun j u hu => ?_⟩
  obtain ⟨hj, rfl⟩ := ones_get p j u hu
  rw [Nat.zero_add, h.cell hj]
  simp [oned, hj]
/-- what both calls return -/
def Given (t : Int) (p : Nat) (B : Nat) (w : World) (e : Ending) (w' : World) : Prop :=
  ∃ A c, e = .returned (.slice A p c) ∧ Has w' w'.heap.size A ((parts t (ones p) p).map (Value.int .i64)) ∧ Below B w w'
theorem share_ones (t : Int) (t0 : -9223372036854775808 ≤ t) (t1 : t ≤ 9223372036854775807) (A : Option Addr) (c p : Nat) (w : World) (h : Has w w.heap.size A ((ones p).map (Value.int .i64))) (h0 : 0 < p) (hn : p ≤ 65536) :
    Calls Try.prog 18 #[.int .i64 t, .slice A p c] w fun e w' => Given t p w.heap.size w e w' := by
  have hs := share_any t t0 t1 A c (ones p) w h (by rw [ones_length]; exact hn) (ones_wf p) (by rw [psum_ones]; omega) (by rw [psum_ones]; omega)
  rw [ones_length] at hs
  refine hs.mono ?_
  rintro e w' ⟨g, rfl, _, hrow, hb⟩
  have hh := filled_has (t := t) (zs := ones p) (w := w') (g := g) (by rw [ones_length]; exact hrow)
  rw [ones_length] at hh
  exact ⟨_, _, rfl, hh, hb⟩
theorem refShare_ones (t : Int) (t0 : -9223372036854775808 ≤ t) (t1 : t ≤ 9223372036854775807) (A : Option Addr) (c p : Nat) (w : World) (h : Has w w.heap.size A ((ones p).map (Value.int .i64))) (h0 : 0 < p) (hn : p ≤ 65536) :
    Calls Try.prog 19 #[.int .i64 t, .slice A p c] w fun e w' => Given t p w.heap.size w e w' := by
  have hs := refShare_any t t0 t1 A c (ones p) w h (by rw [ones_length]; exact hn) (ones_wf p) (by rw [psum_ones]; omega) (by rw [psum_ones]; omega)
  rw [ones_length] at hs
  refine hs.mono ?_
  rintro e w' ⟨v, rfl, hm, hb⟩
  obtain ⟨A', c', rfl, hh⟩ := hm.reads
  rw [parts_length]
  exact ⟨_, _, rfl, hh, hb⟩

set_option maxHeartbeats 1000000 in
theorem split_any (t : Int) (t0 : -9223372036854775808 ≤ t) (t1 : t ≤ 9223372036854775807) (p : Nat) (h0 : 0 < p) (hp : p ≤ 200) (w : World) :
    Calls Try.prog 20 #[.int .i64 t, .int .i64 p] w fun e w' => Given t p w.heap.size w e w' := by
  have hmk := run_make_row' (P := Try.prog) 27 3 (.int .i64 0) 8 Try.underlying27 Try.info3 rfl .i64 .i64 p (by omega) (by omega)
  obtain ⟨G, hG⟩ : ∃ G, w.heap.size = G := ⟨_, rfl⟩
  have hrow := World.rowIs_made w (.int .i64 0) p 3
  rw [hG] at hrow
  have HG := Lib.hid hG
  have HR := Lib.hid hrow
  clear hrow
  go_enter Try.func20, Try.ntmps20
  go_wp2
  clear hmk hG
  go_loopw [17] (fun i wr => ∃ k : Nat, k ≤ p ∧ i = .int .i64 k ∧ wr.rowIs G 3 p (oned k) ∧ Below G w wr) (fun i _ => p - (intOf i).toNat)
  case atStart => exact ⟨0, by omega, rfl, HR.out.congr (fun i _ => by simp [oned]), (Below.refl _ _).alloc (by rw [HG.out]; exact Nat.le_refl _) _⟩
  case round =>
    obtain ⟨k, hk, rfl, hrow, hbl⟩ := hrel
    by_cases hlt : k < p
    · have hcell := hrow.cell hlt
      have hfro := hrow.frozen k
      obtain ⟨X, hX⟩ : ∃ X, oned k k = X := ⟨_, rfl⟩
      rw [hX] at hcell
      clear hX
      go_wp2
      go_roundw
      case rel => exact ⟨k + 1, by omega, by go_num, (World.rowIs.set hrow k _).congr (fun j _ => oned_step k j), hbl.setCell (Nat.le_refl _) _⟩
      case measure => simp [intOf]; omega
    · obtain rfl : k = p := by omega
      have hsz := hbl.size
      have hs := share_ones t t0 t1 (some ⟨G, 0, none⟩) k k wr (oned_has hrow) h0 (by omega)
      clear hrow hlt hk
      go_wp2_with (go_at_call 18; refine hs.mono ?_; rintro e W1 ⟨A, c, rfl, hh, hb1⟩)
      go_ret
      exact ⟨A, c, rfl, hh, by rw [HG.out]; exact below_trans hbl hb1 (by rw [← HG.out]; exact hsz)⟩

set_option maxHeartbeats 1000000 in
theorem refSplit_any (t : Int) (t0 : -9223372036854775808 ≤ t) (t1 : t ≤ 9223372036854775807) (p : Nat) (h0 : 0 < p) (hp : p ≤ 200) (w : World) :
    Calls Try.prog 21 #[.int .i64 t, .int .i64 p] w fun e w' => Given t p w.heap.size w e w' := by
  go_enter Try.func21, Try.ntmps21
  go_wp2
  go_loopw [5, 6] (fun v i wr => ∃ k : Nat, k ≤ p ∧ i = .int .i64 k ∧ Mine .i64 3 wr w.heap.size v (ones k) ∧ Below w.heap.size w wr) (fun _ i _ => p - (intOf i).toNat)
  case atStart => exact ⟨0, by omega, rfl, Mine.nil_ _ _ _ _, Below.refl _ _⟩
  case round =>
    obtain ⟨k, hk, rfl, hown, hbl⟩ := hrel
    have hsz := hbl.size
    have HL := Lib.hid (ones_length k)
    by_cases hlt : k < p
    · go_wp2_with (at_builtin; refine wpList_push rfl _ _ 27 rfl Try.underlying27 Try.info3 (by omega) w.heap.size _ (ones k) 1 w _ hown rfl rfl hbl hsz (by rw [HL.out]; omega) ?_; intro v' w1 hown' hbl')
      clear hown hbl
      go_roundw
      case rel => exact ⟨k + 1, by omega, by go_num, by rw [ones_succ]; exact hown', hbl'⟩
      case measure => simp [intOf]; omega
    · obtain rfl : k = p := by omega
      obtain ⟨A1, c1, hv, hh⟩ := hown.reads
      rw [HL.out] at hv
      subst hv
      have hs := refShare_ones t t0 t1 A1 c1 k wr hh h0 (by omega)
      clear hown hlt hk hh
      go_wp2_with (go_at_call 19; refine hs.mono ?_; rintro e W1 ⟨A, c, rfl, hh, hb1⟩)
      go_ret
      exact ⟨A, c, rfl, hh, below_trans hbl hb1 hsz⟩
end Go.Proofs.Ytijhcgppahncdaa
