/-
  Contract of the document's Share: for at most 65536 weights whose sum is an int it returns no slice where that sum is 0, and else a new slice of the parts, each a difference of two floors.
-/
import Derived.Test.YtijhcgppahncdaaSums
import Derived.Deep.RegionHeld3
import Derived.Deep.DrawnRows
set_option linter.unusedVariables false
namespace Go.Proofs.Ytijhcgppahncdaa
open Go.ChangeShapes Go.WideShapes Go.ChangeAt Go.RowKit
attribute [local go_sem ↓] Go.wp_at_zero Go.wp_at_succ

/-- part j -/
def onePart (t : Int) (zs : List Int) (j : Nat) : Int := wrap64 (por t (psum (zs.take (j + 1))) (psum zs) - por t (psum (zs.take j)) (psum zs))
/-- the first k parts -/
def parts (t : Int) (zs : List Int) (k : Nat) : List Int := (List.range k).map (onePart t zs)
theorem parts_length (t : Int) (zs : List Int) (k : Nat) : (parts t zs k).length = k := by simp [parts]
theorem parts_zero (t : Int) (zs : List Int) : parts t zs 0 = [] := by simp [parts]
theorem parts_succ (t : Int) (zs : List Int) (k : Nat) : parts t zs (k + 1) = parts t zs k ++ [onePart t zs k] := by simp [parts, List.range_succ]

theorem part_still (total sum whole : Int) (t0 : -9223372036854775808 ≤ total) (t1 : total ≤ 9223372036854775807) (s0 : 0 ≤ sum) (s1 : sum ≤ whole) (w0 : 1 ≤ whole) (w1 : whole ≤ 9223372036854775807) (w : World) :
    Calls Try.prog 29 #[.int .i64 total, .int .i64 sum, .int .i64 whole] w fun e w' => e = .returned (.int .i64 (por total sum whole)) ∧ w' = w :=
  (part_any total sum whole t0 t1 s0 s1 w0 w1 w).mono fun _ _ ⟨a, b⟩ => ⟨a, b.symm⟩

theorem sums_form (A : Option Addr) (c : Nat) (zs : List Int) (w : World) (h : Has w w.heap.size A (zs.map (Value.int .i64))) (hn : zs.length ≤ 65536)
    (hwf : ∀ z ∈ zs, -9223372036854775808 ≤ z ∧ z ≤ 9223372036854775807) (hs : psum zs ≤ 9223372036854775807) :
    Calls Try.prog 28 #[.slice A zs.length c] w fun e w' => ∃ g cp, e = .returned (.slice (some ⟨g, 0, none⟩) (zs.length + 1) cp) ∧ w.heap.size ≤ g ∧ g < w'.heap.size ∧
      Hid (∀ j, j ≤ zs.length → w'.cell? ⟨g, j, none⟩ = some (.int .i64 (psum (zs.take j)))) ∧ Below w.heap.size w w' := by
  refine (sums_any A c zs w h hn hwf hs).mono ?_
  rintro e w' ⟨v, rfl, hm, hb⟩
  have hl := sums_length zs zs.length
  obtain ⟨g, cp, hv, hg1, hg2, hcells⟩ := hm.form (by intro e; rw [e] at hl; simp at hl)
  rw [hl] at hv
  subst hv
  exact ⟨g, cp, rfl, hg1, hg2, Lib.hid (fun j hj => hcells j _ (sums_get zs zs.length j hj)), hb⟩

theorem refShare_nil (t : Int) (A : Option Addr) (c : Nat) (zs : List Int) (w : World) (h : Has w w.heap.size A (zs.map (Value.int .i64))) (hn : zs.length ≤ 65536)
    (hwf : ∀ z ∈ zs, -9223372036854775808 ≤ z ∧ z ≤ 9223372036854775807) (hs : psum zs = 0) :
    Calls Try.prog 19 #[.int .i64 t, .slice A zs.length c] w fun e w' => e = .returned (.slice none 0 0) ∧ Below w.heap.size w w' := by
  have hS := sums_form A c zs w h hn hwf (by omega)
  have HZ : Hid (psum (zs.take zs.length) = 0) := Lib.hid (by rw [psum_all]; exact hs)
  clear hs
  go_enter Try.func19, Try.ntmps19
  go_wp2_with (go_at_call 28; refine hS.mono ?_; rintro e W1 ⟨g, cp, rfl, hg1, hg2, HC, hb⟩; have hc := HC.out _ (Nat.le_refl _); rw [HZ.out] at hc; clear hS h)
  go_ret
  exact ⟨rfl, hb⟩

set_option maxHeartbeats 2000000 in
theorem refShare_any (t : Int) (t0 : -9223372036854775808 ≤ t) (t1 : t ≤ 9223372036854775807) (A : Option Addr) (c : Nat) (zs : List Int) (w : World) (h : Has w w.heap.size A (zs.map (Value.int .i64))) (hn : zs.length ≤ 65536)
    (hwf : ∀ z ∈ zs, -9223372036854775808 ≤ z ∧ z ≤ 9223372036854775807) (hs : 0 < psum zs) (hs' : psum zs ≤ 9223372036854775807) :
    Calls Try.prog 19 #[.int .i64 t, .slice A zs.length c] w fun e w' => ∃ v, e = .returned v ∧ Mine .i64 3 w' w.heap.size v (parts t zs zs.length) ∧ Below w.heap.size w w' := by
  have hS := sums_form A c zs w h hn hwf hs'
  obtain ⟨S, hSz⟩ : ∃ S, psum zs = S := ⟨_, rfl⟩
  have HZ : Hid (psum (zs.take zs.length) = S) := Lib.hid (by rw [psum_all]; exact hSz)
  have HSZ := Lib.hid hSz
  rw [hSz] at hs hs'
  clear hSz
  have hnz : (S == 0) = false := by simp; omega
  go_enter Try.func19, Try.ntmps19
  go_wp2_with (go_at_call 28; refine hS.mono ?_; rintro e W1 ⟨g, cp, rfl, hg1, hg2, HC, hb⟩; have hc := HC.out _ (Nat.le_refl _); rw [HZ.out] at hc; clear hS h)
  clear hnz hc
  go_loopw [7, 8] (fun v i wr => ∃ k : Nat, k ≤ zs.length ∧ i = .int .i64 k ∧ Mine .i64 3 wr W1.heap.size v (parts t zs k) ∧ Below W1.heap.size W1 wr) (fun _ i _ => zs.length - (intOf i).toNat)
  case atStart => exact ⟨0, Nat.zero_le _, rfl, by rw [parts_zero]; exact Mine.nil_ _ _ _ _, Below.refl _ _⟩
  case round =>
    obtain ⟨k, hk, rfl, hown, hbl⟩ := hrel
    by_cases hlt : k < zs.length
    · have hw0 := HC.out k hk
      have hw1 := HC.out (k + 1) hlt
      have hc0 := (hbl.cell (p := ⟨g, k, none⟩) hg2).trans hw0
      have hc1 := (hbl.cell (p := ⟨g, k + 1, none⟩) hg2).trans hw1
      have hp0 := psum_nonneg (zs.take k)
      have hp1 := psum_le zs k
      have hp2 := psum_le zs (k + 1)
      have hp3 := psum_nonneg (zs.take (k + 1))
      rw [HSZ.out] at hp1 hp2
      have hsc := parts_succ t zs k
      unfold onePart at hsc
      rw [HSZ.out] at hsc
      obtain ⟨S0, hS0⟩ : ∃ S, psum (zs.take k) = S := ⟨_, rfl⟩
      obtain ⟨S1, hS1⟩ : ∃ S, psum (zs.take (k + 1)) = S := ⟨_, rfl⟩
      rw [hS0] at hc0 hw0 hp0 hp1 hsc
      rw [hS1] at hc1 hw1 hp2 hp3 hsc
      have HSC := Lib.hid hsc
      have HPL := Lib.hid (parts_length t zs k)
      clear hS0 hS1 hsc
      have hsz := hbl.size
      go_wp2
      have kw : IntKind.i64.wrap ((k : Int) + 1) = (k : Int) + 1 := IntWalk.i64_in _ (by omega)
      have kn : (0 : Int) ≤ (k : Int) + 1 := by omega
      have kt : ((k : Int) + 1).toNat = k + 1 := by omega
      have kl : (k : Int) + 1 < (zs.length : Int) + 1 := by omega
      have kl' : (k : Int) < (zs.length : Int) + 1 := by omega
      have kz : (0 : Int) ≤ (k : Int) := by omega
      go_region_held3 (fun w' => w'.cell? ⟨g, k, none⟩ = some (.int .i64 S0) ∧ w'.cell? ⟨g, k + 1, none⟩ = some (.int .i64 S1)) (first | go_keep | exact ⟨(hbl'.cell (p := ⟨g, k, none⟩) hg2).trans hw0, (hbl'.cell (p := ⟨g, k + 1, none⟩) hg2).trans hw1⟩)
        (first
          | (go_at_call 29; (with_reducible refine (part_any t _ S t0 t1 (by omega) (by omega) (by omega) (by omega) _).mono ?_); rintro e w' ⟨rfl, rfl⟩)
          | (refine step_push (by rfl) _ _ 27 (by rfl) Try.underlying27 Try.info3 (by omega) W1.heap.size _ (parts t zs k) (IntKind.i64.wrap (por t S1 S - por t S0 S)) W1 wr.heap.size ((Mine.alloc hown _).drew) (by rfl) (by rfl) (push_here _ _ _) ((hbl.alloc hsz _).drew) (by simp; omega) (by rw [HPL.out]; omega) ?_; intro v' w1 hown' hbl'))
      rw [IntWalk.i64_left] at hown'
      clear hown hbl hc0 hc1 hw0 hw1 kw kn kt kl kl' kz
      go_wp2
      go_roundw
      case rel => exact ⟨k + 1, by omega, by go_num, by rw [HSC.out]; exact hown', hbl'⟩
      case measure => simp [intOf]; omega
    · go_wp2
      go_ret
      exact ⟨_, rfl, by obtain rfl : k = zs.length := by omega
                        exact Mine.low hown hb.size, hb.trans (hbl.mono hb.size)⟩
end Go.Proofs.Ytijhcgppahncdaa
