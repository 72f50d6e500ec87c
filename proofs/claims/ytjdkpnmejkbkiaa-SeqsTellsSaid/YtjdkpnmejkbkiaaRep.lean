/-
  Contract of slices.Repeat at []int, for a slice of one element. Condition: at most 1000 times.
-/
import Derived.Test.YtjdkpnmejkbkiaaOwn
import Derived.Test.YtjdkpnmejkbkiaaShelfM
import Derived.Laws.CopyOwn
import Derived.Deep.RegionHeld3
set_option linter.unusedVariables false
set_option linter.unusedSimpArgs false
namespace Go.Proofs.Ytjdkpnmejkbkiaa
open Go.ChangeShapes Go.WideShapes Go.ChangeAt Go.RowKit

theorem Mine.row {k : IntKind} {e : TypeId} {w : World} {B g n : Nat} {xs : List Int} (h : Mine k e w B (.slice (some ⟨g, 0, none⟩) n n) xs) : w.heap[g]? = some (.cells (xs.map (Value.int k)).toArray e (0, 0)) := by
  rcases h.2 with ⟨a, b⟩ | ⟨g', cap, cur, a, b, hg, hc, hm, hs, ht⟩
  · cases a
  · injection a with a1 a2 a3
    injection a1 with a1
    injection a1 with a1
    subst a1; subst a2; subst a3
    rw [hg]
    congr 2
    rw [Nat.mul_one] at ht hs
    rw [List.take_of_length_le (by simp [hs])] at ht
    rw [← ht]
theorem mine_row {k : IntKind} {e : TypeId} {w : World} {B g : Nat} {xs : List Int} (n : Nat) (hn : n = xs.length) (hg : w.heap[g]? = some (.cells (xs.map (Value.int k)).toArray e (0, 0))) (hB : B ≤ g) (hm : xs.length ≤ 1000000) : Mine k e w B (.slice (some ⟨g, 0, none⟩) n n) xs := by
  subst hn
  refine ⟨by simp, .inr ⟨g, xs.length, (xs.map (Value.int k)).toArray, rfl, hB, hg, Nat.le_refl _, by unfold maxLen; omega, by simp, ?_⟩⟩
  rw [List.take_of_length_le (by simp)]
/-- the first p written, then zeros -/
def fillR (n p : Nat) (x : Int) : List Int := List.replicate p x ++ List.replicate (n - p) 0
theorem fillR_zero (n : Nat) (x : Int) : fillR n 0 x = List.replicate n 0 := rfl
theorem fillR_end (n : Nat) (x : Int) : fillR n n x = List.replicate n x := by unfold fillR; rw [Nat.sub_self, List.replicate_zero, List.append_nil]
theorem fillR_len (n p : Nat) (x : Int) (h : p ≤ n) : (fillR n p x).length = n := by unfold fillR; simp; omega
theorem fillR_splice (n p q : Nat) (x : Int) (h : p + q ≤ n) : splice ((fillR n p x).map (Value.int .i64)) p ((List.replicate q x).map (Value.int .i64)) = (fillR n (p + q) x).map (Value.int .i64) := by
  unfold splice fillR
  rw [List.map_append, List.map_append]
  simp only [List.map_replicate, List.length_replicate]
  rw [List.take_left' (by simp), List.drop_append, List.drop_of_length_le (by simp), List.nil_append]
  simp only [List.length_replicate, List.drop_replicate]
  rw [← List.append_assoc, List.replicate_append_replicate]
  congr 2
  omega
theorem made_zero (n : Nat) : (madeCells (Value.int .i64 0).cells (n * 1)).toList = (List.replicate n (0 : Int)).map (Value.int .i64) := by
  rw [Nat.mul_one, List.map_replicate, show (Value.int .i64 0).cells = #[.int .i64 0] from rfl, toList_madeCells_one]
theorem one64 (q : Nat) (x : Int) : ∀ v ∈ (List.replicate q x).map (Value.int .i64), v.oneCell' = true := by
  intro v hv
  rw [List.mem_map] at hv
  obtain ⟨z, _, rfl⟩ := hv
  rfl

set_option maxRecDepth 20000 in
set_option maxHeartbeats 4000000 in
theorem repeat_ok (b n : Nat) (x : Int) (w : World) (hn : n ≤ 1000) (hb : b < w.heap.size) (hx : w.cell? ⟨b, 0, none⟩ = some (.int .i64 x)) :
    Calls Try.prog 28 #[.slice (some ⟨b, 0, none⟩) 1 1, .int .i64 n] w fun e w' => ∃ v, e = .returned v ∧ Mine .i64 3 w' w.heap.size v (List.replicate n x) ∧ Below w.heap.size w w' := by
  obtain ⟨i0, hi', hz0, hz1, hz2⟩ := info_parts fullI
  have HMUL : Hid (∀ w, Calls Try.prog 45 #[.int .u64 1, .int .u64 n] w fun e w' => e = .returned (.tuple #[.int .u64 0, .int .u64 n]) ∧ w = w') := Lib.hid (fun w => by
    have := Try.bits_Mul 1 n (by decide) (by omega) w
    rw [Nat.one_mul, Nat.div_eq_of_lt (by omega), Nat.mod_eq_of_lt (by omega)] at this
    exact this.mono fun e w' h => ⟨h.1, h.2.symm⟩)
  obtain ⟨q, hq⟩ : ∃ q, min 1 n = q := ⟨_, rfl⟩
  have hqn : q ≤ n := by omega
  have hq1 : q ≤ 1 := by omega
  have hq0 : 0 < n → 0 < q := by omega
  have HQ := Lib.hid hq
  have HX := Lib.hid hx
  have HSZ : Hid ((Try.prog.info? 3).map (·.size) = some 1) := Lib.hid (by kernel_rfl)
  have HNQ : Hid (((List.replicate q x).map (Value.int .i64)).length = Nat.min 1 n) := Lib.hid (by rw [List.length_map, List.length_replicate]; exact hq.symm)
  have HSRC : Hid (∀ W, Below w.heap.size w W → ∀ j v, ((List.replicate q x).map (Value.int .i64))[j]? = some v → W.cell? ((⟨b, 0, none⟩ : Addr).add j) = some v) := Lib.hid (fun W hb2 j v hj => by
    rw [List.getElem?_map, List.getElem?_replicate] at hj
    split at hj
    · obtain rfl : j = 0 := by omega
      injection hj with hj
      subst hj
      exact (hb2.cell (p := ⟨b, 0, none⟩) hb).trans hx
    · cases hj)
  have HFIT : Hid (0 + ((List.replicate q x).map (Value.int .i64)).length ≤ ((fillR n 0 x).map (Value.int .i64)).length) := Lib.hid (by rw [List.length_map, List.length_map, List.length_replicate, fillR_len _ _ _ (by omega)]; omega)
  clear hq hx
  go_enter Try.func28, Try.ntmps28
  go_wp2_with (first
    | (go_at_call 45; (with_reducible refine (HMUL.out _).mono ?_); rintro e u ⟨rfl, rfl⟩)
    | (refine wpList_make_full _ rfl _ _ 22 rfl w.heap.size 3 i0 (.int .i64 0) 1 Try.underlying22 hi' hz0 hz1 .i64 .i64 n n n rfl rfl rfl rfl (by rw [hz2]; omega) (by unfold maxLen; omega) (Nat.le_refl _) ?_; intro w1 hown hgr; rw [made_zero] at hown; have hrow := Mine.row (xs := List.replicate n 0) (n := n) (by simpa [Mine] using hown); have hb1 : Below w.heap.size w w1 := (Below.refl _ _).grown hgr (Nat.le_refl _) (fun k hk => by cases hk); have hx1 := (hb1.cell (p := ⟨b, 0, none⟩) hb).trans HX.out; have HROW := Lib.hid hrow; clear hown hgr hrow)
    | (refine wpList_copy_splice rfl _ _ 22 22 rfl 3 Try.underlying22 HSZ.out (some ⟨w.heap.size, 0, none⟩) (some ⟨b, 0, none⟩) n n 1 1 rfl rfl w.heap.size 0 ((fillR n 0 x).map (Value.int .i64)) 3 HROW.out ((List.replicate q x).map (Value.int .i64)) HNQ.out (fun _ => ⟨rfl, ⟨b, 0, none⟩, rfl, HSRC.out _ hb1⟩) HFIT.out (one64 q x) w.heap.size w hb1 (Nat.le_refl _) ?_; intro w2 HR2 hb2))
  have HR0 : Hid (w2.heap[w.heap.size]? = some (.cells ((fillR n q x).map (Value.int .i64)).toArray 3 (0, 0))) := Lib.hid (by have := HR2.out; rw [fillR_splice n 0 q x (by omega), Nat.zero_add] at this; exact this)
  clear HR2 HROW HSRC HFIT HX HMUL hb1 hx1
  go_loopw [8] (fun v8 wr => ∃ p : Nat, p ≤ n ∧ (0 < n → 0 < p) ∧ v8 = .int .i64 p ∧ Hid (wr.heap[w.heap.size]? = some (.cells ((fillR n p x).map (Value.int .i64)).toArray 3 (0, 0))) ∧ Below w.heap.size w wr) (fun v8 _ => n - (intOf v8).toNat)
  case atStart => exact ⟨q, hqn, hq0, by simp, HR0, hb2⟩
  case round =>
    clear HR0 hb2 hq0
    obtain ⟨p, hpn, hp0, rfl, HR, hbr⟩ := hrel
    by_cases hlt : p < n
    · obtain ⟨r, hr⟩ : ∃ r, min p (n - p) = r := ⟨_, rfl⟩
      have hr0 : 0 < r := by omega
      have hrp : p + r ≤ n := by omega
      have hrp2 : r ≤ p := by omega
      have HNR : Hid (((List.replicate r x).map (Value.int .i64)).length = Nat.min p (n - p)) := Lib.hid (by rw [List.length_map, List.length_replicate]; exact hr.symm)
      have HSRC : Hid (∀ j v, ((List.replicate r x).map (Value.int .i64))[j]? = some v → wr.cell? ((⟨w.heap.size, 0, none⟩ : Addr).add j) = some v) := Lib.hid (fun j v hj => by
        rw [List.getElem?_map, List.getElem?_replicate] at hj
        split at hj
        · rename_i hjr
          rw [add_plain, Nat.zero_add]
          rw [cell_of_row _ _ _ _ _ _ HR.out]
          unfold fillR
          simp [List.getElem?_append_left, List.getElem?_replicate, show j < p by omega]
          simpa using hj
        · cases hj)
      have HFIT : Hid (p + ((List.replicate r x).map (Value.int .i64)).length ≤ ((fillR n p x).map (Value.int .i64)).length) := Lib.hid (by rw [List.length_map, List.length_map, List.length_replicate, fillR_len _ _ _ (by omega)]; omega)
      have hsz := hbr.size
      have c0 : (0 : Int) ≤ (p : Int) := by omega
      have c1 : (p : Int) ≤ (n : Int) := by omega
      have c2 : ¬ n = p := by omega
      have c3 : ¬ n ≤ p := by omega
      have hw1 : IntKind.i64.wrap ((p : Int) + (r : Int)) = (p : Int) + (r : Int) := Go.IntWalk.i64_in _ (by omega)
      clear hr
      go_wp2
      go_region_held3 (fun w' => True) (first | go_keep | trivial) ((refine step_copy_splice rfl _ _ 22 22 rfl 3 Try.underlying22 HSZ.out (some ⟨w.heap.size, p, none⟩) (some ⟨w.heap.size, 0, none⟩) (n - p) (n - p) p n rfl rfl w.heap.size p ((fillR n p x).map (Value.int .i64)) 3 HR.out ((List.replicate r x).map (Value.int .i64)) HNR.out (fun _ => ⟨rfl, ⟨w.heap.size, 0, none⟩, rfl, HSRC.out⟩) HFIT.out (one64 r x) w.heap.size w (below_drewN hbr 1) (Nat.le_refl _) ?_; intro w3 HR3 hb3))
      simp only [List.length_map, List.length_replicate, goInt]
      go_roundw
      case rel => exact ⟨_, _, _, _, _, _, _, _, _, _, _, _, _, _, ⟨p + r, by omega, by omega, by go_num, Lib.hid (by have := HR3.out; rw [fillR_splice n p r x hrp] at this; exact this), hb3⟩, rfl⟩
      case measure => simp [intOf] <;> omega
    · obtain rfl : p = n := by omega
      have hM : Mine .i64 3 wr w.heap.size (.slice (some ⟨w.heap.size, 0, none⟩) p p) (List.replicate p x) := mine_row p (by simp) (by have := HR.out; rw [fillR_end] at this; exact this) (Nat.le_refl _) (by simp; omega)
      clear HR
      go_wp2
      go_ret
      exact ⟨_, rfl, hM, hbr⟩
end Go.Proofs.Ytjdkpnmejkbkiaa
