/-
  Plain arithmetic under NumsWhole: the parts of a small total by small weights add up to it, none is negative of a total that is not, and each is within 1 of its proportional part. Only the stated conditions.
-/
import Derived.Test.YtijhcgppahncdaaShare
set_option linter.unusedVariables false
namespace Go.Proofs.Ytijhcgppahncdaa
open Go.ChangeShapes Go.WideShapes Go.ChangeAt Go.RowKit

def sm (z : Int) : Int := z.tmod 1048576
theorem sm_in (z : Int) : -1048576 < sm z ∧ sm z < 1048576 := by
  unfold sm
  have h1 := Int.tmod_lt_of_pos z (b := 1048576) (by omega)
  have h2 := Int.tmod_lt_of_pos (-z) (b := 1048576) (by omega)
  rw [Int.neg_tmod] at h2
  omega
def smalls (l : List Int) : List Int := l.map sm
theorem smalls_length (l : List Int) : (smalls l).length = l.length := by simp [smalls]
theorem smalls_wf (l : List Int) : ∀ z ∈ smalls l, -9223372036854775808 ≤ z ∧ z ≤ 9223372036854775807 := by
  intro z hz
  obtain ⟨y, _, rfl⟩ := List.mem_map.1 hz
  have := sm_in y
  omega
theorem smalls_get (l : List Int) (k : Nat) (h : k < l.length) : (smalls l)[k]'(by rw [smalls_length]; exact h) = sm l[k] := by simp [smalls]
theorem smalls_take (l : List Int) (k : Nat) (h : k < l.length) : (smalls l).take (k + 1) = (smalls l).take k ++ [sm l[k]] := by
  rw [List.take_succ_eq_append_getElem (by rw [smalls_length]; exact h), smalls_get l k h]
theorem pw_small (z : Int) : pw (sm z) ≤ 1048576 := by
  have := sm_in z
  unfold pw; split <;> omega
theorem psum_small (l : List Int) : psum (smalls l) ≤ l.length * 1048576 := by
  induction l with
  | nil => simp [smalls, psum]
  | cons z l ih =>
    have h := pw_small z
    simp only [smalls, List.map_cons, psum, List.length_cons] at ih ⊢
    omega

structure PartIn (t W S0 S1 : Int) : Prop where
  t0 : -1048576 < t
  t1 : t < 1048576
  w0 : 0 < W
  w1 : W ≤ 20971520
  s0 : 0 ≤ S0
  s01 : S0 ≤ S1
  s1 : S1 ≤ W

theorem por_zero (t W : Int) : por t 0 W = 0 := by simp [por]
theorem por_whole (t W : Int) (h : 0 < W) : por t W W = t := by unfold por; exact Int.mul_ediv_cancel _ (by omega)
theorem por_in (t W S : Int) (h0 : 0 ≤ S) (h1 : S ≤ W) (hw : 0 < W) : (0 ≤ t → 0 ≤ por t S W ∧ por t S W ≤ t) ∧ (t < 0 → t ≤ por t S W ∧ por t S W ≤ 0) := by
  unfold por
  refine ⟨fun ht => ⟨Int.ediv_nonneg (Int.mul_nonneg ht h0) (by omega), ?_⟩, fun ht => ⟨?_, ?_⟩⟩
  · have : t * S ≤ t * W := Int.mul_le_mul_of_nonneg_left h1 ht
    have := Int.ediv_le_ediv (c := W) hw this
    rwa [Int.mul_ediv_cancel _ (by omega)] at this
  · have : t * W ≤ t * S := Int.mul_le_mul_of_nonpos_left (by omega) h1
    have := Int.ediv_le_ediv (c := W) hw this
    rwa [Int.mul_ediv_cancel _ (by omega)] at this
  · have : t * S ≤ 0 := Int.mul_nonpos_of_nonpos_of_nonneg (by omega) h0
    have h := Int.ediv_le_ediv (c := W) hw this
    simpa using h
/-- what the statement asks of one part -/
theorem part_in {t W S0 S1 : Int} (A : PartIn t W S0 S1) :
    (0 ≤ t → 0 ≤ por t S1 W - por t S0 W) ∧ -1048576 ≤ por t S1 W - por t S0 W ∧ por t S1 W - por t S0 W ≤ 1048576 ∧
    -W < (por t S1 W - por t S0 W) * W - t * (S1 - S0) ∧ (por t S1 W - por t S0 W) * W - t * (S1 - S0) < W ∧
    -21990232555520 ≤ (por t S1 W - por t S0 W) * W ∧ (por t S1 W - por t S0 W) * W ≤ 21990232555520 ∧
    -21990232555520 ≤ t * (S1 - S0) ∧ t * (S1 - S0) ≤ 21990232555520 := by
  obtain ⟨t0, t1, w0, w1, s0, s01, s1⟩ := A
  have p0 := por_in t W S0 s0 (by omega) w0
  have p1 := por_in t W S1 (by omega) s1 w0
  have e0 := Int.mul_ediv_add_emod (t * S0) W
  have e1 := Int.mul_ediv_add_emod (t * S1) W
  have r00 := Int.emod_nonneg (t * S0) (b := W) (by omega)
  have r01 := Int.emod_lt_of_pos (t * S0) w0
  have r10 := Int.emod_nonneg (t * S1) (b := W) (by omega)
  have r11 := Int.emod_lt_of_pos (t * S1) w0
  have hm0 : por t S0 W * W = W * (t * S0 / W) := by unfold por; exact Int.mul_comm _ _
  have hm1 : por t S1 W * W = W * (t * S1 / W) := by unfold por; exact Int.mul_comm _ _
  have hs : (por t S1 W - por t S0 W) * W = por t S1 W * W - por t S0 W * W := Int.sub_mul _ _ _
  have ht : t * (S1 - S0) = t * S1 - t * S0 := Int.mul_sub _ _ _
  have mono : 0 ≤ t → por t S0 W ≤ por t S1 W := fun h => by
    unfold por
    exact Int.ediv_le_ediv w0 (Int.mul_le_mul_of_nonneg_left s01 h)
  have b : -1048576 ≤ por t S1 W - por t S0 W ∧ por t S1 W - por t S0 W ≤ 1048576 := by
    rcases Int.lt_or_le t 0 with h | h
    · have := p0.2 h; have := p1.2 h; omega
    · have := p0.1 h; have := p1.1 h; omega
  have tb : -1048576 * (S1 - S0) ≤ t * (S1 - S0) := Int.mul_le_mul_of_nonneg_right (by omega) (by omega)
  have tb' : t * (S1 - S0) ≤ 1048576 * (S1 - S0) := Int.mul_le_mul_of_nonneg_right (by omega) (by omega)
  have db : -1048576 * W ≤ (por t S1 W - por t S0 W) * W := Int.mul_le_mul_of_nonneg_right b.1 (by omega)
  have db' : (por t S1 W - por t S0 W) * W ≤ 1048576 * W := Int.mul_le_mul_of_nonneg_right b.2 (by omega)
  refine ⟨fun h => by have := mono h; omega, b.1, b.2, by omega, by omega, by omega, by omega, by omega, by omega⟩

theorem small_any (z : Int) (h0 : -9223372036854775808 ≤ z) (h1 : z ≤ 9223372036854775807) (w : World) :
    Calls Try.prog 22 #[.int .i64 z] w fun e w' => e = .returned (.int .i64 (sm z)) ∧ w = w' := by
  have hs := sm_in z
  by_cases hz : 0 ≤ z
  · have e : z % 1048576 = sm z := by unfold sm; exact (Int.tmod_eq_emod_of_nonneg hz).symm
    have E := Lib.hid e
    clear e hs
    go_enter Try.func22, Try.ntmps22
    go_wp2
    go_ret
    exact ⟨ret1 E.out, rfl⟩
  · have e : z.tmod 1048576 = sm z := rfl
    have E := Lib.hid e
    clear e hs
    go_enter Try.func22, Try.ntmps22
    go_wp2
    go_ret
    exact ⟨ret1 E.out, rfl⟩
end Go.Proofs.Ytijhcgppahncdaa
