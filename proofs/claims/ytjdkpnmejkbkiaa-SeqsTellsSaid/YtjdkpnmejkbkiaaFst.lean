/-
  Contracts: the program's First (the first strong class of a range, by a depth that it counts) and what opens. Condition: at most 1000 classes.
-/
import Derived.Test.YtjdkpnmejkbkiaaOwn
import Derived.Test.YtjdkpnmejkbkiaaMinMax
import Derived.Test.YtjdkpnmejkbkiaaMaF
set_option linter.unusedVariables false
set_option linter.unusedSimpArgs false
namespace Go.Proofs.Ytjdkpnmejkbkiaa
open Go.ChangeShapes Go.WideShapes Go.ChangeAt Go.RowKit

section
variable {X : Int} {l : List Int} {d : Nat}
theorem str_not (h : strC X = true) : opnC X = false ∧ X ≠ 11 ∧ X ≠ 23 := by
  unfold strC at h
  simp only [Bool.or_eq_true, beq_iff_eq] at h
  rcases h with (rfl | rfl) | rfl <;> exact ⟨rfl, by decide, by decide⟩
theorem fc_open (h : opnC X = true) : fst0 d (X :: l) = fst0 (d + 1) l := by
  obtain ⟨a, b⟩ := open_not _ h
  cases d with
  | zero => rw [fst0, if_neg (by rw [a]; decide), if_neg b, if_pos h]
  | succ d => rw [fst0, if_neg b, if_pos h]
theorem fc_pdi0 : fst0 0 (23 :: l) = fst0 0 l := by rw [fst0, if_neg (by decide), if_neg (by decide), if_neg (by decide)]
theorem fc_pdi : fst0 (d + 1) (23 :: l) = fst0 d l := by rw [fst0, if_neg (by decide), if_neg (by decide), if_pos rfl]
theorem fc_b : fst0 d (11 :: l) = 0 := by
  cases d with
  | zero => rw [fst0, if_neg (by decide), if_pos rfl]
  | succ d => rw [fst0, if_pos rfl]
theorem fc_str0 (h : strC X = true) : fst0 0 (X :: l) = X := by rw [fst0, if_pos h]
theorem fc_str (h : strC X = true) : fst0 (d + 1) (X :: l) = fst0 (d + 1) l := by
  obtain ⟨a, b, c⟩ := str_not h
  rw [fst0, if_neg b, if_neg (by rw [a]; decide), if_neg c]
theorem fc_skip (h1 : strC X = false) (h2 : X ≠ 11) (h3 : opnC X = false) (h4 : X ≠ 23) : fst0 d (X :: l) = fst0 d l := by
  cases d with
  | zero => rw [fst0, if_neg (by rw [h1]; decide), if_neg h2, if_neg (by rw [h3]; decide)]
  | succ d => rw [fst0, if_neg h2, if_neg (by rw [h3]; decide), if_neg h4]
end
theorem firstV_eq (cs : List Int) (a b : Int) : firstV cs a b = fst0 0 ((cs.take (min b cs.length).toNat).drop (max a 0).toNat) := by
  unfold firstV
  dsimp only
  split
  · rw [List.drop_of_length_le (by rw [List.length_take]; omega)]; rfl
  · rw [List.drop_take]

set_option maxHeartbeats 2000000 in
theorem opens_ok (c : Int) (w : World) : Calls Try.prog 39 #[.int .i64 c] w fun e w' => e = .returned (.bool (opnC c)) ∧ w = w' := by
  by_cases h0 : c = 20
  · subst h0
    go_enter Try.func39, Try.ntmps39
    go_wp2
    go_ret
    exact ⟨rfl, rfl⟩
  by_cases h1 : c = 21
  · subst h1
    go_enter Try.func39, Try.ntmps39
    go_wp2
    go_ret
    exact ⟨rfl, rfl⟩
  have e0 : (c == 20) = false := by simpa using h0
  have e1 : (c == 21) = false := by simpa using h1
  have HO : Hid (opnC c = (c == 22)) := Lib.hid (by unfold opnC; rw [e0, e1]; rfl)
  obtain ⟨q, hq⟩ : ∃ q, (c == 22) = q := ⟨_, rfl⟩
  have HQ := Lib.hid hq
  go_enter Try.func39, Try.ntmps39
  go_wp2
  go_ret
  exact ⟨by rw [HO.out, HQ.out]; rfl, rfl⟩
end Go.Proofs.Ytjdkpnmejkbkiaa
