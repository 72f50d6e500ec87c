/-
  Contracts of the document's Of (spans of values). No condition but bounds on lengths.
-/
import Derived.Test.YtllmafbpjmclbaaSpt
import Derived.Deep.Fields
set_option linter.unusedVariables false
namespace Go.Proofs.Ytllmafbpjmclbaa.S5
open Go.ChangeShapes Go.WideShapes Go.ChangeAt Go.RowKit

theorem endS_get (l' : List Sp) (s : Sp) (i : Nat) (h : i = l'.length) : (l' ++ [s])[i]? = some s := by subst h; simp
theorem of_last (ys : List Int) (y : Int) : ∃ l' f, of (ys ++ [y]) = l' ++ [⟨f, ys.length + 1, y⟩] := by
  have hp := parts_of (ys ++ [y])
  have he := endS_of (ys ++ [y])
  rcases snoc_cases (of (ys ++ [y])) with h | ⟨l', s, h⟩
  · rw [h] at he; simp [endS] at he; omega
  · rw [h] at hp he
    rw [endS_snoc] at he
    obtain ⟨k, zs, hk, e4, _, _, _⟩ := hp.last
    obtain ⟨m, rfl⟩ : ∃ m, k = m + 1 := ⟨k - 1, by omega⟩
    rw [replicate_snoc, ← List.append_assoc] at e4
    have e5 := List.append_inj_right' e4 rfl
    injection e5 with e5
    refine ⟨l', s.f, ?_⟩
    rw [h]
    obtain ⟨f, t, v⟩ := s
    simp at he e5
    subst e5
    rw [he]
theorem of_step (xs : List Int) (i : Nat) (h : i < xs.length) : of (xs.take (i + 1)) = ext (of (xs.take i)) (i + 1) xs[i] := by
  rw [List.take_add_one, List.getElem?_eq_getElem h]
  show of (xs.take i ++ [xs[i]]) = _
  rw [of_snoc', List.length_take]
  congr 1
  omega
theorem of_step0 (xs : List Int) (h : 0 < xs.length) : of (xs.take 1) = [] ++ [⟨0, 1, xs[0]⟩] := by
  rw [of_step xs 0 h]
  simp [of, ext_nil]
theorem of_same (xs : List Int) (i : Nat) (h : i + 1 < xs.length) (he : xs[i + 1] = xs[i]) : ∃ l' f, of (xs.take (i + 1)) = l' ++ [⟨f, i + 1, xs[i]⟩] ∧ of (xs.take (i + 1 + 1)) = l' ++ [⟨f, i + 1 + 1, xs[i]⟩] := by
  obtain ⟨l', f, h1⟩ := of_last (xs.take i) xs[i]
  have e : xs.take i ++ [xs[i]] = xs.take (i + 1) := by rw [List.take_add_one, List.getElem?_eq_getElem (by omega)]; rfl
  rw [e, List.length_take, show min i xs.length = i by omega] at h1
  refine ⟨l', f, h1, ?_⟩
  rw [of_step xs (i + 1) h, h1, ext_snoc _ _ _ _ (by simp; omega), if_pos he.symm]
  simp
theorem of_other (xs : List Int) (i : Nat) (h : i + 1 < xs.length) (he : xs[i + 1] ≠ xs[i]) : of (xs.take (i + 1 + 1)) = of (xs.take (i + 1)) ++ [⟨i + 1, i + 1 + 1, xs[i + 1]⟩] := by
  obtain ⟨l', f, h1⟩ := of_last (xs.take i) xs[i]
  have e : xs.take i ++ [xs[i]] = xs.take (i + 1) := by rw [List.take_add_one, List.getElem?_eq_getElem (by omega)]; rfl
  rw [e, List.length_take, show min i xs.length = i by omega] at h1
  rw [of_step xs (i + 1) h, h1, ext_snoc _ _ _ _ (by simp; omega), if_neg (fun h => he h.symm)]
  simp

end Go.Proofs.Ytllmafbpjmclbaa.S5
