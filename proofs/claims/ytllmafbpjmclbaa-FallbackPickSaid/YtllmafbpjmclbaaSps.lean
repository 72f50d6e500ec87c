/-
  Contracts of the document's Same over spans. No condition but bounds on lengths.
-/
import Derived.Test.YtllmafbpjmclbaaSpn
import Derived.Deep.Fields
import Derived.BigQuiet
import Derived.Deep.QuietTactic
set_option linter.unusedVariables false
namespace Go.Proofs.Ytllmafbpjmclbaa.S5
open Go.ChangeShapes Go.WideShapes Go.ChangeAt Go.RowKit

theorem take_eq {α : Type} (xs ys : List α) (k : Nat) (h1 : k < xs.length) (h2 : k < ys.length) (h : xs.take k = ys.take k) (he : xs[k] = ys[k]) : xs.take (k + 1) = ys.take (k + 1) := by
  rw [List.take_add_one, List.take_add_one, List.getElem?_eq_getElem h1, List.getElem?_eq_getElem h2, h, he]
theorem ne_at {α : Type} [DecidableEq α] (xs ys : List α) (k : Nat) (h1 : k < xs.length) (h2 : k < ys.length) (he : xs[k] ≠ ys[k]) : decide (xs = ys) = false := by
  apply decide_eq_false
  intro h
  subst h
  exact he rfl
end Go.Proofs.Ytllmafbpjmclbaa.S5
