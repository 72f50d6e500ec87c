/-
  Contracts of what the program reads of its state: the last entry, whether something overflows, the level above, the class that is shown. Condition: at most 1000 entries.
-/
import Derived.Test.YtjdkpnmejkbkiaaXst
set_option linter.unusedVariables false
set_option linter.unusedSimpArgs false
namespace Go.Proofs.Ytjdkpnmejkbkiaa
open Go.ChangeShapes Go.WideShapes Go.ChangeAt Go.RowKit Go.Sort

def ovfB (s : Xs) : Bool := decide (0 < s.isos) || decide (0 < s.embs)
theorem and_one : ∀ n : Nat, n < 127 → bits .and .i64 ((n : Int) + 1) 1 = (((n + 1) % 2 : Nat) : Int) := by decide
end Go.Proofs.Ytjdkpnmejkbkiaa
