/-
  A slice from a place on reads as that part of the list (where base/XOwn is laid, too: its Has.drop and Has.front serve). No condition.
-/
import Derived.Test.YtnpcakeagpbgiaaGreatGzb
import Derived.Test.YtnpcakeagpbgiaaGreatZOwn
set_option linter.unusedVariables false
namespace Go.Proofs.YtnpcakeagpbgiaaGreat
open Go.ChangeShapes Go.WideShapes Go.ChangeAt Go.RowKit

theorem cls_drop (zs : List Int) (k : Nat) : cls (zs.drop k) = (cls zs).drop k := by unfold cls; rw [List.map_drop]
end Go.Proofs.YtnpcakeagpbgiaaGreat
