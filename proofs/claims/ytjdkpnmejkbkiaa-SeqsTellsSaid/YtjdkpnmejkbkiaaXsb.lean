/-
  Contracts: what the program shows of a character, and pushing an entry onto its stack. Condition: at most 1000 entries.
-/
import Derived.Test.YtjdkpnmejkbkiaaXsa
import Derived.Deep.RegionLaw
set_option linter.unusedVariables false
set_option linter.unusedSimpArgs false
namespace Go.Proofs.Ytjdkpnmejkbkiaa
open Go.ChangeShapes Go.WideShapes Go.ChangeAt Go.RowKit Go.Sort

end Go.Proofs.Ytjdkpnmejkbkiaa
