/-
  Contracts: opening and closing an embedding, what a removed character does to the program's state. Condition: at most 1000 entries, counters of at most 1000.
-/
import Derived.Test.YtjdkpnmejkbkiaaXsb
import Derived.IntWalk
set_option linter.unusedVariables false
set_option linter.unusedSimpArgs false
namespace Go.Proofs.Ytjdkpnmejkbkiaa
open Go.ChangeShapes Go.WideShapes Go.ChangeAt Go.RowKit Go.Sort

section
variable {B : Nat} {w : World} {g : Nat} {s : Xs}
end
def openX (s : Xs) (left : Bool) (ov : Nat) : Xs :=
  if roomX s (nextL (lastE s.l).lv left) = true then ⟨s.l ++ [⟨nextL (lastE s.l).lv left, ov, false⟩], s.isos, s.embs, s.vals⟩
  else if s.isos = 0 then ⟨s.l, s.isos, s.embs + 1, s.vals⟩ else s
theorem embed_open (s : Xs) (c : Int) : embedX s c = openX s (c == 17 || c == 18) (ovC c) := rfl

end Go.Proofs.Ytjdkpnmejkbkiaa
