/-
  Contracts: where isolates end, whether one runs from right to left, opening and closing an isolate. Condition: at most 1000 classes and entries, counters of at most 1000.
-/
import Derived.Test.YtjdkpnmejkbkiaaXsd
import Derived.Test.YtjdkpnmejkbkiaaMch
set_option linter.unusedVariables false
set_option linter.unusedSimpArgs false
namespace Go.Proofs.Ytjdkpnmejkbkiaa
open Go.ChangeShapes Go.WideShapes Go.ChangeAt Go.RowKit Go.Sort

/-- whether an isolate runs from right to left: the initiator, and what it isolates -/
def leftB (l : List Int) : Bool := if l.getD 0 0 = 22 then raC (firstV l 1 l.length) else l.getD 0 0 == 21

theorem iso_full (s : Xs) (h : ovfB s = true) (odd : Bool) : isoX s odd = ⟨s.l, s.isos + 1, s.embs, s.vals⟩ := by
  unfold isoX
  rw [if_neg]
  intro hr
  obtain ⟨_, h1, h2⟩ := room_is hr
  unfold ovfB at h
  rw [h1, h2] at h
  cases h

end Go.Proofs.Ytjdkpnmejkbkiaa
