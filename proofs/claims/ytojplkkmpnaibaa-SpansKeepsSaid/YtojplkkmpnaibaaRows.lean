/-
  No cell of these rows narrows 'for every input' (looked for: loops, veiled, ifaces, maps, wideKeys, modest, calm, conditions, laid).
  DERIVED. THE GIVEN ROWS OF THIS SEAT. 8 by the template 'for every input the law returns true; each argument reads behind the call as it read before'; 0 by the template 'total and deterministic' (their statements: YtojplkkmpnaibaaTotals.lean).
  GIVEN WITH THE SEED: the statements are not yours to turn. If you find one false, say at which input.
  Laid BY PROGRAM, IN A SANDBOX (cutbox-rows.mjs): the forced cells as the released guide's own fill.sh prints them over the translation d1efa58817db3e2b… (all of the seat's roots in one cut). By AI agents, Wed Nov 11 2026. No macro, syntax, notation, axiom, sorry.
-/
import Derived.Test.YtojplkkmpnaibaaChecked
import GoSem.Claim
import GoSem.ClaimJoined
import GoSem.ClaimMapViews
import Derived.JoinedTies
import Derived.KernelRfl
namespace Go.Proofs.Ytojplkkmpnaibaa
/- THE CELL 'sum', in the pinned program and in every row, IS THE sha256 OF THE DUMP (.gsa) THAT YtojplkkmpnaibaaProg.lean LOADS. Nothing in Lean hashes anything: it is a label: what it is worth is what the hold of that sum in a sandbox is worth. -/
noncomputable def Try.pinned : Pinned := { name := "ytojplkkmpnaibaa", sum := "d1efa58817db3e2b2c5ae3c8d2b6b160aabc1b2059e904fadb8a27ef0c4de786", checked := Try.checked }
namespace Rows
def none {H : Type} : Left H := { results := [], args := [] }

/-- 'typecaselaw05.SpansNorms': WHATEVER THE INPUT: true; the input reads as it did. -/
def spansNormsSpec : ChangeSpec := { name := "spansNorms", fn := fun _ => fun
  | [d1, d2] => { results := [.lit (.bool true)], args := [d1, d2] }
  | _ => none }
def spansNormsRow : OpenClaim := { program := "ytojplkkmpnaibaa", sum := "d1efa58817db3e2b2c5ae3c8d2b6b160aabc1b2059e904fadb8a27ef0c4de786", func := "typecase/typecaselaw05.SpansNorms", spec := "spansNorms", unfollowed := true, recurses := true, apart := false }
def SpansNormsSaid : Prop := spansNormsRow.holds Try.pinned (OpenSpec.ofChange spansNormsSpec)

/-- ITS FALSE NEIGHBOUR: 'it returns false'. Refute it at one input. -/
def spansNormsWrong : ChangeSpec := { name := "spansNorms", fn := fun _ => fun
  | [d1, d2] => { results := [.lit (.bool false)], args := [d1, d2] }
  | _ => none }
def SpansNormsWrongFalsely : Prop := spansNormsRow.holds Try.pinned (OpenSpec.ofChange spansNormsWrong)

/-- 'typecaselaw05.SpansWhole': WHATEVER THE INPUT: true; the input reads as it did. -/
def spansWholeSpec : ChangeSpec := { name := "spansWhole", fn := fun _ => fun
  | [d1, d2, d3] => { results := [.lit (.bool true)], args := [d1, d2, d3] }
  | _ => none }
def spansWholeRow : OpenClaim := { program := "ytojplkkmpnaibaa", sum := "d1efa58817db3e2b2c5ae3c8d2b6b160aabc1b2059e904fadb8a27ef0c4de786", func := "typecase/typecaselaw05.SpansWhole", spec := "spansWhole", apart := false }
def SpansWholeSaid : Prop := spansWholeRow.holds Try.pinned (OpenSpec.ofChange spansWholeSpec)

/-- ITS FALSE NEIGHBOUR: 'it returns false'. Refute it at one input. -/
def spansWholeWrong : ChangeSpec := { name := "spansWhole", fn := fun _ => fun
  | [d1, d2, d3] => { results := [.lit (.bool false)], args := [d1, d2, d3] }
  | _ => none }
def SpansWholeWrongFalsely : Prop := spansWholeRow.holds Try.pinned (OpenSpec.ofChange spansWholeWrong)

/-- 'typecaselaw05.SpansSets': WHATEVER THE INPUT: true; the input reads as it did. -/
def spansSetsSpec : ChangeSpec := { name := "spansSets", fn := fun _ => fun
  | [d1, d2] => { results := [.lit (.bool true)], args := [d1, d2] }
  | _ => none }
def spansSetsRow : OpenClaim := { program := "ytojplkkmpnaibaa", sum := "d1efa58817db3e2b2c5ae3c8d2b6b160aabc1b2059e904fadb8a27ef0c4de786", func := "typecase/typecaselaw05.SpansSets", spec := "spansSets", apart := false }
def SpansSetsSaid : Prop := spansSetsRow.holds Try.pinned (OpenSpec.ofChange spansSetsSpec)

/-- ITS FALSE NEIGHBOUR: 'it returns false'. Refute it at one input. -/
def spansSetsWrong : ChangeSpec := { name := "spansSets", fn := fun _ => fun
  | [d1, d2] => { results := [.lit (.bool false)], args := [d1, d2] }
  | _ => none }
def SpansSetsWrongFalsely : Prop := spansSetsRow.holds Try.pinned (OpenSpec.ofChange spansSetsWrong)

/-- 'typecaselaw05.SpansParts': WHATEVER THE INPUT: true; the input reads as it did. -/
def spansPartsSpec : ChangeSpec := { name := "spansParts", fn := fun _ => fun
  | [d1, d2] => { results := [.lit (.bool true)], args := [d1, d2] }
  | _ => none }
def spansPartsRow : OpenClaim := { program := "ytojplkkmpnaibaa", sum := "d1efa58817db3e2b2c5ae3c8d2b6b160aabc1b2059e904fadb8a27ef0c4de786", func := "typecase/typecaselaw05.SpansParts", spec := "spansParts", apart := false }
def SpansPartsSaid : Prop := spansPartsRow.holds Try.pinned (OpenSpec.ofChange spansPartsSpec)

/-- ITS FALSE NEIGHBOUR: 'it returns false'. Refute it at one input. -/
def spansPartsWrong : ChangeSpec := { name := "spansParts", fn := fun _ => fun
  | [d1, d2] => { results := [.lit (.bool false)], args := [d1, d2] }
  | _ => none }
def SpansPartsWrongFalsely : Prop := spansPartsRow.holds Try.pinned (OpenSpec.ofChange spansPartsWrong)

/-- 'typecaselaw05.SpansEdits': WHATEVER THE INPUT: true; the input reads as it did. -/
def spansEditsSpec : ChangeSpec := { name := "spansEdits", fn := fun _ => fun
  | [d1, d2] => { results := [.lit (.bool true)], args := [d1, d2] }
  | _ => none }
def spansEditsRow : OpenClaim := { program := "ytojplkkmpnaibaa", sum := "d1efa58817db3e2b2c5ae3c8d2b6b160aabc1b2059e904fadb8a27ef0c4de786", func := "typecase/typecaselaw05.SpansEdits", spec := "spansEdits", apart := false }
def SpansEditsSaid : Prop := spansEditsRow.holds Try.pinned (OpenSpec.ofChange spansEditsSpec)

/-- ITS FALSE NEIGHBOUR: 'it returns false'. Refute it at one input. -/
def spansEditsWrong : ChangeSpec := { name := "spansEdits", fn := fun _ => fun
  | [d1, d2] => { results := [.lit (.bool false)], args := [d1, d2] }
  | _ => none }
def SpansEditsWrongFalsely : Prop := spansEditsRow.holds Try.pinned (OpenSpec.ofChange spansEditsWrong)

/-- 'typecaselaw05.SpansMeet': WHATEVER THE INPUT: true; the input reads as it did. -/
def spansMeetSpec : ChangeSpec := { name := "spansMeet", fn := fun _ => fun
  | [d1, d2, d3] => { results := [.lit (.bool true)], args := [d1, d2, d3] }
  | _ => none }
def spansMeetRow : OpenClaim := { program := "ytojplkkmpnaibaa", sum := "d1efa58817db3e2b2c5ae3c8d2b6b160aabc1b2059e904fadb8a27ef0c4de786", func := "typecase/typecaselaw05.SpansMeet", spec := "spansMeet", unfollowed := true, recurses := true, apart := false }
def SpansMeetSaid : Prop := spansMeetRow.holds Try.pinned (OpenSpec.ofChange spansMeetSpec)

/-- ITS FALSE NEIGHBOUR: 'it returns false'. Refute it at one input. -/
def spansMeetWrong : ChangeSpec := { name := "spansMeet", fn := fun _ => fun
  | [d1, d2, d3] => { results := [.lit (.bool false)], args := [d1, d2, d3] }
  | _ => none }
def SpansMeetWrongFalsely : Prop := spansMeetRow.holds Try.pinned (OpenSpec.ofChange spansMeetWrong)

/-- 'typecaselaw05.SpansKeeps': WHATEVER THE INPUT: true; the input reads as it did. -/
def spansKeepsSpec : ChangeSpec := { name := "spansKeeps", fn := fun _ => fun
  | [d1, d2] => { results := [.lit (.bool true)], args := [d1, d2] }
  | _ => none }
def spansKeepsRow : OpenClaim := { program := "ytojplkkmpnaibaa", sum := "d1efa58817db3e2b2c5ae3c8d2b6b160aabc1b2059e904fadb8a27ef0c4de786", func := "typecase/typecaselaw05.SpansKeeps", spec := "spansKeeps", unfollowed := true, recurses := true, apart := false }
def SpansKeepsSaid : Prop := spansKeepsRow.holds Try.pinned (OpenSpec.ofChange spansKeepsSpec)

/-- ITS FALSE NEIGHBOUR: 'it returns false'. Refute it at one input. -/
def spansKeepsWrong : ChangeSpec := { name := "spansKeeps", fn := fun _ => fun
  | [d1, d2] => { results := [.lit (.bool false)], args := [d1, d2] }
  | _ => none }
def SpansKeepsWrongFalsely : Prop := spansKeepsRow.holds Try.pinned (OpenSpec.ofChange spansKeepsWrong)

/-- 'typecaselaw05.SpansSwaps': WHATEVER THE INPUT: true; the input reads as it did. -/
def spansSwapsSpec : ChangeSpec := { name := "spansSwaps", fn := fun _ => fun
  | [d1, d2] => { results := [.lit (.bool true)], args := [d1, d2] }
  | _ => none }
def spansSwapsRow : OpenClaim := { program := "ytojplkkmpnaibaa", sum := "d1efa58817db3e2b2c5ae3c8d2b6b160aabc1b2059e904fadb8a27ef0c4de786", func := "typecase/typecaselaw05.SpansSwaps", spec := "spansSwaps", unfollowed := true, recurses := true, apart := false }
def SpansSwapsSaid : Prop := spansSwapsRow.holds Try.pinned (OpenSpec.ofChange spansSwapsSpec)

/-- ITS FALSE NEIGHBOUR: 'it returns false'. Refute it at one input. -/
def spansSwapsWrong : ChangeSpec := { name := "spansSwaps", fn := fun _ => fun
  | [d1, d2] => { results := [.lit (.bool false)], args := [d1, d2] }
  | _ => none }
def SpansSwapsWrongFalsely : Prop := spansSwapsRow.holds Try.pinned (OpenSpec.ofChange spansSwapsWrong)

/- THE SECOND FORM. 'bulk': how many values and letters a reading holds, each counted each time it is reached (what is shared counts as often as it is met; a slice's spare places count too). A statement '..UptoSaid' is the law's where the arguments, and the package variables that the reading takes, are together of bulk at most 1048576: NARROWER than '..Said'. Prove '..Said' where nothing that the law and all that it calls make is longer than what came in: it says more and counts as full. Else prove '..UptoSaid'. A law counts once. -/
mutual
def uptoBulk {H : Type} : DataW H → Nat
  | .lit (.string bytes) => bytes.length + 1
  | .lit _ => 1
  | .nil => 1
  | .ptr d => uptoBulk d + 1
  | .slice elems spare => uptoBulkAll elems + uptoBulkAll spare + 1
  | .agg parts => uptoBulkAll parts + 1
  | .iface _ d => uptoBulk d + 1
  | .map entries => uptoBulkEntries entries + 1
  | .held _ => 1
def uptoBulkAll {H : Type} : List (DataW H) → Nat
  | [] => 0
  | d :: r => uptoBulk d + uptoBulkAll r
def uptoBulkEntries {H : Type} : List (Lit × DataW H) → Nat
  | [] => 0
  | x :: r => uptoBulkEntry x + uptoBulkEntries r
def uptoBulkEntry {H : Type} : Lit × DataW H → Nat
  | (.string bytes, d) => bytes.length + uptoBulk d + 1
  | (_, d) => uptoBulk d + 1
 end
def uptoSmall : (H : Type) → List (DataW H) → Bool := fun _ ds => decide (uptoBulkAll ds ≤ 1048576)
def OpenSpec.upto (s : _root_.Go.ChangeSpec) : _root_.Go.OpenSpec := { _root_.Go.OpenSpec.ofChange s with cond := some uptoSmall }

/-- 'typecaselaw05.SpansNorms', WHERE WHAT IT READS IS OF BULK AT MOST 1048576: true; the input reads as it did. -/
def spansNormsUptoRow : OpenClaim := { program := "ytojplkkmpnaibaa", sum := "d1efa58817db3e2b2c5ae3c8d2b6b160aabc1b2059e904fadb8a27ef0c4de786", func := "typecase/typecaselaw05.SpansNorms", spec := "spansNorms", unfollowed := true, recurses := true, apart := false, narrowed := true }
def SpansNormsUptoSaid : Prop := spansNormsUptoRow.holds Try.pinned (OpenSpec.upto spansNormsSpec)

/-- 'typecaselaw05.SpansWhole', WHERE WHAT IT READS IS OF BULK AT MOST 1048576: true; the input reads as it did. -/
def spansWholeUptoRow : OpenClaim := { program := "ytojplkkmpnaibaa", sum := "d1efa58817db3e2b2c5ae3c8d2b6b160aabc1b2059e904fadb8a27ef0c4de786", func := "typecase/typecaselaw05.SpansWhole", spec := "spansWhole", apart := false, narrowed := true }
def SpansWholeUptoSaid : Prop := spansWholeUptoRow.holds Try.pinned (OpenSpec.upto spansWholeSpec)

/-- 'typecaselaw05.SpansSets', WHERE WHAT IT READS IS OF BULK AT MOST 1048576: true; the input reads as it did. -/
def spansSetsUptoRow : OpenClaim := { program := "ytojplkkmpnaibaa", sum := "d1efa58817db3e2b2c5ae3c8d2b6b160aabc1b2059e904fadb8a27ef0c4de786", func := "typecase/typecaselaw05.SpansSets", spec := "spansSets", apart := false, narrowed := true }
def SpansSetsUptoSaid : Prop := spansSetsUptoRow.holds Try.pinned (OpenSpec.upto spansSetsSpec)

/-- 'typecaselaw05.SpansParts', WHERE WHAT IT READS IS OF BULK AT MOST 1048576: true; the input reads as it did. -/
def spansPartsUptoRow : OpenClaim := { program := "ytojplkkmpnaibaa", sum := "d1efa58817db3e2b2c5ae3c8d2b6b160aabc1b2059e904fadb8a27ef0c4de786", func := "typecase/typecaselaw05.SpansParts", spec := "spansParts", apart := false, narrowed := true }
def SpansPartsUptoSaid : Prop := spansPartsUptoRow.holds Try.pinned (OpenSpec.upto spansPartsSpec)

/-- 'typecaselaw05.SpansEdits', WHERE WHAT IT READS IS OF BULK AT MOST 1048576: true; the input reads as it did. -/
def spansEditsUptoRow : OpenClaim := { program := "ytojplkkmpnaibaa", sum := "d1efa58817db3e2b2c5ae3c8d2b6b160aabc1b2059e904fadb8a27ef0c4de786", func := "typecase/typecaselaw05.SpansEdits", spec := "spansEdits", apart := false, narrowed := true }
def SpansEditsUptoSaid : Prop := spansEditsUptoRow.holds Try.pinned (OpenSpec.upto spansEditsSpec)

/-- 'typecaselaw05.SpansMeet', WHERE WHAT IT READS IS OF BULK AT MOST 1048576: true; the input reads as it did. -/
def spansMeetUptoRow : OpenClaim := { program := "ytojplkkmpnaibaa", sum := "d1efa58817db3e2b2c5ae3c8d2b6b160aabc1b2059e904fadb8a27ef0c4de786", func := "typecase/typecaselaw05.SpansMeet", spec := "spansMeet", unfollowed := true, recurses := true, apart := false, narrowed := true }
def SpansMeetUptoSaid : Prop := spansMeetUptoRow.holds Try.pinned (OpenSpec.upto spansMeetSpec)

/-- 'typecaselaw05.SpansKeeps', WHERE WHAT IT READS IS OF BULK AT MOST 1048576: true; the input reads as it did. -/
def spansKeepsUptoRow : OpenClaim := { program := "ytojplkkmpnaibaa", sum := "d1efa58817db3e2b2c5ae3c8d2b6b160aabc1b2059e904fadb8a27ef0c4de786", func := "typecase/typecaselaw05.SpansKeeps", spec := "spansKeeps", unfollowed := true, recurses := true, apart := false, narrowed := true }
def SpansKeepsUptoSaid : Prop := spansKeepsUptoRow.holds Try.pinned (OpenSpec.upto spansKeepsSpec)

/-- 'typecaselaw05.SpansSwaps', WHERE WHAT IT READS IS OF BULK AT MOST 1048576: true; the input reads as it did. -/
def spansSwapsUptoRow : OpenClaim := { program := "ytojplkkmpnaibaa", sum := "d1efa58817db3e2b2c5ae3c8d2b6b160aabc1b2059e904fadb8a27ef0c4de786", func := "typecase/typecaselaw05.SpansSwaps", spec := "spansSwaps", unfollowed := true, recurses := true, apart := false, narrowed := true }
def SpansSwapsUptoSaid : Prop := spansSwapsUptoRow.holds Try.pinned (OpenSpec.upto spansSwapsSpec)

end Rows
end Go.Proofs.Ytojplkkmpnaibaa
