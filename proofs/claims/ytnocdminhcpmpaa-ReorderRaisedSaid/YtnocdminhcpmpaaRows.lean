/-
  No cell of these rows narrows 'for every input' (looked for: loops, veiled, ifaces, maps, wideKeys, modest, calm, conditions, laid).
  DERIVED. THE GIVEN ROWS OF THIS SEAT. 6 by the template 'for every input the law returns true; each argument reads behind the call as it read before'; 0 by the template 'total and deterministic' (their statements: YtnocdminhcpmpaaTotals.lean).
  GIVEN WITH THE SEED: the statements are not yours to turn. If you find one false, say at which input.
  Laid BY PROGRAM, IN A SANDBOX (cutbox-rows.mjs): the forced cells as the released guide's own fill.sh prints them over the translation d2a43a11a0b6630d… (all of the seat's roots in one cut). By AI agents, Wed Nov 11 2026. No macro, syntax, notation, axiom, sorry.
-/
import Derived.Test.YtnocdminhcpmpaaChecked
import GoSem.Claim
import GoSem.ClaimJoined
import GoSem.ClaimMapViews
import Derived.JoinedTies
import Derived.KernelRfl
namespace Go.Proofs.Ytnocdminhcpmpaa
/- THE CELL 'sum', in the pinned program and in every row, IS THE sha256 OF THE DUMP (.gsa) THAT YtnocdminhcpmpaaProg.lean LOADS. Nothing in Lean hashes anything: it is a label: what it is worth is what the hold of that sum in a sandbox is worth. -/
noncomputable def Try.pinned : Pinned := { name := "ytnocdminhcpmpaa", sum := "d2a43a11a0b6630d60584c024462d706a7b08eed404f047237bda63d5da1374e", checked := Try.checked }
namespace Rows
def none {H : Type} : Left H := { results := [], args := [] }

/-- 'typecaselaw17.ReorderVisual': WHATEVER THE INPUT: true; the input reads as it did. -/
def reorderVisualSpec : ChangeSpec := { name := "reorderVisual", fn := fun _ => fun
  | [d] => { results := [.lit (.bool true)], args := [d] }
  | _ => none }
def reorderVisualRow : OpenClaim := { program := "ytnocdminhcpmpaa", sum := "d2a43a11a0b6630d60584c024462d706a7b08eed404f047237bda63d5da1374e", func := "typecase/typecaselaw17.ReorderVisual", spec := "reorderVisual", apart := false }
def ReorderVisualSaid : Prop := reorderVisualRow.holds Try.pinned (OpenSpec.ofChange reorderVisualSpec)

/-- ITS FALSE NEIGHBOUR: 'it returns false'. Refute it at one input. -/
def reorderVisualWrong : ChangeSpec := { name := "reorderVisual", fn := fun _ => fun
  | [d] => { results := [.lit (.bool false)], args := [d] }
  | _ => none }
def ReorderVisualWrongFalsely : Prop := reorderVisualRow.holds Try.pinned (OpenSpec.ofChange reorderVisualWrong)

/-- 'typecaselaw17.ReorderRuns': WHATEVER THE INPUT: true; the input reads as it did. -/
def reorderRunsSpec : ChangeSpec := { name := "reorderRuns", fn := fun _ => fun
  | [d] => { results := [.lit (.bool true)], args := [d] }
  | _ => none }
def reorderRunsRow : OpenClaim := { program := "ytnocdminhcpmpaa", sum := "d2a43a11a0b6630d60584c024462d706a7b08eed404f047237bda63d5da1374e", func := "typecase/typecaselaw17.ReorderRuns", spec := "reorderRuns", apart := false }
def ReorderRunsSaid : Prop := reorderRunsRow.holds Try.pinned (OpenSpec.ofChange reorderRunsSpec)

/-- ITS FALSE NEIGHBOUR: 'it returns false'. Refute it at one input. -/
def reorderRunsWrong : ChangeSpec := { name := "reorderRuns", fn := fun _ => fun
  | [d] => { results := [.lit (.bool false)], args := [d] }
  | _ => none }
def ReorderRunsWrongFalsely : Prop := reorderRunsRow.holds Try.pinned (OpenSpec.ofChange reorderRunsWrong)

/-- 'typecaselaw17.ReorderIs': WHATEVER THE INPUT: true; the input reads as it did. -/
def reorderIsSpec : ChangeSpec := { name := "reorderIs", fn := fun _ => fun
  | [d] => { results := [.lit (.bool true)], args := [d] }
  | _ => none }
def reorderIsRow : OpenClaim := { program := "ytnocdminhcpmpaa", sum := "d2a43a11a0b6630d60584c024462d706a7b08eed404f047237bda63d5da1374e", func := "typecase/typecaselaw17.ReorderIs", spec := "reorderIs", apart := false }
def ReorderIsSaid : Prop := reorderIsRow.holds Try.pinned (OpenSpec.ofChange reorderIsSpec)

/-- ITS FALSE NEIGHBOUR: 'it returns false'. Refute it at one input. -/
def reorderIsWrong : ChangeSpec := { name := "reorderIs", fn := fun _ => fun
  | [d] => { results := [.lit (.bool false)], args := [d] }
  | _ => none }
def ReorderIsWrongFalsely : Prop := reorderIsRow.holds Try.pinned (OpenSpec.ofChange reorderIsWrong)

/-- 'typecaselaw17.ReorderBack': WHATEVER THE INPUT: true; the input reads as it did. -/
def reorderBackSpec : ChangeSpec := { name := "reorderBack", fn := fun _ => fun
  | [d] => { results := [.lit (.bool true)], args := [d] }
  | _ => none }
def reorderBackRow : OpenClaim := { program := "ytnocdminhcpmpaa", sum := "d2a43a11a0b6630d60584c024462d706a7b08eed404f047237bda63d5da1374e", func := "typecase/typecaselaw17.ReorderBack", spec := "reorderBack", apart := false }
def ReorderBackSaid : Prop := reorderBackRow.holds Try.pinned (OpenSpec.ofChange reorderBackSpec)

/-- ITS FALSE NEIGHBOUR: 'it returns false'. Refute it at one input. -/
def reorderBackWrong : ChangeSpec := { name := "reorderBack", fn := fun _ => fun
  | [d] => { results := [.lit (.bool false)], args := [d] }
  | _ => none }
def ReorderBackWrongFalsely : Prop := reorderBackRow.holds Try.pinned (OpenSpec.ofChange reorderBackWrong)

/-- 'typecaselaw17.ReorderRaised': WHATEVER THE INPUT: true; the input reads as it did. -/
def reorderRaisedSpec : ChangeSpec := { name := "reorderRaised", fn := fun _ => fun
  | [d] => { results := [.lit (.bool true)], args := [d] }
  | _ => none }
def reorderRaisedRow : OpenClaim := { program := "ytnocdminhcpmpaa", sum := "d2a43a11a0b6630d60584c024462d706a7b08eed404f047237bda63d5da1374e", func := "typecase/typecaselaw17.ReorderRaised", spec := "reorderRaised", apart := false }
def ReorderRaisedSaid : Prop := reorderRaisedRow.holds Try.pinned (OpenSpec.ofChange reorderRaisedSpec)

/-- ITS FALSE NEIGHBOUR: 'it returns false'. Refute it at one input. -/
def reorderRaisedWrong : ChangeSpec := { name := "reorderRaised", fn := fun _ => fun
  | [d] => { results := [.lit (.bool false)], args := [d] }
  | _ => none }
def ReorderRaisedWrongFalsely : Prop := reorderRaisedRow.holds Try.pinned (OpenSpec.ofChange reorderRaisedWrong)

/-- 'typecaselaw17.ReorderFlat': WHATEVER THE INPUT: true; the input reads as it did. -/
def reorderFlatSpec : ChangeSpec := { name := "reorderFlat", fn := fun _ => fun
  | [d1, d2] => { results := [.lit (.bool true)], args := [d1, d2] }
  | _ => none }
def reorderFlatRow : OpenClaim := { program := "ytnocdminhcpmpaa", sum := "d2a43a11a0b6630d60584c024462d706a7b08eed404f047237bda63d5da1374e", func := "typecase/typecaselaw17.ReorderFlat", spec := "reorderFlat", apart := false }
def ReorderFlatSaid : Prop := reorderFlatRow.holds Try.pinned (OpenSpec.ofChange reorderFlatSpec)

/-- ITS FALSE NEIGHBOUR: 'it returns false'. Refute it at one input. -/
def reorderFlatWrong : ChangeSpec := { name := "reorderFlat", fn := fun _ => fun
  | [d1, d2] => { results := [.lit (.bool false)], args := [d1, d2] }
  | _ => none }
def ReorderFlatWrongFalsely : Prop := reorderFlatRow.holds Try.pinned (OpenSpec.ofChange reorderFlatWrong)

/- THE SECOND FORM. 'bulk': how many values and letters a reading holds, each counted each time it is reached (what is shared counts as often as it is met; a slice's spare places count too). A statement '..UptoSaid' is the law's where the arguments, and the package variables that the reading takes, are together of bulk at most 1048576: NARROWER than '..Said'. Prove '..Said' where nothing that the law and all that it calls make is longer than what came in: it says more and counts as full. Else prove '..UptoSaid'. A law counts once. -/
mutual
def uptoBulk {H : Type} : DataW H → Nat
  | .lit (.string bytes) => bytes.length + 1
  | .lit _ => 1
  | .nil => 1
  | .ptr d => uptoBulk d + 1
  | .slice elems spare => uptoBulkAll elems + uptoBulkAll spare + 1
  | .agg parts => uptoBulkAll parts + 1
  | .iface _ d => uptoBulk d + 1
  | .map entries => uptoBulkEntries entries + 1
  | .held _ => 1
def uptoBulkAll {H : Type} : List (DataW H) → Nat
  | [] => 0
  | d :: r => uptoBulk d + uptoBulkAll r
def uptoBulkEntries {H : Type} : List (Lit × DataW H) → Nat
  | [] => 0
  | x :: r => uptoBulkEntry x + uptoBulkEntries r
def uptoBulkEntry {H : Type} : Lit × DataW H → Nat
  | (.string bytes, d) => bytes.length + uptoBulk d + 1
  | (_, d) => uptoBulk d + 1
 end
def uptoSmall : (H : Type) → List (DataW H) → Bool := fun _ ds => decide (uptoBulkAll ds ≤ 1048576)
def OpenSpec.upto (s : _root_.Go.ChangeSpec) : _root_.Go.OpenSpec := { _root_.Go.OpenSpec.ofChange s with cond := some uptoSmall }

/-- 'typecaselaw17.ReorderVisual', WHERE WHAT IT READS IS OF BULK AT MOST 1048576: true; the input reads as it did. -/
def reorderVisualUptoRow : OpenClaim := { program := "ytnocdminhcpmpaa", sum := "d2a43a11a0b6630d60584c024462d706a7b08eed404f047237bda63d5da1374e", func := "typecase/typecaselaw17.ReorderVisual", spec := "reorderVisual", apart := false, narrowed := true }
def ReorderVisualUptoSaid : Prop := reorderVisualUptoRow.holds Try.pinned (OpenSpec.upto reorderVisualSpec)

/-- 'typecaselaw17.ReorderRuns', WHERE WHAT IT READS IS OF BULK AT MOST 1048576: true; the input reads as it did. -/
def reorderRunsUptoRow : OpenClaim := { program := "ytnocdminhcpmpaa", sum := "d2a43a11a0b6630d60584c024462d706a7b08eed404f047237bda63d5da1374e", func := "typecase/typecaselaw17.ReorderRuns", spec := "reorderRuns", apart := false, narrowed := true }
def ReorderRunsUptoSaid : Prop := reorderRunsUptoRow.holds Try.pinned (OpenSpec.upto reorderRunsSpec)

/-- 'typecaselaw17.ReorderIs', WHERE WHAT IT READS IS OF BULK AT MOST 1048576: true; the input reads as it did. -/
def reorderIsUptoRow : OpenClaim := { program := "ytnocdminhcpmpaa", sum := "d2a43a11a0b6630d60584c024462d706a7b08eed404f047237bda63d5da1374e", func := "typecase/typecaselaw17.ReorderIs", spec := "reorderIs", apart := false, narrowed := true }
def ReorderIsUptoSaid : Prop := reorderIsUptoRow.holds Try.pinned (OpenSpec.upto reorderIsSpec)

/-- 'typecaselaw17.ReorderBack', WHERE WHAT IT READS IS OF BULK AT MOST 1048576: true; the input reads as it did. -/
def reorderBackUptoRow : OpenClaim := { program := "ytnocdminhcpmpaa", sum := "d2a43a11a0b6630d60584c024462d706a7b08eed404f047237bda63d5da1374e", func := "typecase/typecaselaw17.ReorderBack", spec := "reorderBack", apart := false, narrowed := true }
def ReorderBackUptoSaid : Prop := reorderBackUptoRow.holds Try.pinned (OpenSpec.upto reorderBackSpec)

/-- 'typecaselaw17.ReorderRaised', WHERE WHAT IT READS IS OF BULK AT MOST 1048576: true; the input reads as it did. -/
def reorderRaisedUptoRow : OpenClaim := { program := "ytnocdminhcpmpaa", sum := "d2a43a11a0b6630d60584c024462d706a7b08eed404f047237bda63d5da1374e", func := "typecase/typecaselaw17.ReorderRaised", spec := "reorderRaised", apart := false, narrowed := true }
def ReorderRaisedUptoSaid : Prop := reorderRaisedUptoRow.holds Try.pinned (OpenSpec.upto reorderRaisedSpec)

/-- 'typecaselaw17.ReorderFlat', WHERE WHAT IT READS IS OF BULK AT MOST 1048576: true; the input reads as it did. -/
def reorderFlatUptoRow : OpenClaim := { program := "ytnocdminhcpmpaa", sum := "d2a43a11a0b6630d60584c024462d706a7b08eed404f047237bda63d5da1374e", func := "typecase/typecaselaw17.ReorderFlat", spec := "reorderFlat", apart := false, narrowed := true }
def ReorderFlatUptoSaid : Prop := reorderFlatUptoRow.holds Try.pinned (OpenSpec.upto reorderFlatSpec)

end Rows
end Go.Proofs.Ytnocdminhcpmpaa
