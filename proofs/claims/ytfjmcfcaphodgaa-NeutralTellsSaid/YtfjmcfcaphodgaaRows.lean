/-
  No cell of these rows narrows 'for every input' (looked for: loops, veiled, ifaces, maps, wideKeys, modest, calm, conditions, laid).
  DERIVED. THE GIVEN ROWS OF THIS SEAT. 4 by the template 'for every input the law returns true; each argument reads behind the call as it read before'; 0 by the template 'total and deterministic' (their statements: YtfjmcfcaphodgaaTotals.lean).
  GIVEN WITH THE SEED: the statements are not yours to turn. If you find one false, say at which input.
  Laid BY PROGRAM, IN A SANDBOX (cutbox-rows.mjs): the forced cells as the released guide's own fill.sh prints them over the translation c72e2b1b69a3bc6a… (all of the seat's roots in one cut). By AI agents, Wed Nov 11 2026. No macro, syntax, notation, axiom, sorry.
-/
import Derived.Test.YtfjmcfcaphodgaaChecked
import GoSem.Claim
import GoSem.ClaimJoined
import GoSem.ClaimMapViews
import Derived.JoinedTies
import Derived.KernelRfl
namespace Go.Proofs.Ytfjmcfcaphodgaa
/- THE CELL 'sum', in the pinned program and in every row, IS THE sha256 OF THE DUMP (.gsa) THAT YtfjmcfcaphodgaaProg.lean LOADS. Nothing in Lean hashes anything: it is a label: what it is worth is what the hold of that sum in a sandbox is worth. -/
noncomputable def Try.pinned : Pinned := { name := "ytfjmcfcaphodgaa", sum := "c72e2b1b69a3bc6aa3e2817c06ea112a246cc90f21b7ce69f3beea8a0aea69d7", checked := Try.checked }
namespace Rows
def none {H : Type} : Left H := { results := [], args := [] }

/-- 'typecaselaw15.NeutralTells': WHATEVER THE INPUT: true; the input reads as it did. -/
def neutralTellsSpec : ChangeSpec := { name := "neutralTells", fn := fun _ => fun
  | [d1, d2, d3] => { results := [.lit (.bool true)], args := [d1, d2, d3] }
  | _ => none }
def neutralTellsRow : OpenClaim := { program := "ytfjmcfcaphodgaa", sum := "c72e2b1b69a3bc6aa3e2817c06ea112a246cc90f21b7ce69f3beea8a0aea69d7", func := "typecase/typecaselaw15.NeutralTells", spec := "neutralTells", apart := false }
def NeutralTellsSaid : Prop := neutralTellsRow.holds Try.pinned (OpenSpec.ofChange neutralTellsSpec)

/-- ITS FALSE NEIGHBOUR: 'it returns false'. Refute it at one input. -/
def neutralTellsWrong : ChangeSpec := { name := "neutralTells", fn := fun _ => fun
  | [d1, d2, d3] => { results := [.lit (.bool false)], args := [d1, d2, d3] }
  | _ => none }
def NeutralTellsWrongFalsely : Prop := neutralTellsRow.holds Try.pinned (OpenSpec.ofChange neutralTellsWrong)

/-- 'typecaselaw15.NeutralStays': WHATEVER THE INPUT: true; the input reads as it did. -/
def neutralStaysSpec : ChangeSpec := { name := "neutralStays", fn := fun _ => fun
  | [d1, d2, d3] => { results := [.lit (.bool true)], args := [d1, d2, d3] }
  | _ => none }
def neutralStaysRow : OpenClaim := { program := "ytfjmcfcaphodgaa", sum := "c72e2b1b69a3bc6aa3e2817c06ea112a246cc90f21b7ce69f3beea8a0aea69d7", func := "typecase/typecaselaw15.NeutralStays", spec := "neutralStays", apart := false }
def NeutralStaysSaid : Prop := neutralStaysRow.holds Try.pinned (OpenSpec.ofChange neutralStaysSpec)

/-- ITS FALSE NEIGHBOUR: 'it returns false'. Refute it at one input. -/
def neutralStaysWrong : ChangeSpec := { name := "neutralStays", fn := fun _ => fun
  | [d1, d2, d3] => { results := [.lit (.bool false)], args := [d1, d2, d3] }
  | _ => none }
def NeutralStaysWrongFalsely : Prop := neutralStaysRow.holds Try.pinned (OpenSpec.ofChange neutralStaysWrong)

/-- 'typecaselaw15.NeutralLevels': WHATEVER THE INPUT: true; the input reads as it did. -/
def neutralLevelsSpec : ChangeSpec := { name := "neutralLevels", fn := fun _ => fun
  | [d1, d2] => { results := [.lit (.bool true)], args := [d1, d2] }
  | _ => none }
def neutralLevelsRow : OpenClaim := { program := "ytfjmcfcaphodgaa", sum := "c72e2b1b69a3bc6aa3e2817c06ea112a246cc90f21b7ce69f3beea8a0aea69d7", func := "typecase/typecaselaw15.NeutralLevels", spec := "neutralLevels", apart := false }
def NeutralLevelsSaid : Prop := neutralLevelsRow.holds Try.pinned (OpenSpec.ofChange neutralLevelsSpec)

/-- ITS FALSE NEIGHBOUR: 'it returns false'. Refute it at one input. -/
def neutralLevelsWrong : ChangeSpec := { name := "neutralLevels", fn := fun _ => fun
  | [d1, d2] => { results := [.lit (.bool false)], args := [d1, d2] }
  | _ => none }
def NeutralLevelsWrongFalsely : Prop := neutralLevelsRow.holds Try.pinned (OpenSpec.ofChange neutralLevelsWrong)

/-- 'typecaselaw15.NeutralTurns': WHATEVER THE INPUT: true; the input reads as it did. -/
def neutralTurnsSpec : ChangeSpec := { name := "neutralTurns", fn := fun _ => fun
  | [d1, d2] => { results := [.lit (.bool true)], args := [d1, d2] }
  | _ => none }
def neutralTurnsRow : OpenClaim := { program := "ytfjmcfcaphodgaa", sum := "c72e2b1b69a3bc6aa3e2817c06ea112a246cc90f21b7ce69f3beea8a0aea69d7", func := "typecase/typecaselaw15.NeutralTurns", spec := "neutralTurns", apart := false }
def NeutralTurnsSaid : Prop := neutralTurnsRow.holds Try.pinned (OpenSpec.ofChange neutralTurnsSpec)

/-- ITS FALSE NEIGHBOUR: 'it returns false'. Refute it at one input. -/
def neutralTurnsWrong : ChangeSpec := { name := "neutralTurns", fn := fun _ => fun
  | [d1, d2] => { results := [.lit (.bool false)], args := [d1, d2] }
  | _ => none }
def NeutralTurnsWrongFalsely : Prop := neutralTurnsRow.holds Try.pinned (OpenSpec.ofChange neutralTurnsWrong)

/- THE SECOND FORM. 'bulk': how many values and letters a reading holds, each counted each time it is reached (what is shared counts as often as it is met; a slice's spare places count too). A statement '..UptoSaid' is the law's where the arguments, and the package variables that the reading takes, are together of bulk at most 1048576: NARROWER than '..Said'. Prove '..Said' where nothing that the law and all that it calls make is longer than what came in: it says more and counts as full. Else prove '..UptoSaid'. A law counts once. -/
mutual
def uptoBulk {H : Type} : DataW H → Nat
  | .lit (.string bytes) => bytes.length + 1
  | .lit _ => 1
  | .nil => 1
  | .ptr d => uptoBulk d + 1
  | .slice elems spare => uptoBulkAll elems + uptoBulkAll spare + 1
  | .agg parts => uptoBulkAll parts + 1
  | .iface _ d => uptoBulk d + 1
  | .map entries => uptoBulkEntries entries + 1
  | .held _ => 1
def uptoBulkAll {H : Type} : List (DataW H) → Nat
  | [] => 0
  | d :: r => uptoBulk d + uptoBulkAll r
def uptoBulkEntries {H : Type} : List (Lit × DataW H) → Nat
  | [] => 0
  | x :: r => uptoBulkEntry x + uptoBulkEntries r
def uptoBulkEntry {H : Type} : Lit × DataW H → Nat
  | (.string bytes, d) => bytes.length + uptoBulk d + 1
  | (_, d) => uptoBulk d + 1
 end
def uptoSmall : (H : Type) → List (DataW H) → Bool := fun _ ds => decide (uptoBulkAll ds ≤ 1048576)
def OpenSpec.upto (s : _root_.Go.ChangeSpec) : _root_.Go.OpenSpec := { _root_.Go.OpenSpec.ofChange s with cond := some uptoSmall }

/-- 'typecaselaw15.NeutralTells', WHERE WHAT IT READS IS OF BULK AT MOST 1048576: true; the input reads as it did. -/
def neutralTellsUptoRow : OpenClaim := { program := "ytfjmcfcaphodgaa", sum := "c72e2b1b69a3bc6aa3e2817c06ea112a246cc90f21b7ce69f3beea8a0aea69d7", func := "typecase/typecaselaw15.NeutralTells", spec := "neutralTells", apart := false, narrowed := true }
def NeutralTellsUptoSaid : Prop := neutralTellsUptoRow.holds Try.pinned (OpenSpec.upto neutralTellsSpec)

/-- 'typecaselaw15.NeutralStays', WHERE WHAT IT READS IS OF BULK AT MOST 1048576: true; the input reads as it did. -/
def neutralStaysUptoRow : OpenClaim := { program := "ytfjmcfcaphodgaa", sum := "c72e2b1b69a3bc6aa3e2817c06ea112a246cc90f21b7ce69f3beea8a0aea69d7", func := "typecase/typecaselaw15.NeutralStays", spec := "neutralStays", apart := false, narrowed := true }
def NeutralStaysUptoSaid : Prop := neutralStaysUptoRow.holds Try.pinned (OpenSpec.upto neutralStaysSpec)

/-- 'typecaselaw15.NeutralLevels', WHERE WHAT IT READS IS OF BULK AT MOST 1048576: true; the input reads as it did. -/
def neutralLevelsUptoRow : OpenClaim := { program := "ytfjmcfcaphodgaa", sum := "c72e2b1b69a3bc6aa3e2817c06ea112a246cc90f21b7ce69f3beea8a0aea69d7", func := "typecase/typecaselaw15.NeutralLevels", spec := "neutralLevels", apart := false, narrowed := true }
def NeutralLevelsUptoSaid : Prop := neutralLevelsUptoRow.holds Try.pinned (OpenSpec.upto neutralLevelsSpec)

/-- 'typecaselaw15.NeutralTurns', WHERE WHAT IT READS IS OF BULK AT MOST 1048576: true; the input reads as it did. -/
def neutralTurnsUptoRow : OpenClaim := { program := "ytfjmcfcaphodgaa", sum := "c72e2b1b69a3bc6aa3e2817c06ea112a246cc90f21b7ce69f3beea8a0aea69d7", func := "typecase/typecaselaw15.NeutralTurns", spec := "neutralTurns", apart := false, narrowed := true }
def NeutralTurnsUptoSaid : Prop := neutralTurnsUptoRow.holds Try.pinned (OpenSpec.upto neutralTurnsSpec)

end Rows
end Go.Proofs.Ytfjmcfcaphodgaa
