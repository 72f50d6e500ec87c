/-
  No cell of these rows narrows 'for every input' (looked for: loops, veiled, ifaces, maps, wideKeys, modest, calm, conditions, laid).
  DERIVED. THE GIVEN ROWS OF THIS SEAT. 5 by the template 'for every input the law returns true; each argument reads behind the call as it read before'; 0 by the template 'total and deterministic' (their statements: YtnpdampaimllpaaTotals.lean).
  GIVEN WITH THE SEED: the statements are not yours to turn. If you find one false, say at which input.
  Laid BY PROGRAM, IN A SANDBOX (cutbox-rows.mjs): the forced cells as the released guide's own fill.sh prints them over the translation 684703ad6195de87… (all of the seat's roots in one cut). By AI agents, Wed Nov 11 2026. No macro, syntax, notation, axiom, sorry.
-/
import Derived.Test.YtnpdampaimllpaaChecked
import GoSem.Claim
import GoSem.ClaimJoined
import GoSem.ClaimMapViews
import Derived.JoinedTies
import Derived.KernelRfl
namespace Go.Proofs.Ytnpdampaimllpaa
/- THE CELL 'sum', in the pinned program and in every row, IS THE sha256 OF THE DUMP (.gsa) THAT YtnpdampaimllpaaProg.lean LOADS. Nothing in Lean hashes anything: it is a label: what it is worth is what the hold of that sum in a sandbox is worth. -/
noncomputable def Try.pinned : Pinned := { name := "ytnpdampaimllpaa", sum := "684703ad6195de876b7af688fee05d7063c6ad91369a647ebc42629791d1407f", checked := Try.checked }
namespace Rows
def none {H : Type} : Left H := { results := [], args := [] }

/-- 'typecaselaw07.GraphemeCuts': WHATEVER THE INPUT: true; the input reads as it did. -/
def graphemeCutsSpec : ChangeSpec := { name := "graphemeCuts", fn := fun _ => fun
  | [d] => { results := [.lit (.bool true)], args := [d] }
  | _ => none }
def graphemeCutsRow : OpenClaim := { program := "ytnpdampaimllpaa", sum := "684703ad6195de876b7af688fee05d7063c6ad91369a647ebc42629791d1407f", func := "typecase/typecaselaw07.GraphemeCuts", spec := "graphemeCuts", unfollowed := true, recurses := true, apart := false }
def GraphemeCutsSaid : Prop := graphemeCutsRow.holds Try.pinned (OpenSpec.ofChange graphemeCutsSpec)

/-- ITS FALSE NEIGHBOUR: 'it returns false'. Refute it at one input. -/
def graphemeCutsWrong : ChangeSpec := { name := "graphemeCuts", fn := fun _ => fun
  | [d] => { results := [.lit (.bool false)], args := [d] }
  | _ => none }
def GraphemeCutsWrongFalsely : Prop := graphemeCutsRow.holds Try.pinned (OpenSpec.ofChange graphemeCutsWrong)

/-- 'typecaselaw07.GraphemeSteps': WHATEVER THE INPUT: true; the input reads as it did. -/
def graphemeStepsSpec : ChangeSpec := { name := "graphemeSteps", fn := fun _ => fun
  | [d1, d2] => { results := [.lit (.bool true)], args := [d1, d2] }
  | _ => none }
def graphemeStepsRow : OpenClaim := { program := "ytnpdampaimllpaa", sum := "684703ad6195de876b7af688fee05d7063c6ad91369a647ebc42629791d1407f", func := "typecase/typecaselaw07.GraphemeSteps", spec := "graphemeSteps", unfollowed := true, recurses := true, apart := false }
def GraphemeStepsSaid : Prop := graphemeStepsRow.holds Try.pinned (OpenSpec.ofChange graphemeStepsSpec)

/-- ITS FALSE NEIGHBOUR: 'it returns false'. Refute it at one input. -/
def graphemeStepsWrong : ChangeSpec := { name := "graphemeSteps", fn := fun _ => fun
  | [d1, d2] => { results := [.lit (.bool false)], args := [d1, d2] }
  | _ => none }
def GraphemeStepsWrongFalsely : Prop := graphemeStepsRow.holds Try.pinned (OpenSpec.ofChange graphemeStepsWrong)

/-- 'typecaselaw07.GraphemeCovers': WHATEVER THE INPUT: true; the input reads as it did. -/
def graphemeCoversSpec : ChangeSpec := { name := "graphemeCovers", fn := fun _ => fun
  | [d] => { results := [.lit (.bool true)], args := [d] }
  | _ => none }
def graphemeCoversRow : OpenClaim := { program := "ytnpdampaimllpaa", sum := "684703ad6195de876b7af688fee05d7063c6ad91369a647ebc42629791d1407f", func := "typecase/typecaselaw07.GraphemeCovers", spec := "graphemeCovers", unfollowed := true, recurses := true, apart := false }
def GraphemeCoversSaid : Prop := graphemeCoversRow.holds Try.pinned (OpenSpec.ofChange graphemeCoversSpec)

/-- ITS FALSE NEIGHBOUR: 'it returns false'. Refute it at one input. -/
def graphemeCoversWrong : ChangeSpec := { name := "graphemeCovers", fn := fun _ => fun
  | [d] => { results := [.lit (.bool false)], args := [d] }
  | _ => none }
def GraphemeCoversWrongFalsely : Prop := graphemeCoversRow.holds Try.pinned (OpenSpec.ofChange graphemeCoversWrong)

/-- 'typecaselaw07.GraphemeWindow': WHATEVER THE INPUT: true; the input reads as it did. -/
def graphemeWindowSpec : ChangeSpec := { name := "graphemeWindow", fn := fun _ => fun
  | [d1, d2, d3, d4] => { results := [.lit (.bool true)], args := [d1, d2, d3, d4] }
  | _ => none }
def graphemeWindowRow : OpenClaim := { program := "ytnpdampaimllpaa", sum := "684703ad6195de876b7af688fee05d7063c6ad91369a647ebc42629791d1407f", func := "typecase/typecaselaw07.GraphemeWindow", spec := "graphemeWindow", unfollowed := true, recurses := true, apart := false }
def GraphemeWindowSaid : Prop := graphemeWindowRow.holds Try.pinned (OpenSpec.ofChange graphemeWindowSpec)

/-- ITS FALSE NEIGHBOUR: 'it returns false'. Refute it at one input. -/
def graphemeWindowWrong : ChangeSpec := { name := "graphemeWindow", fn := fun _ => fun
  | [d1, d2, d3, d4] => { results := [.lit (.bool false)], args := [d1, d2, d3, d4] }
  | _ => none }
def GraphemeWindowWrongFalsely : Prop := graphemeWindowRow.holds Try.pinned (OpenSpec.ofChange graphemeWindowWrong)

/-- 'typecaselaw07.GraphemeAlone': WHATEVER THE INPUT: true; the input reads as it did. -/
def graphemeAloneSpec : ChangeSpec := { name := "graphemeAlone", fn := fun _ => fun
  | [d] => { results := [.lit (.bool true)], args := [d] }
  | _ => none }
def graphemeAloneRow : OpenClaim := { program := "ytnpdampaimllpaa", sum := "684703ad6195de876b7af688fee05d7063c6ad91369a647ebc42629791d1407f", func := "typecase/typecaselaw07.GraphemeAlone", spec := "graphemeAlone", unfollowed := true, recurses := true, apart := false }
def GraphemeAloneSaid : Prop := graphemeAloneRow.holds Try.pinned (OpenSpec.ofChange graphemeAloneSpec)

/-- ITS FALSE NEIGHBOUR: 'it returns false'. Refute it at one input. -/
def graphemeAloneWrong : ChangeSpec := { name := "graphemeAlone", fn := fun _ => fun
  | [d] => { results := [.lit (.bool false)], args := [d] }
  | _ => none }
def GraphemeAloneWrongFalsely : Prop := graphemeAloneRow.holds Try.pinned (OpenSpec.ofChange graphemeAloneWrong)

/- THE SECOND FORM. 'bulk': how many values and letters a reading holds, each counted each time it is reached (what is shared counts as often as it is met; a slice's spare places count too). A statement '..UptoSaid' is the law's where the arguments, and the package variables that the reading takes, are together of bulk at most 1048576: NARROWER than '..Said'. Prove '..Said' where nothing that the law and all that it calls make is longer than what came in: it says more and counts as full. Else prove '..UptoSaid'. A law counts once. -/
mutual
def uptoBulk {H : Type} : DataW H → Nat
  | .lit (.string bytes) => bytes.length + 1
  | .lit _ => 1
  | .nil => 1
  | .ptr d => uptoBulk d + 1
  | .slice elems spare => uptoBulkAll elems + uptoBulkAll spare + 1
  | .agg parts => uptoBulkAll parts + 1
  | .iface _ d => uptoBulk d + 1
  | .map entries => uptoBulkEntries entries + 1
  | .held _ => 1
def uptoBulkAll {H : Type} : List (DataW H) → Nat
  | [] => 0
  | d :: r => uptoBulk d + uptoBulkAll r
def uptoBulkEntries {H : Type} : List (Lit × DataW H) → Nat
  | [] => 0
  | x :: r => uptoBulkEntry x + uptoBulkEntries r
def uptoBulkEntry {H : Type} : Lit × DataW H → Nat
  | (.string bytes, d) => bytes.length + uptoBulk d + 1
  | (_, d) => uptoBulk d + 1
 end
def uptoSmall : (H : Type) → List (DataW H) → Bool := fun _ ds => decide (uptoBulkAll ds ≤ 1048576)
def OpenSpec.upto (s : _root_.Go.ChangeSpec) : _root_.Go.OpenSpec := { _root_.Go.OpenSpec.ofChange s with cond := some uptoSmall }

/-- 'typecaselaw07.GraphemeCuts', WHERE WHAT IT READS IS OF BULK AT MOST 1048576: true; the input reads as it did. -/
def graphemeCutsUptoRow : OpenClaim := { program := "ytnpdampaimllpaa", sum := "684703ad6195de876b7af688fee05d7063c6ad91369a647ebc42629791d1407f", func := "typecase/typecaselaw07.GraphemeCuts", spec := "graphemeCuts", unfollowed := true, recurses := true, apart := false, narrowed := true }
def GraphemeCutsUptoSaid : Prop := graphemeCutsUptoRow.holds Try.pinned (OpenSpec.upto graphemeCutsSpec)

/-- 'typecaselaw07.GraphemeSteps', WHERE WHAT IT READS IS OF BULK AT MOST 1048576: true; the input reads as it did. -/
def graphemeStepsUptoRow : OpenClaim := { program := "ytnpdampaimllpaa", sum := "684703ad6195de876b7af688fee05d7063c6ad91369a647ebc42629791d1407f", func := "typecase/typecaselaw07.GraphemeSteps", spec := "graphemeSteps", unfollowed := true, recurses := true, apart := false, narrowed := true }
def GraphemeStepsUptoSaid : Prop := graphemeStepsUptoRow.holds Try.pinned (OpenSpec.upto graphemeStepsSpec)

/-- 'typecaselaw07.GraphemeCovers', WHERE WHAT IT READS IS OF BULK AT MOST 1048576: true; the input reads as it did. -/
def graphemeCoversUptoRow : OpenClaim := { program := "ytnpdampaimllpaa", sum := "684703ad6195de876b7af688fee05d7063c6ad91369a647ebc42629791d1407f", func := "typecase/typecaselaw07.GraphemeCovers", spec := "graphemeCovers", unfollowed := true, recurses := true, apart := false, narrowed := true }
def GraphemeCoversUptoSaid : Prop := graphemeCoversUptoRow.holds Try.pinned (OpenSpec.upto graphemeCoversSpec)

/-- 'typecaselaw07.GraphemeWindow', WHERE WHAT IT READS IS OF BULK AT MOST 1048576: true; the input reads as it did. -/
def graphemeWindowUptoRow : OpenClaim := { program := "ytnpdampaimllpaa", sum := "684703ad6195de876b7af688fee05d7063c6ad91369a647ebc42629791d1407f", func := "typecase/typecaselaw07.GraphemeWindow", spec := "graphemeWindow", unfollowed := true, recurses := true, apart := false, narrowed := true }
def GraphemeWindowUptoSaid : Prop := graphemeWindowUptoRow.holds Try.pinned (OpenSpec.upto graphemeWindowSpec)

/-- 'typecaselaw07.GraphemeAlone', WHERE WHAT IT READS IS OF BULK AT MOST 1048576: true; the input reads as it did. -/
def graphemeAloneUptoRow : OpenClaim := { program := "ytnpdampaimllpaa", sum := "684703ad6195de876b7af688fee05d7063c6ad91369a647ebc42629791d1407f", func := "typecase/typecaselaw07.GraphemeAlone", spec := "graphemeAlone", unfollowed := true, recurses := true, apart := false, narrowed := true }
def GraphemeAloneUptoSaid : Prop := graphemeAloneUptoRow.holds Try.pinned (OpenSpec.upto graphemeAloneSpec)

end Rows
end Go.Proofs.Ytnpdampaimllpaa
