/-
  No cell of these rows narrows 'for every input' (looked for: loops, veiled, ifaces, maps, wideKeys, modest, calm, conditions, laid).
  DERIVED. THE GIVEN ROWS OF THIS SEAT. 6 by the template 'for every input the law returns true; each argument reads behind the call as it read before'; 0 by the template 'total and deterministic' (their statements: YtneiifjihgbacaaTotals.lean).
  GIVEN WITH THE SEED: the statements are not yours to turn. If you find one false, say at which input.
  Laid BY PROGRAM, IN A SANDBOX (cutbox-rows.mjs): the forced cells as the released guide's own fill.sh prints them over the translation 0ceccb578408f621… (all of the seat's roots in one cut). By AI agents, Wed Nov 11 2026. No macro, syntax, notation, axiom, sorry.
-/
import Derived.Test.YtneiifjihgbacaaChecked
import GoSem.Claim
import GoSem.ClaimJoined
import GoSem.ClaimMapViews
import Derived.JoinedTies
import Derived.KernelRfl
namespace Go.Proofs.Ytneiifjihgbacaa
/- THE CELL 'sum', in the pinned program and in every row, IS THE sha256 OF THE DUMP (.gsa) THAT YtneiifjihgbacaaProg.lean LOADS. Nothing in Lean hashes anything: it is a label: what it is worth is what the hold of that sum in a sandbox is worth. -/
noncomputable def Try.pinned : Pinned := { name := "ytneiifjihgbacaa", sum := "0ceccb578408f621abf2ff0345da8fec23cddb5fabfc4323c90d805f1ca4104c", checked := Try.checked }
namespace Rows
def none {H : Type} : Left H := { results := [], args := [] }

/-- 'typecaselaw10.BaseParas': WHATEVER THE INPUT: true; the input reads as it did. -/
def baseParasSpec : ChangeSpec := { name := "baseParas", fn := fun _ => fun
  | [d] => { results := [.lit (.bool true)], args := [d] }
  | _ => none }
def baseParasRow : OpenClaim := { program := "ytneiifjihgbacaa", sum := "0ceccb578408f621abf2ff0345da8fec23cddb5fabfc4323c90d805f1ca4104c", func := "typecase/typecaselaw10.BaseParas", spec := "baseParas", unfollowed := true, recurses := true, apart := false }
def BaseParasSaid : Prop := baseParasRow.holds Try.pinned (OpenSpec.ofChange baseParasSpec)

/-- ITS FALSE NEIGHBOUR: 'it returns false'. Refute it at one input. -/
def baseParasWrong : ChangeSpec := { name := "baseParas", fn := fun _ => fun
  | [d] => { results := [.lit (.bool false)], args := [d] }
  | _ => none }
def BaseParasWrongFalsely : Prop := baseParasRow.holds Try.pinned (OpenSpec.ofChange baseParasWrong)

/-- 'typecaselaw10.BaseMatches': WHATEVER THE INPUT: true; the input reads as it did. -/
def baseMatchesSpec : ChangeSpec := { name := "baseMatches", fn := fun _ => fun
  | [d] => { results := [.lit (.bool true)], args := [d] }
  | _ => none }
def baseMatchesRow : OpenClaim := { program := "ytneiifjihgbacaa", sum := "0ceccb578408f621abf2ff0345da8fec23cddb5fabfc4323c90d805f1ca4104c", func := "typecase/typecaselaw10.BaseMatches", spec := "baseMatches", unfollowed := true, recurses := true, apart := false }
def BaseMatchesSaid : Prop := baseMatchesRow.holds Try.pinned (OpenSpec.ofChange baseMatchesSpec)

/-- ITS FALSE NEIGHBOUR: 'it returns false'. Refute it at one input. -/
def baseMatchesWrong : ChangeSpec := { name := "baseMatches", fn := fun _ => fun
  | [d] => { results := [.lit (.bool false)], args := [d] }
  | _ => none }
def BaseMatchesWrongFalsely : Prop := baseMatchesRow.holds Try.pinned (OpenSpec.ofChange baseMatchesWrong)

/-- 'typecaselaw10.BaseLevels': WHATEVER THE INPUT: true; the input reads as it did. -/
def baseLevelsSpec : ChangeSpec := { name := "baseLevels", fn := fun _ => fun
  | [d1, d2, d3] => { results := [.lit (.bool true)], args := [d1, d2, d3] }
  | _ => none }
def baseLevelsRow : OpenClaim := { program := "ytneiifjihgbacaa", sum := "0ceccb578408f621abf2ff0345da8fec23cddb5fabfc4323c90d805f1ca4104c", func := "typecase/typecaselaw10.BaseLevels", spec := "baseLevels", unfollowed := true, recurses := true, apart := false }
def BaseLevelsSaid : Prop := baseLevelsRow.holds Try.pinned (OpenSpec.ofChange baseLevelsSpec)

/-- ITS FALSE NEIGHBOUR: 'it returns false'. Refute it at one input. -/
def baseLevelsWrong : ChangeSpec := { name := "baseLevels", fn := fun _ => fun
  | [d1, d2, d3] => { results := [.lit (.bool false)], args := [d1, d2, d3] }
  | _ => none }
def BaseLevelsWrongFalsely : Prop := baseLevelsRow.holds Try.pinned (OpenSpec.ofChange baseLevelsWrong)

/-- 'typecaselaw10.BaseCovers': WHATEVER THE INPUT: true; the input reads as it did. -/
def baseCoversSpec : ChangeSpec := { name := "baseCovers", fn := fun _ => fun
  | [d] => { results := [.lit (.bool true)], args := [d] }
  | _ => none }
def baseCoversRow : OpenClaim := { program := "ytneiifjihgbacaa", sum := "0ceccb578408f621abf2ff0345da8fec23cddb5fabfc4323c90d805f1ca4104c", func := "typecase/typecaselaw10.BaseCovers", spec := "baseCovers", unfollowed := true, recurses := true, apart := false }
def BaseCoversSaid : Prop := baseCoversRow.holds Try.pinned (OpenSpec.ofChange baseCoversSpec)

/-- ITS FALSE NEIGHBOUR: 'it returns false'. Refute it at one input. -/
def baseCoversWrong : ChangeSpec := { name := "baseCovers", fn := fun _ => fun
  | [d] => { results := [.lit (.bool false)], args := [d] }
  | _ => none }
def BaseCoversWrongFalsely : Prop := baseCoversRow.holds Try.pinned (OpenSpec.ofChange baseCoversWrong)

/-- 'typecaselaw10.BaseNests': WHATEVER THE INPUT: true; the input reads as it did. -/
def baseNestsSpec : ChangeSpec := { name := "baseNests", fn := fun _ => fun
  | [d] => { results := [.lit (.bool true)], args := [d] }
  | _ => none }
def baseNestsRow : OpenClaim := { program := "ytneiifjihgbacaa", sum := "0ceccb578408f621abf2ff0345da8fec23cddb5fabfc4323c90d805f1ca4104c", func := "typecase/typecaselaw10.BaseNests", spec := "baseNests", unfollowed := true, recurses := true, apart := false }
def BaseNestsSaid : Prop := baseNestsRow.holds Try.pinned (OpenSpec.ofChange baseNestsSpec)

/-- ITS FALSE NEIGHBOUR: 'it returns false'. Refute it at one input. -/
def baseNestsWrong : ChangeSpec := { name := "baseNests", fn := fun _ => fun
  | [d] => { results := [.lit (.bool false)], args := [d] }
  | _ => none }
def BaseNestsWrongFalsely : Prop := baseNestsRow.holds Try.pinned (OpenSpec.ofChange baseNestsWrong)

/-- 'typecaselaw10.BaseHides': WHATEVER THE INPUT: true; the input reads as it did. -/
def baseHidesSpec : ChangeSpec := { name := "baseHides", fn := fun _ => fun
  | [d1, d2, d3] => { results := [.lit (.bool true)], args := [d1, d2, d3] }
  | _ => none }
def baseHidesRow : OpenClaim := { program := "ytneiifjihgbacaa", sum := "0ceccb578408f621abf2ff0345da8fec23cddb5fabfc4323c90d805f1ca4104c", func := "typecase/typecaselaw10.BaseHides", spec := "baseHides", unfollowed := true, recurses := true, apart := false }
def BaseHidesSaid : Prop := baseHidesRow.holds Try.pinned (OpenSpec.ofChange baseHidesSpec)

/-- ITS FALSE NEIGHBOUR: 'it returns false'. Refute it at one input. -/
def baseHidesWrong : ChangeSpec := { name := "baseHides", fn := fun _ => fun
  | [d1, d2, d3] => { results := [.lit (.bool false)], args := [d1, d2, d3] }
  | _ => none }
def BaseHidesWrongFalsely : Prop := baseHidesRow.holds Try.pinned (OpenSpec.ofChange baseHidesWrong)

/- THE SECOND FORM. 'bulk': how many values and letters a reading holds, each counted each time it is reached (what is shared counts as often as it is met; a slice's spare places count too). A statement '..UptoSaid' is the law's where the arguments, and the package variables that the reading takes, are together of bulk at most 1048576: NARROWER than '..Said'. Prove '..Said' where nothing that the law and all that it calls make is longer than what came in: it says more and counts as full. Else prove '..UptoSaid'. A law counts once. -/
mutual
def uptoBulk {H : Type} : DataW H → Nat
  | .lit (.string bytes) => bytes.length + 1
  | .lit _ => 1
  | .nil => 1
  | .ptr d => uptoBulk d + 1
  | .slice elems spare => uptoBulkAll elems + uptoBulkAll spare + 1
  | .agg parts => uptoBulkAll parts + 1
  | .iface _ d => uptoBulk d + 1
  | .map entries => uptoBulkEntries entries + 1
  | .held _ => 1
def uptoBulkAll {H : Type} : List (DataW H) → Nat
  | [] => 0
  | d :: r => uptoBulk d + uptoBulkAll r
def uptoBulkEntries {H : Type} : List (Lit × DataW H) → Nat
  | [] => 0
  | x :: r => uptoBulkEntry x + uptoBulkEntries r
def uptoBulkEntry {H : Type} : Lit × DataW H → Nat
  | (.string bytes, d) => bytes.length + uptoBulk d + 1
  | (_, d) => uptoBulk d + 1
 end
def uptoSmall : (H : Type) → List (DataW H) → Bool := fun _ ds => decide (uptoBulkAll ds ≤ 1048576)
def OpenSpec.upto (s : _root_.Go.ChangeSpec) : _root_.Go.OpenSpec := { _root_.Go.OpenSpec.ofChange s with cond := some uptoSmall }

/-- 'typecaselaw10.BaseParas', WHERE WHAT IT READS IS OF BULK AT MOST 1048576: true; the input reads as it did. -/
def baseParasUptoRow : OpenClaim := { program := "ytneiifjihgbacaa", sum := "0ceccb578408f621abf2ff0345da8fec23cddb5fabfc4323c90d805f1ca4104c", func := "typecase/typecaselaw10.BaseParas", spec := "baseParas", unfollowed := true, recurses := true, apart := false, narrowed := true }
def BaseParasUptoSaid : Prop := baseParasUptoRow.holds Try.pinned (OpenSpec.upto baseParasSpec)

/-- 'typecaselaw10.BaseMatches', WHERE WHAT IT READS IS OF BULK AT MOST 1048576: true; the input reads as it did. -/
def baseMatchesUptoRow : OpenClaim := { program := "ytneiifjihgbacaa", sum := "0ceccb578408f621abf2ff0345da8fec23cddb5fabfc4323c90d805f1ca4104c", func := "typecase/typecaselaw10.BaseMatches", spec := "baseMatches", unfollowed := true, recurses := true, apart := false, narrowed := true }
def BaseMatchesUptoSaid : Prop := baseMatchesUptoRow.holds Try.pinned (OpenSpec.upto baseMatchesSpec)

/-- 'typecaselaw10.BaseLevels', WHERE WHAT IT READS IS OF BULK AT MOST 1048576: true; the input reads as it did. -/
def baseLevelsUptoRow : OpenClaim := { program := "ytneiifjihgbacaa", sum := "0ceccb578408f621abf2ff0345da8fec23cddb5fabfc4323c90d805f1ca4104c", func := "typecase/typecaselaw10.BaseLevels", spec := "baseLevels", unfollowed := true, recurses := true, apart := false, narrowed := true }
def BaseLevelsUptoSaid : Prop := baseLevelsUptoRow.holds Try.pinned (OpenSpec.upto baseLevelsSpec)

/-- 'typecaselaw10.BaseCovers', WHERE WHAT IT READS IS OF BULK AT MOST 1048576: true; the input reads as it did. -/
def baseCoversUptoRow : OpenClaim := { program := "ytneiifjihgbacaa", sum := "0ceccb578408f621abf2ff0345da8fec23cddb5fabfc4323c90d805f1ca4104c", func := "typecase/typecaselaw10.BaseCovers", spec := "baseCovers", unfollowed := true, recurses := true, apart := false, narrowed := true }
def BaseCoversUptoSaid : Prop := baseCoversUptoRow.holds Try.pinned (OpenSpec.upto baseCoversSpec)

/-- 'typecaselaw10.BaseNests', WHERE WHAT IT READS IS OF BULK AT MOST 1048576: true; the input reads as it did. -/
def baseNestsUptoRow : OpenClaim := { program := "ytneiifjihgbacaa", sum := "0ceccb578408f621abf2ff0345da8fec23cddb5fabfc4323c90d805f1ca4104c", func := "typecase/typecaselaw10.BaseNests", spec := "baseNests", unfollowed := true, recurses := true, apart := false, narrowed := true }
def BaseNestsUptoSaid : Prop := baseNestsUptoRow.holds Try.pinned (OpenSpec.upto baseNestsSpec)

/-- 'typecaselaw10.BaseHides', WHERE WHAT IT READS IS OF BULK AT MOST 1048576: true; the input reads as it did. -/
def baseHidesUptoRow : OpenClaim := { program := "ytneiifjihgbacaa", sum := "0ceccb578408f621abf2ff0345da8fec23cddb5fabfc4323c90d805f1ca4104c", func := "typecase/typecaselaw10.BaseHides", spec := "baseHides", unfollowed := true, recurses := true, apart := false, narrowed := true }
def BaseHidesUptoSaid : Prop := baseHidesUptoRow.holds Try.pinned (OpenSpec.upto baseHidesSpec)

end Rows
end Go.Proofs.Ytneiifjihgbacaa
