/-
  No cell of these rows narrows 'for every input' (looked for: loops, veiled, ifaces, maps, wideKeys, modest, calm, conditions, laid).
  DERIVED. THE GIVEN ROWS OF THIS SEAT. 3 by the template 'for every input the law returns true; each argument reads behind the call as it read before'; 0 by the template 'total and deterministic' (their statements: YtnpcakeagpbgiaaGreatTotals.lean).
  GIVEN WITH THE SEED: the statements are not yours to turn. If you find one false, say at which input.
  Laid BY PROGRAM, IN A SANDBOX (cutbox-rows.mjs): the forced cells as the released guide's own fill.sh prints them over the translation 13b7e0f0dcfd259b… (all of the seat's roots in one cut). By AI agents, Wed Nov 11 2026. No macro, syntax, notation, axiom, sorry.
-/
import Derived.Test.YtnpcakeagpbgiaaGreatChecked
import GoSem.Claim
import GoSem.ClaimJoined
import GoSem.ClaimMapViews
import Derived.JoinedTies
import Derived.KernelRfl
namespace Go.Proofs.YtnpcakeagpbgiaaGreat
/- THE CELL 'sum', in the pinned program and in every row, IS THE sha256 OF THE DUMP (.gsa) THAT YtnpcakeagpbgiaaGreatProg.lean LOADS. Nothing in Lean hashes anything: it is a label: what it is worth is what the hold of that sum in a sandbox is worth. -/
noncomputable def Tryz.pinned : Pinned := { name := "ytnpcakeagpbgiaagreat", sum := "13b7e0f0dcfd259b32e7e3ead4666b0d0b238f3bd409427cdec361f62ba2d5ed", checked := Tryz.checked }
namespace Rows
def none {H : Type} : Left H := { results := [], args := [] }

/-- 'typecaselaw23.FallbackOf': WHATEVER THE INPUT: true; the input reads as it did. -/
def fallbackOfSpec : ChangeSpec := { name := "fallbackOf", fn := fun _ => fun
  | [d1, d2, d3] => { results := [.lit (.bool true)], args := [d1, d2, d3] }
  | _ => none }
def fallbackOfRow : OpenClaim := { program := "ytnpcakeagpbgiaagreat", sum := "13b7e0f0dcfd259b32e7e3ead4666b0d0b238f3bd409427cdec361f62ba2d5ed", func := "typecase/typecaselaw23.FallbackOf", spec := "fallbackOf", unfollowed := true, recurses := true, apart := false }
def FallbackOfSaid : Prop := fallbackOfRow.holds Tryz.pinned (OpenSpec.ofChange fallbackOfSpec)

/-- ITS FALSE NEIGHBOUR: 'it returns false'. Refute it at one input. -/
def fallbackOfWrong : ChangeSpec := { name := "fallbackOf", fn := fun _ => fun
  | [d1, d2, d3] => { results := [.lit (.bool false)], args := [d1, d2, d3] }
  | _ => none }
def FallbackOfWrongFalsely : Prop := fallbackOfRow.holds Tryz.pinned (OpenSpec.ofChange fallbackOfWrong)

/-- 'typecaselaw23.FallbackParts': WHATEVER THE INPUT: true; the input reads as it did. -/
def fallbackPartsSpec : ChangeSpec := { name := "fallbackParts", fn := fun _ => fun
  | [d1, d2, d3] => { results := [.lit (.bool true)], args := [d1, d2, d3] }
  | _ => none }
def fallbackPartsRow : OpenClaim := { program := "ytnpcakeagpbgiaagreat", sum := "13b7e0f0dcfd259b32e7e3ead4666b0d0b238f3bd409427cdec361f62ba2d5ed", func := "typecase/typecaselaw23.FallbackParts", spec := "fallbackParts", unfollowed := true, recurses := true, apart := false }
def FallbackPartsSaid : Prop := fallbackPartsRow.holds Tryz.pinned (OpenSpec.ofChange fallbackPartsSpec)

/-- ITS FALSE NEIGHBOUR: 'it returns false'. Refute it at one input. -/
def fallbackPartsWrong : ChangeSpec := { name := "fallbackParts", fn := fun _ => fun
  | [d1, d2, d3] => { results := [.lit (.bool false)], args := [d1, d2, d3] }
  | _ => none }
def FallbackPartsWrongFalsely : Prop := fallbackPartsRow.holds Tryz.pinned (OpenSpec.ofChange fallbackPartsWrong)

/-- 'typecaselaw23.FallbackOne': WHATEVER THE INPUT: true; the input reads as it did. -/
def fallbackOneSpec : ChangeSpec := { name := "fallbackOne", fn := fun _ => fun
  | [d1, d2, d3] => { results := [.lit (.bool true)], args := [d1, d2, d3] }
  | _ => none }
def fallbackOneRow : OpenClaim := { program := "ytnpcakeagpbgiaagreat", sum := "13b7e0f0dcfd259b32e7e3ead4666b0d0b238f3bd409427cdec361f62ba2d5ed", func := "typecase/typecaselaw23.FallbackOne", spec := "fallbackOne", unfollowed := true, recurses := true, apart := false }
def FallbackOneSaid : Prop := fallbackOneRow.holds Tryz.pinned (OpenSpec.ofChange fallbackOneSpec)

/-- ITS FALSE NEIGHBOUR: 'it returns false'. Refute it at one input. -/
def fallbackOneWrong : ChangeSpec := { name := "fallbackOne", fn := fun _ => fun
  | [d1, d2, d3] => { results := [.lit (.bool false)], args := [d1, d2, d3] }
  | _ => none }
def FallbackOneWrongFalsely : Prop := fallbackOneRow.holds Tryz.pinned (OpenSpec.ofChange fallbackOneWrong)

/- THE SECOND FORM. 'bulk': how many values and letters a reading holds, each counted each time it is reached (what is shared counts as often as it is met; a slice's spare places count too). A statement '..UptoSaid' is the law's where the arguments, and the package variables that the reading takes, are together of bulk at most 1048576: NARROWER than '..Said'. Prove '..Said' where nothing that the law and all that it calls make is longer than what came in: it says more and counts as full. Else prove '..UptoSaid'. A law counts once. -/
mutual
def uptoBulk {H : Type} : DataW H → Nat
  | .lit (.string bytes) => bytes.length + 1
  | .lit _ => 1
  | .nil => 1
  | .ptr d => uptoBulk d + 1
  | .slice elems spare => uptoBulkAll elems + uptoBulkAll spare + 1
  | .agg parts => uptoBulkAll parts + 1
  | .iface _ d => uptoBulk d + 1
  | .map entries => uptoBulkEntries entries + 1
  | .held _ => 1
def uptoBulkAll {H : Type} : List (DataW H) → Nat
  | [] => 0
  | d :: r => uptoBulk d + uptoBulkAll r
def uptoBulkEntries {H : Type} : List (Lit × DataW H) → Nat
  | [] => 0
  | x :: r => uptoBulkEntry x + uptoBulkEntries r
def uptoBulkEntry {H : Type} : Lit × DataW H → Nat
  | (.string bytes, d) => bytes.length + uptoBulk d + 1
  | (_, d) => uptoBulk d + 1
 end
def uptoSmall : (H : Type) → List (DataW H) → Bool := fun _ ds => decide (uptoBulkAll ds ≤ 1048576)
def OpenSpec.upto (s : _root_.Go.ChangeSpec) : _root_.Go.OpenSpec := { _root_.Go.OpenSpec.ofChange s with cond := some uptoSmall }

/-- 'typecaselaw23.FallbackOf', WHERE WHAT IT READS IS OF BULK AT MOST 1048576: true; the input reads as it did. -/
def fallbackOfUptoRow : OpenClaim := { program := "ytnpcakeagpbgiaagreat", sum := "13b7e0f0dcfd259b32e7e3ead4666b0d0b238f3bd409427cdec361f62ba2d5ed", func := "typecase/typecaselaw23.FallbackOf", spec := "fallbackOf", unfollowed := true, recurses := true, apart := false, narrowed := true }
def FallbackOfUptoSaid : Prop := fallbackOfUptoRow.holds Tryz.pinned (OpenSpec.upto fallbackOfSpec)

/-- 'typecaselaw23.FallbackParts', WHERE WHAT IT READS IS OF BULK AT MOST 1048576: true; the input reads as it did. -/
def fallbackPartsUptoRow : OpenClaim := { program := "ytnpcakeagpbgiaagreat", sum := "13b7e0f0dcfd259b32e7e3ead4666b0d0b238f3bd409427cdec361f62ba2d5ed", func := "typecase/typecaselaw23.FallbackParts", spec := "fallbackParts", unfollowed := true, recurses := true, apart := false, narrowed := true }
def FallbackPartsUptoSaid : Prop := fallbackPartsUptoRow.holds Tryz.pinned (OpenSpec.upto fallbackPartsSpec)

/-- 'typecaselaw23.FallbackOne', WHERE WHAT IT READS IS OF BULK AT MOST 1048576: true; the input reads as it did. -/
def fallbackOneUptoRow : OpenClaim := { program := "ytnpcakeagpbgiaagreat", sum := "13b7e0f0dcfd259b32e7e3ead4666b0d0b238f3bd409427cdec361f62ba2d5ed", func := "typecase/typecaselaw23.FallbackOne", spec := "fallbackOne", unfollowed := true, recurses := true, apart := false, narrowed := true }
def FallbackOneUptoSaid : Prop := fallbackOneUptoRow.holds Tryz.pinned (OpenSpec.upto fallbackOneSpec)

end Rows
end Go.Proofs.YtnpcakeagpbgiaaGreat
