/-
  No cell of these rows narrows 'for every input' (looked for: loops, veiled, ifaces, maps, wideKeys, modest, calm, conditions, laid).
  DERIVED. THE GIVEN ROWS OF THIS SEAT. 5 by the template 'for every input the law returns true; each argument reads behind the call as it read before'; 0 by the template 'total and deterministic' (their statements: YtlopddiplmjpfaaTotals.lean).
  GIVEN WITH THE SEED: the statements are not yours to turn. If you find one false, say at which input.
  Laid BY PROGRAM, IN A SANDBOX (cutbox-rows.mjs): the forced cells as the released guide's own fill.sh prints them over the translation a1a5c1bbeff93e20… (all of the seat's roots in one cut). By AI agents, Wed Nov 11 2026. No macro, syntax, notation, axiom, sorry.
-/
import Derived.Test.YtlopddiplmjpfaaChecked
import GoSem.Claim
import GoSem.ClaimJoined
import GoSem.ClaimMapViews
import Derived.JoinedTies
import Derived.KernelRfl
namespace Go.Proofs.Ytlopddiplmjpfaa
/- THE CELL 'sum', in the pinned program and in every row, IS THE sha256 OF THE DUMP (.gsa) THAT YtlopddiplmjpfaaProg.lean LOADS. Nothing in Lean hashes anything: it is a label: what it is worth is what the hold of that sum in a sandbox is worth. -/
noncomputable def Try.pinned : Pinned := { name := "ytlopddiplmjpfaa", sum := "a1a5c1bbeff93e206abd1e5620bfba12eb6ca8c25d7c4b97df66c4e6b806887e", checked := Try.checked }
namespace Rows
def none {H : Type} : Left H := { results := [], args := [] }

/-- 'typecaselaw09.BracketsPairs': WHATEVER THE INPUT: true; the input reads as it did. -/
def bracketsPairsSpec : ChangeSpec := { name := "bracketsPairs", fn := fun _ => fun
  | [d1, d2] => { results := [.lit (.bool true)], args := [d1, d2] }
  | _ => none }
def bracketsPairsRow : OpenClaim := { program := "ytlopddiplmjpfaa", sum := "a1a5c1bbeff93e206abd1e5620bfba12eb6ca8c25d7c4b97df66c4e6b806887e", func := "typecase/typecaselaw09.BracketsPairs", spec := "bracketsPairs", unfollowed := true, recurses := true, apart := false }
def BracketsPairsSaid : Prop := bracketsPairsRow.holds Try.pinned (OpenSpec.ofChange bracketsPairsSpec)

/-- ITS FALSE NEIGHBOUR: 'it returns false'. Refute it at one input. -/
def bracketsPairsWrong : ChangeSpec := { name := "bracketsPairs", fn := fun _ => fun
  | [d1, d2] => { results := [.lit (.bool false)], args := [d1, d2] }
  | _ => none }
def BracketsPairsWrongFalsely : Prop := bracketsPairsRow.holds Try.pinned (OpenSpec.ofChange bracketsPairsWrong)

/-- 'typecaselaw09.BracketsResolve': WHATEVER THE INPUT: true; the input reads as it did. -/
def bracketsResolveSpec : ChangeSpec := { name := "bracketsResolve", fn := fun _ => fun
  | [d1, d2, d3] => { results := [.lit (.bool true)], args := [d1, d2, d3] }
  | _ => none }
def bracketsResolveRow : OpenClaim := { program := "ytlopddiplmjpfaa", sum := "a1a5c1bbeff93e206abd1e5620bfba12eb6ca8c25d7c4b97df66c4e6b806887e", func := "typecase/typecaselaw09.BracketsResolve", spec := "bracketsResolve", unfollowed := true, recurses := true, apart := false }
def BracketsResolveSaid : Prop := bracketsResolveRow.holds Try.pinned (OpenSpec.ofChange bracketsResolveSpec)

/-- ITS FALSE NEIGHBOUR: 'it returns false'. Refute it at one input. -/
def bracketsResolveWrong : ChangeSpec := { name := "bracketsResolve", fn := fun _ => fun
  | [d1, d2, d3] => { results := [.lit (.bool false)], args := [d1, d2, d3] }
  | _ => none }
def BracketsResolveWrongFalsely : Prop := bracketsResolveRow.holds Try.pinned (OpenSpec.ofChange bracketsResolveWrong)

/-- 'typecaselaw09.BracketsNest': WHATEVER THE INPUT: true; the input reads as it did. -/
def bracketsNestSpec : ChangeSpec := { name := "bracketsNest", fn := fun _ => fun
  | [d1, d2] => { results := [.lit (.bool true)], args := [d1, d2] }
  | _ => none }
def bracketsNestRow : OpenClaim := { program := "ytlopddiplmjpfaa", sum := "a1a5c1bbeff93e206abd1e5620bfba12eb6ca8c25d7c4b97df66c4e6b806887e", func := "typecase/typecaselaw09.BracketsNest", spec := "bracketsNest", unfollowed := true, recurses := true, apart := false }
def BracketsNestSaid : Prop := bracketsNestRow.holds Try.pinned (OpenSpec.ofChange bracketsNestSpec)

/-- ITS FALSE NEIGHBOUR: 'it returns false'. Refute it at one input. -/
def bracketsNestWrong : ChangeSpec := { name := "bracketsNest", fn := fun _ => fun
  | [d1, d2] => { results := [.lit (.bool false)], args := [d1, d2] }
  | _ => none }
def BracketsNestWrongFalsely : Prop := bracketsNestRow.holds Try.pinned (OpenSpec.ofChange bracketsNestWrong)

/-- 'typecaselaw09.BracketsKeep': WHATEVER THE INPUT: true; the input reads as it did. -/
def bracketsKeepSpec : ChangeSpec := { name := "bracketsKeep", fn := fun _ => fun
  | [d1, d2, d3] => { results := [.lit (.bool true)], args := [d1, d2, d3] }
  | _ => none }
def bracketsKeepRow : OpenClaim := { program := "ytlopddiplmjpfaa", sum := "a1a5c1bbeff93e206abd1e5620bfba12eb6ca8c25d7c4b97df66c4e6b806887e", func := "typecase/typecaselaw09.BracketsKeep", spec := "bracketsKeep", unfollowed := true, recurses := true, apart := false }
def BracketsKeepSaid : Prop := bracketsKeepRow.holds Try.pinned (OpenSpec.ofChange bracketsKeepSpec)

/-- ITS FALSE NEIGHBOUR: 'it returns false'. Refute it at one input. -/
def bracketsKeepWrong : ChangeSpec := { name := "bracketsKeep", fn := fun _ => fun
  | [d1, d2, d3] => { results := [.lit (.bool false)], args := [d1, d2, d3] }
  | _ => none }
def BracketsKeepWrongFalsely : Prop := bracketsKeepRow.holds Try.pinned (OpenSpec.ofChange bracketsKeepWrong)

/-- 'typecaselaw09.BracketsQuiet': WHATEVER THE INPUT: true; the input reads as it did. -/
def bracketsQuietSpec : ChangeSpec := { name := "bracketsQuiet", fn := fun _ => fun
  | [d1, d2, d3] => { results := [.lit (.bool true)], args := [d1, d2, d3] }
  | _ => none }
def bracketsQuietRow : OpenClaim := { program := "ytlopddiplmjpfaa", sum := "a1a5c1bbeff93e206abd1e5620bfba12eb6ca8c25d7c4b97df66c4e6b806887e", func := "typecase/typecaselaw09.BracketsQuiet", spec := "bracketsQuiet", unfollowed := true, recurses := true, apart := false }
def BracketsQuietSaid : Prop := bracketsQuietRow.holds Try.pinned (OpenSpec.ofChange bracketsQuietSpec)

/-- ITS FALSE NEIGHBOUR: 'it returns false'. Refute it at one input. -/
def bracketsQuietWrong : ChangeSpec := { name := "bracketsQuiet", fn := fun _ => fun
  | [d1, d2, d3] => { results := [.lit (.bool false)], args := [d1, d2, d3] }
  | _ => none }
def BracketsQuietWrongFalsely : Prop := bracketsQuietRow.holds Try.pinned (OpenSpec.ofChange bracketsQuietWrong)

/- THE SECOND FORM. 'bulk': how many values and letters a reading holds, each counted each time it is reached (what is shared counts as often as it is met; a slice's spare places count too). A statement '..UptoSaid' is the law's where the arguments, and the package variables that the reading takes, are together of bulk at most 1048576: NARROWER than '..Said'. Prove '..Said' where nothing that the law and all that it calls make is longer than what came in: it says more and counts as full. Else prove '..UptoSaid'. A law counts once. -/
mutual
def uptoBulk {H : Type} : DataW H → Nat
  | .lit (.string bytes) => bytes.length + 1
  | .lit _ => 1
  | .nil => 1
  | .ptr d => uptoBulk d + 1
  | .slice elems spare => uptoBulkAll elems + uptoBulkAll spare + 1
  | .agg parts => uptoBulkAll parts + 1
  | .iface _ d => uptoBulk d + 1
  | .map entries => uptoBulkEntries entries + 1
  | .held _ => 1
def uptoBulkAll {H : Type} : List (DataW H) → Nat
  | [] => 0
  | d :: r => uptoBulk d + uptoBulkAll r
def uptoBulkEntries {H : Type} : List (Lit × DataW H) → Nat
  | [] => 0
  | x :: r => uptoBulkEntry x + uptoBulkEntries r
def uptoBulkEntry {H : Type} : Lit × DataW H → Nat
  | (.string bytes, d) => bytes.length + uptoBulk d + 1
  | (_, d) => uptoBulk d + 1
 end
def uptoSmall : (H : Type) → List (DataW H) → Bool := fun _ ds => decide (uptoBulkAll ds ≤ 1048576)
def OpenSpec.upto (s : _root_.Go.ChangeSpec) : _root_.Go.OpenSpec := { _root_.Go.OpenSpec.ofChange s with cond := some uptoSmall }

/-- 'typecaselaw09.BracketsPairs', WHERE WHAT IT READS IS OF BULK AT MOST 1048576: true; the input reads as it did. -/
def bracketsPairsUptoRow : OpenClaim := { program := "ytlopddiplmjpfaa", sum := "a1a5c1bbeff93e206abd1e5620bfba12eb6ca8c25d7c4b97df66c4e6b806887e", func := "typecase/typecaselaw09.BracketsPairs", spec := "bracketsPairs", unfollowed := true, recurses := true, apart := false, narrowed := true }
def BracketsPairsUptoSaid : Prop := bracketsPairsUptoRow.holds Try.pinned (OpenSpec.upto bracketsPairsSpec)

/-- 'typecaselaw09.BracketsResolve', WHERE WHAT IT READS IS OF BULK AT MOST 1048576: true; the input reads as it did. -/
def bracketsResolveUptoRow : OpenClaim := { program := "ytlopddiplmjpfaa", sum := "a1a5c1bbeff93e206abd1e5620bfba12eb6ca8c25d7c4b97df66c4e6b806887e", func := "typecase/typecaselaw09.BracketsResolve", spec := "bracketsResolve", unfollowed := true, recurses := true, apart := false, narrowed := true }
def BracketsResolveUptoSaid : Prop := bracketsResolveUptoRow.holds Try.pinned (OpenSpec.upto bracketsResolveSpec)

/-- 'typecaselaw09.BracketsNest', WHERE WHAT IT READS IS OF BULK AT MOST 1048576: true; the input reads as it did. -/
def bracketsNestUptoRow : OpenClaim := { program := "ytlopddiplmjpfaa", sum := "a1a5c1bbeff93e206abd1e5620bfba12eb6ca8c25d7c4b97df66c4e6b806887e", func := "typecase/typecaselaw09.BracketsNest", spec := "bracketsNest", unfollowed := true, recurses := true, apart := false, narrowed := true }
def BracketsNestUptoSaid : Prop := bracketsNestUptoRow.holds Try.pinned (OpenSpec.upto bracketsNestSpec)

/-- 'typecaselaw09.BracketsKeep', WHERE WHAT IT READS IS OF BULK AT MOST 1048576: true; the input reads as it did. -/
def bracketsKeepUptoRow : OpenClaim := { program := "ytlopddiplmjpfaa", sum := "a1a5c1bbeff93e206abd1e5620bfba12eb6ca8c25d7c4b97df66c4e6b806887e", func := "typecase/typecaselaw09.BracketsKeep", spec := "bracketsKeep", unfollowed := true, recurses := true, apart := false, narrowed := true }
def BracketsKeepUptoSaid : Prop := bracketsKeepUptoRow.holds Try.pinned (OpenSpec.upto bracketsKeepSpec)

/-- 'typecaselaw09.BracketsQuiet', WHERE WHAT IT READS IS OF BULK AT MOST 1048576: true; the input reads as it did. -/
def bracketsQuietUptoRow : OpenClaim := { program := "ytlopddiplmjpfaa", sum := "a1a5c1bbeff93e206abd1e5620bfba12eb6ca8c25d7c4b97df66c4e6b806887e", func := "typecase/typecaselaw09.BracketsQuiet", spec := "bracketsQuiet", unfollowed := true, recurses := true, apart := false, narrowed := true }
def BracketsQuietUptoSaid : Prop := bracketsQuietUptoRow.holds Try.pinned (OpenSpec.upto bracketsQuietSpec)

end Rows
end Go.Proofs.Ytlopddiplmjpfaa
