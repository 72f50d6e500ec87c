/-
  No cell of these rows narrows 'for every input' (looked for: loops, veiled, ifaces, maps, wideKeys, modest, calm, conditions, laid).
  DERIVED. THE GIVEN ROWS OF THIS SEAT. 4 by the template 'for every input the law returns true; each argument reads behind the call as it read before'; 0 by the template 'total and deterministic' (their statements: YtfobibijhojhlaaTotals.lean).
  GIVEN WITH THE SEED: the statements are not yours to turn. If you find one false, say at which input.
  Laid BY PROGRAM, IN A SANDBOX (cutbox-rows.mjs): the forced cells as the released guide's own fill.sh prints them over the translation b65b83d300c7a79e… (all of the seat's roots in one cut). By AI agents, Wed Nov 11 2026. No macro, syntax, notation, axiom, sorry.
-/
import Derived.Test.YtfobibijhojhlaaChecked
import GoSem.Claim
import GoSem.ClaimJoined
import GoSem.ClaimMapViews
import Derived.JoinedTies
import Derived.KernelRfl
namespace Go.Proofs.Ytfobibijhojhlaa
/- THE CELL 'sum', in the pinned program and in every row, IS THE sha256 OF THE DUMP (.gsa) THAT YtfobibijhojhlaaProg.lean LOADS. Nothing in Lean hashes anything: it is a label: what it is worth is what the hold of that sum in a sandbox is worth. -/
noncomputable def Try.pinned : Pinned := { name := "ytfobibijhojhlaa", sum := "b65b83d300c7a79e885f5a4f0429d1f78ed42eeb8760105f041c2d870ce95567", checked := Try.checked }
namespace Rows
def none {H : Type} : Left H := { results := [], args := [] }

/-- 'typecaselaw04.PropsTells': WHATEVER THE INPUT: true; the input reads as it did. -/
def propsTellsSpec : ChangeSpec := { name := "propsTells", fn := fun _ => fun
  | [d1, d2] => { results := [.lit (.bool true)], args := [d1, d2] }
  | _ => none }
def propsTellsRow : OpenClaim := { program := "ytfobibijhojhlaa", sum := "b65b83d300c7a79e885f5a4f0429d1f78ed42eeb8760105f041c2d870ce95567", func := "typecase/typecaselaw04.PropsTells", spec := "propsTells", unfollowed := true, recurses := true, apart := false }
def PropsTellsSaid : Prop := propsTellsRow.holds Try.pinned (OpenSpec.ofChange propsTellsSpec)

/-- ITS FALSE NEIGHBOUR: 'it returns false'. Refute it at one input. -/
def propsTellsWrong : ChangeSpec := { name := "propsTells", fn := fun _ => fun
  | [d1, d2] => { results := [.lit (.bool false)], args := [d1, d2] }
  | _ => none }
def PropsTellsWrongFalsely : Prop := propsTellsRow.holds Try.pinned (OpenSpec.ofChange propsTellsWrong)

/-- 'typecaselaw04.PropsBidi': WHATEVER THE INPUT: true; the input reads as it did. -/
def propsBidiSpec : ChangeSpec := { name := "propsBidi", fn := fun _ => fun
  | [d] => { results := [.lit (.bool true)], args := [d] }
  | _ => none }
def propsBidiRow : OpenClaim := { program := "ytfobibijhojhlaa", sum := "b65b83d300c7a79e885f5a4f0429d1f78ed42eeb8760105f041c2d870ce95567", func := "typecase/typecaselaw04.PropsBidi", spec := "propsBidi", unfollowed := true, recurses := true, apart := false }
def PropsBidiSaid : Prop := propsBidiRow.holds Try.pinned (OpenSpec.ofChange propsBidiSpec)

/-- ITS FALSE NEIGHBOUR: 'it returns false'. Refute it at one input. -/
def propsBidiWrong : ChangeSpec := { name := "propsBidi", fn := fun _ => fun
  | [d] => { results := [.lit (.bool false)], args := [d] }
  | _ => none }
def PropsBidiWrongFalsely : Prop := propsBidiRow.holds Try.pinned (OpenSpec.ofChange propsBidiWrong)

/-- 'typecaselaw04.PropsRows': WHATEVER THE INPUT: true; the input reads as it did. -/
def propsRowsSpec : ChangeSpec := { name := "propsRows", fn := fun _ => fun
  | [d] => { results := [.lit (.bool true)], args := [d] }
  | _ => none }
def propsRowsRow : OpenClaim := { program := "ytfobibijhojhlaa", sum := "b65b83d300c7a79e885f5a4f0429d1f78ed42eeb8760105f041c2d870ce95567", func := "typecase/typecaselaw04.PropsRows", spec := "propsRows", unfollowed := true, recurses := true, apart := false }
def PropsRowsSaid : Prop := propsRowsRow.holds Try.pinned (OpenSpec.ofChange propsRowsSpec)

/-- ITS FALSE NEIGHBOUR: 'it returns false'. Refute it at one input. -/
def propsRowsWrong : ChangeSpec := { name := "propsRows", fn := fun _ => fun
  | [d] => { results := [.lit (.bool false)], args := [d] }
  | _ => none }
def PropsRowsWrongFalsely : Prop := propsRowsRow.holds Try.pinned (OpenSpec.ofChange propsRowsWrong)

/-- 'typecaselaw04.PropsMirrors': WHATEVER THE INPUT: true; the input reads as it did. -/
def propsMirrorsSpec : ChangeSpec := { name := "propsMirrors", fn := fun _ => fun
  | [d] => { results := [.lit (.bool true)], args := [d] }
  | _ => none }
def propsMirrorsRow : OpenClaim := { program := "ytfobibijhojhlaa", sum := "b65b83d300c7a79e885f5a4f0429d1f78ed42eeb8760105f041c2d870ce95567", func := "typecase/typecaselaw04.PropsMirrors", spec := "propsMirrors", unfollowed := true, recurses := true, apart := false }
def PropsMirrorsSaid : Prop := propsMirrorsRow.holds Try.pinned (OpenSpec.ofChange propsMirrorsSpec)

/-- ITS FALSE NEIGHBOUR: 'it returns false'. Refute it at one input. -/
def propsMirrorsWrong : ChangeSpec := { name := "propsMirrors", fn := fun _ => fun
  | [d] => { results := [.lit (.bool false)], args := [d] }
  | _ => none }
def PropsMirrorsWrongFalsely : Prop := propsMirrorsRow.holds Try.pinned (OpenSpec.ofChange propsMirrorsWrong)

/- THE SECOND FORM. 'bulk': how many values and letters a reading holds, each counted each time it is reached (what is shared counts as often as it is met; a slice's spare places count too). A statement '..UptoSaid' is the law's where the arguments, and the package variables that the reading takes, are together of bulk at most 1048576: NARROWER than '..Said'. Prove '..Said' where nothing that the law and all that it calls make is longer than what came in: it says more and counts as full. Else prove '..UptoSaid'. A law counts once. -/
mutual
def uptoBulk {H : Type} : DataW H → Nat
  | .lit (.string bytes) => bytes.length + 1
  | .lit _ => 1
  | .nil => 1
  | .ptr d => uptoBulk d + 1
  | .slice elems spare => uptoBulkAll elems + uptoBulkAll spare + 1
  | .agg parts => uptoBulkAll parts + 1
  | .iface _ d => uptoBulk d + 1
  | .map entries => uptoBulkEntries entries + 1
  | .held _ => 1
def uptoBulkAll {H : Type} : List (DataW H) → Nat
  | [] => 0
  | d :: r => uptoBulk d + uptoBulkAll r
def uptoBulkEntries {H : Type} : List (Lit × DataW H) → Nat
  | [] => 0
  | x :: r => uptoBulkEntry x + uptoBulkEntries r
def uptoBulkEntry {H : Type} : Lit × DataW H → Nat
  | (.string bytes, d) => bytes.length + uptoBulk d + 1
  | (_, d) => uptoBulk d + 1
 end
def uptoSmall : (H : Type) → List (DataW H) → Bool := fun _ ds => decide (uptoBulkAll ds ≤ 1048576)
def OpenSpec.upto (s : _root_.Go.ChangeSpec) : _root_.Go.OpenSpec := { _root_.Go.OpenSpec.ofChange s with cond := some uptoSmall }

/-- 'typecaselaw04.PropsTells', WHERE WHAT IT READS IS OF BULK AT MOST 1048576: true; the input reads as it did. -/
def propsTellsUptoRow : OpenClaim := { program := "ytfobibijhojhlaa", sum := "b65b83d300c7a79e885f5a4f0429d1f78ed42eeb8760105f041c2d870ce95567", func := "typecase/typecaselaw04.PropsTells", spec := "propsTells", unfollowed := true, recurses := true, apart := false, narrowed := true }
def PropsTellsUptoSaid : Prop := propsTellsUptoRow.holds Try.pinned (OpenSpec.upto propsTellsSpec)

/-- 'typecaselaw04.PropsBidi', WHERE WHAT IT READS IS OF BULK AT MOST 1048576: true; the input reads as it did. -/
def propsBidiUptoRow : OpenClaim := { program := "ytfobibijhojhlaa", sum := "b65b83d300c7a79e885f5a4f0429d1f78ed42eeb8760105f041c2d870ce95567", func := "typecase/typecaselaw04.PropsBidi", spec := "propsBidi", unfollowed := true, recurses := true, apart := false, narrowed := true }
def PropsBidiUptoSaid : Prop := propsBidiUptoRow.holds Try.pinned (OpenSpec.upto propsBidiSpec)

/-- 'typecaselaw04.PropsRows', WHERE WHAT IT READS IS OF BULK AT MOST 1048576: true; the input reads as it did. -/
def propsRowsUptoRow : OpenClaim := { program := "ytfobibijhojhlaa", sum := "b65b83d300c7a79e885f5a4f0429d1f78ed42eeb8760105f041c2d870ce95567", func := "typecase/typecaselaw04.PropsRows", spec := "propsRows", unfollowed := true, recurses := true, apart := false, narrowed := true }
def PropsRowsUptoSaid : Prop := propsRowsUptoRow.holds Try.pinned (OpenSpec.upto propsRowsSpec)

/-- 'typecaselaw04.PropsMirrors', WHERE WHAT IT READS IS OF BULK AT MOST 1048576: true; the input reads as it did. -/
def propsMirrorsUptoRow : OpenClaim := { program := "ytfobibijhojhlaa", sum := "b65b83d300c7a79e885f5a4f0429d1f78ed42eeb8760105f041c2d870ce95567", func := "typecase/typecaselaw04.PropsMirrors", spec := "propsMirrors", unfollowed := true, recurses := true, apart := false, narrowed := true }
def PropsMirrorsUptoSaid : Prop := propsMirrorsUptoRow.holds Try.pinned (OpenSpec.upto propsMirrorsSpec)

end Rows
end Go.Proofs.Ytfobibijhojhlaa
