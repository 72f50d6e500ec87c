/-
  No cell of these rows narrows 'for every input' (looked for: loops, veiled, ifaces, maps, wideKeys, modest, calm, conditions, laid).
  DERIVED. THE GIVEN ROWS OF THIS SEAT. 3 by the template 'for every input the law returns true; each argument reads behind the call as it read before'; 0 by the template 'total and deterministic' (their statements: YtllmafbpjmclbaaTotals.lean).
  GIVEN WITH THE SEED: the statements are not yours to turn. If you find one false, say at which input.
  Laid BY PROGRAM, IN A SANDBOX (cutbox-rows.mjs): the forced cells as the released guide's own fill.sh prints them over the translation 9150f073fa7df90c… (all of the seat's roots in one cut). By AI agents, Wed Nov 11 2026. No macro, syntax, notation, axiom, sorry.
-/
import Derived.Test.YtllmafbpjmclbaaChecked
import GoSem.Claim
import GoSem.ClaimJoined
import GoSem.ClaimMapViews
import Derived.JoinedTies
import Derived.KernelRfl
namespace Go.Proofs.Ytllmafbpjmclbaa
/- THE CELL 'sum', in the pinned program and in every row, IS THE sha256 OF THE DUMP (.gsa) THAT YtllmafbpjmclbaaProg.lean LOADS. Nothing in Lean hashes anything: it is a label: what it is worth is what the hold of that sum in a sandbox is worth. -/
noncomputable def Try.pinned : Pinned := { name := "ytllmafbpjmclbaa", sum := "9150f073fa7df90c5c8b7c01b586644f2cb1a16592ce7f2740468b36a3f40579", checked := Try.checked }
namespace Rows
def none {H : Type} : Left H := { results := [], args := [] }

/-- 'typecaselaw23.FallbackNeeds': WHATEVER THE INPUT: true; the input reads as it did. -/
def fallbackNeedsSpec : ChangeSpec := { name := "fallbackNeeds", fn := fun _ => fun
  | [d] => { results := [.lit (.bool true)], args := [d] }
  | _ => none }
def fallbackNeedsRow : OpenClaim := { program := "ytllmafbpjmclbaa", sum := "9150f073fa7df90c5c8b7c01b586644f2cb1a16592ce7f2740468b36a3f40579", func := "typecase/typecaselaw23.FallbackNeeds", spec := "fallbackNeeds", unfollowed := true, recurses := true, apart := false }
def FallbackNeedsSaid : Prop := fallbackNeedsRow.holds Try.pinned (OpenSpec.ofChange fallbackNeedsSpec)

/-- ITS FALSE NEIGHBOUR: 'it returns false'. Refute it at one input. -/
def fallbackNeedsWrong : ChangeSpec := { name := "fallbackNeeds", fn := fun _ => fun
  | [d] => { results := [.lit (.bool false)], args := [d] }
  | _ => none }
def FallbackNeedsWrongFalsely : Prop := fallbackNeedsRow.holds Try.pinned (OpenSpec.ofChange fallbackNeedsWrong)

/-- 'typecaselaw23.FallbackHas': WHATEVER THE INPUT: true; the input reads as it did. -/
def fallbackHasSpec : ChangeSpec := { name := "fallbackHas", fn := fun _ => fun
  | [d1, d2] => { results := [.lit (.bool true)], args := [d1, d2] }
  | _ => none }
def fallbackHasRow : OpenClaim := { program := "ytllmafbpjmclbaa", sum := "9150f073fa7df90c5c8b7c01b586644f2cb1a16592ce7f2740468b36a3f40579", func := "typecase/typecaselaw23.FallbackHas", spec := "fallbackHas", unfollowed := true, recurses := true, apart := false }
def FallbackHasSaid : Prop := fallbackHasRow.holds Try.pinned (OpenSpec.ofChange fallbackHasSpec)

/-- ITS FALSE NEIGHBOUR: 'it returns false'. Refute it at one input. -/
def fallbackHasWrong : ChangeSpec := { name := "fallbackHas", fn := fun _ => fun
  | [d1, d2] => { results := [.lit (.bool false)], args := [d1, d2] }
  | _ => none }
def FallbackHasWrongFalsely : Prop := fallbackHasRow.holds Try.pinned (OpenSpec.ofChange fallbackHasWrong)

/-- 'typecaselaw23.FallbackPick': WHATEVER THE INPUT: true; the input reads as it did. -/
def fallbackPickSpec : ChangeSpec := { name := "fallbackPick", fn := fun _ => fun
  | [d1, d2, d3] => { results := [.lit (.bool true)], args := [d1, d2, d3] }
  | _ => none }
def fallbackPickRow : OpenClaim := { program := "ytllmafbpjmclbaa", sum := "9150f073fa7df90c5c8b7c01b586644f2cb1a16592ce7f2740468b36a3f40579", func := "typecase/typecaselaw23.FallbackPick", spec := "fallbackPick", unfollowed := true, recurses := true, apart := false }
def FallbackPickSaid : Prop := fallbackPickRow.holds Try.pinned (OpenSpec.ofChange fallbackPickSpec)

/-- ITS FALSE NEIGHBOUR: 'it returns false'. Refute it at one input. -/
def fallbackPickWrong : ChangeSpec := { name := "fallbackPick", fn := fun _ => fun
  | [d1, d2, d3] => { results := [.lit (.bool false)], args := [d1, d2, d3] }
  | _ => none }
def FallbackPickWrongFalsely : Prop := fallbackPickRow.holds Try.pinned (OpenSpec.ofChange fallbackPickWrong)

/- THE SECOND FORM. 'bulk': how many values and letters a reading holds, each counted each time it is reached (what is shared counts as often as it is met; a slice's spare places count too). A statement '..UptoSaid' is the law's where the arguments, and the package variables that the reading takes, are together of bulk at most 1048576: NARROWER than '..Said'. Prove '..Said' where nothing that the law and all that it calls make is longer than what came in: it says more and counts as full. Else prove '..UptoSaid'. A law counts once. -/
mutual
def uptoBulk {H : Type} : DataW H → Nat
  | .lit (.string bytes) => bytes.length + 1
  | .lit _ => 1
  | .nil => 1
  | .ptr d => uptoBulk d + 1
  | .slice elems spare => uptoBulkAll elems + uptoBulkAll spare + 1
  | .agg parts => uptoBulkAll parts + 1
  | .iface _ d => uptoBulk d + 1
  | .map entries => uptoBulkEntries entries + 1
  | .held _ => 1
def uptoBulkAll {H : Type} : List (DataW H) → Nat
  | [] => 0
  | d :: r => uptoBulk d + uptoBulkAll r
def uptoBulkEntries {H : Type} : List (Lit × DataW H) → Nat
  | [] => 0
  | x :: r => uptoBulkEntry x + uptoBulkEntries r
def uptoBulkEntry {H : Type} : Lit × DataW H → Nat
  | (.string bytes, d) => bytes.length + uptoBulk d + 1
  | (_, d) => uptoBulk d + 1
 end
def uptoSmall : (H : Type) → List (DataW H) → Bool := fun _ ds => decide (uptoBulkAll ds ≤ 1048576)
def OpenSpec.upto (s : _root_.Go.ChangeSpec) : _root_.Go.OpenSpec := { _root_.Go.OpenSpec.ofChange s with cond := some uptoSmall }

/-- 'typecaselaw23.FallbackNeeds', WHERE WHAT IT READS IS OF BULK AT MOST 1048576: true; the input reads as it did. -/
def fallbackNeedsUptoRow : OpenClaim := { program := "ytllmafbpjmclbaa", sum := "9150f073fa7df90c5c8b7c01b586644f2cb1a16592ce7f2740468b36a3f40579", func := "typecase/typecaselaw23.FallbackNeeds", spec := "fallbackNeeds", unfollowed := true, recurses := true, apart := false, narrowed := true }
def FallbackNeedsUptoSaid : Prop := fallbackNeedsUptoRow.holds Try.pinned (OpenSpec.upto fallbackNeedsSpec)

/-- 'typecaselaw23.FallbackHas', WHERE WHAT IT READS IS OF BULK AT MOST 1048576: true; the input reads as it did. -/
def fallbackHasUptoRow : OpenClaim := { program := "ytllmafbpjmclbaa", sum := "9150f073fa7df90c5c8b7c01b586644f2cb1a16592ce7f2740468b36a3f40579", func := "typecase/typecaselaw23.FallbackHas", spec := "fallbackHas", unfollowed := true, recurses := true, apart := false, narrowed := true }
def FallbackHasUptoSaid : Prop := fallbackHasUptoRow.holds Try.pinned (OpenSpec.upto fallbackHasSpec)

/-- 'typecaselaw23.FallbackPick', WHERE WHAT IT READS IS OF BULK AT MOST 1048576: true; the input reads as it did. -/
def fallbackPickUptoRow : OpenClaim := { program := "ytllmafbpjmclbaa", sum := "9150f073fa7df90c5c8b7c01b586644f2cb1a16592ce7f2740468b36a3f40579", func := "typecase/typecaselaw23.FallbackPick", spec := "fallbackPick", unfollowed := true, recurses := true, apart := false, narrowed := true }
def FallbackPickUptoSaid : Prop := fallbackPickUptoRow.holds Try.pinned (OpenSpec.upto fallbackPickSpec)

end Rows
end Go.Proofs.Ytllmafbpjmclbaa
