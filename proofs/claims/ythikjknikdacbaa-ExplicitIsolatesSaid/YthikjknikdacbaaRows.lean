/-
  No cell of these rows narrows 'for every input' (looked for: loops, veiled, ifaces, maps, wideKeys, modest, calm, conditions, laid).
  DERIVED. THE GIVEN ROWS OF THIS SEAT. 5 by the template 'for every input the law returns true; each argument reads behind the call as it read before'; 0 by the template 'total and deterministic' (their statements: YthikjknikdacbaaTotals.lean).
  GIVEN WITH THE SEED: the statements are not yours to turn. If you find one false, say at which input.
  Laid BY PROGRAM, IN A SANDBOX (cutbox-rows.mjs): the forced cells as the released guide's own fill.sh prints them over the translation 752f1fca00cbd4f9… (all of the seat's roots in one cut). By AI agents, Wed Nov 11 2026. No macro, syntax, notation, axiom, sorry.
-/
import Derived.Test.YthikjknikdacbaaChecked
import GoSem.Claim
import GoSem.ClaimJoined
import GoSem.ClaimMapViews
import Derived.JoinedTies
import Derived.KernelRfl
namespace Go.Proofs.Ythikjknikdacbaa
/- THE CELL 'sum', in the pinned program and in every row, IS THE sha256 OF THE DUMP (.gsa) THAT YthikjknikdacbaaProg.lean LOADS. Nothing in Lean hashes anything: it is a label: what it is worth is what the hold of that sum in a sandbox is worth. -/
noncomputable def Try.pinned : Pinned := { name := "ythikjknikdacbaa", sum := "752f1fca00cbd4f9b4d1715d9e460e373fcfe15a997a78872e77d4bd25be6372", checked := Try.checked }
namespace Rows
def none {H : Type} : Left H := { results := [], args := [] }

/-- 'typecaselaw11.ExplicitLevels': WHATEVER THE INPUT: true; the input reads as it did. -/
def explicitLevelsSpec : ChangeSpec := { name := "explicitLevels", fn := fun _ => fun
  | [d1, d2] => { results := [.lit (.bool true)], args := [d1, d2] }
  | _ => none }
def explicitLevelsRow : OpenClaim := { program := "ythikjknikdacbaa", sum := "752f1fca00cbd4f9b4d1715d9e460e373fcfe15a997a78872e77d4bd25be6372", func := "typecase/typecaselaw11.ExplicitLevels", spec := "explicitLevels", apart := false }
def ExplicitLevelsSaid : Prop := explicitLevelsRow.holds Try.pinned (OpenSpec.ofChange explicitLevelsSpec)

/-- ITS FALSE NEIGHBOUR: 'it returns false'. Refute it at one input. -/
def explicitLevelsWrong : ChangeSpec := { name := "explicitLevels", fn := fun _ => fun
  | [d1, d2] => { results := [.lit (.bool false)], args := [d1, d2] }
  | _ => none }
def ExplicitLevelsWrongFalsely : Prop := explicitLevelsRow.holds Try.pinned (OpenSpec.ofChange explicitLevelsWrong)

/-- 'typecaselaw11.ExplicitDepth': WHATEVER THE INPUT: true; the input reads as it did. -/
def explicitDepthSpec : ChangeSpec := { name := "explicitDepth", fn := fun _ => fun
  | [d1, d2, d3] => { results := [.lit (.bool true)], args := [d1, d2, d3] }
  | _ => none }
def explicitDepthRow : OpenClaim := { program := "ythikjknikdacbaa", sum := "752f1fca00cbd4f9b4d1715d9e460e373fcfe15a997a78872e77d4bd25be6372", func := "typecase/typecaselaw11.ExplicitDepth", spec := "explicitDepth", apart := false }
def ExplicitDepthSaid : Prop := explicitDepthRow.holds Try.pinned (OpenSpec.ofChange explicitDepthSpec)

/-- ITS FALSE NEIGHBOUR: 'it returns false'. Refute it at one input. -/
def explicitDepthWrong : ChangeSpec := { name := "explicitDepth", fn := fun _ => fun
  | [d1, d2, d3] => { results := [.lit (.bool false)], args := [d1, d2, d3] }
  | _ => none }
def ExplicitDepthWrongFalsely : Prop := explicitDepthRow.holds Try.pinned (OpenSpec.ofChange explicitDepthWrong)

/-- 'typecaselaw11.ExplicitPlain': WHATEVER THE INPUT: true; the input reads as it did. -/
def explicitPlainSpec : ChangeSpec := { name := "explicitPlain", fn := fun _ => fun
  | [d1, d2] => { results := [.lit (.bool true)], args := [d1, d2] }
  | _ => none }
def explicitPlainRow : OpenClaim := { program := "ythikjknikdacbaa", sum := "752f1fca00cbd4f9b4d1715d9e460e373fcfe15a997a78872e77d4bd25be6372", func := "typecase/typecaselaw11.ExplicitPlain", spec := "explicitPlain", apart := false }
def ExplicitPlainSaid : Prop := explicitPlainRow.holds Try.pinned (OpenSpec.ofChange explicitPlainSpec)

/-- ITS FALSE NEIGHBOUR: 'it returns false'. Refute it at one input. -/
def explicitPlainWrong : ChangeSpec := { name := "explicitPlain", fn := fun _ => fun
  | [d1, d2] => { results := [.lit (.bool false)], args := [d1, d2] }
  | _ => none }
def ExplicitPlainWrongFalsely : Prop := explicitPlainRow.holds Try.pinned (OpenSpec.ofChange explicitPlainWrong)

/-- 'typecaselaw11.ExplicitKeeps': WHATEVER THE INPUT: true; the input reads as it did. -/
def explicitKeepsSpec : ChangeSpec := { name := "explicitKeeps", fn := fun _ => fun
  | [d1, d2] => { results := [.lit (.bool true)], args := [d1, d2] }
  | _ => none }
def explicitKeepsRow : OpenClaim := { program := "ythikjknikdacbaa", sum := "752f1fca00cbd4f9b4d1715d9e460e373fcfe15a997a78872e77d4bd25be6372", func := "typecase/typecaselaw11.ExplicitKeeps", spec := "explicitKeeps", apart := false }
def ExplicitKeepsSaid : Prop := explicitKeepsRow.holds Try.pinned (OpenSpec.ofChange explicitKeepsSpec)

/-- ITS FALSE NEIGHBOUR: 'it returns false'. Refute it at one input. -/
def explicitKeepsWrong : ChangeSpec := { name := "explicitKeeps", fn := fun _ => fun
  | [d1, d2] => { results := [.lit (.bool false)], args := [d1, d2] }
  | _ => none }
def ExplicitKeepsWrongFalsely : Prop := explicitKeepsRow.holds Try.pinned (OpenSpec.ofChange explicitKeepsWrong)

/-- 'typecaselaw11.ExplicitIsolates': WHATEVER THE INPUT: true; the input reads as it did. -/
def explicitIsolatesSpec : ChangeSpec := { name := "explicitIsolates", fn := fun _ => fun
  | [d1, d2, d3] => { results := [.lit (.bool true)], args := [d1, d2, d3] }
  | _ => none }
def explicitIsolatesRow : OpenClaim := { program := "ythikjknikdacbaa", sum := "752f1fca00cbd4f9b4d1715d9e460e373fcfe15a997a78872e77d4bd25be6372", func := "typecase/typecaselaw11.ExplicitIsolates", spec := "explicitIsolates", apart := false }
def ExplicitIsolatesSaid : Prop := explicitIsolatesRow.holds Try.pinned (OpenSpec.ofChange explicitIsolatesSpec)

/-- ITS FALSE NEIGHBOUR: 'it returns false'. Refute it at one input. -/
def explicitIsolatesWrong : ChangeSpec := { name := "explicitIsolates", fn := fun _ => fun
  | [d1, d2, d3] => { results := [.lit (.bool false)], args := [d1, d2, d3] }
  | _ => none }
def ExplicitIsolatesWrongFalsely : Prop := explicitIsolatesRow.holds Try.pinned (OpenSpec.ofChange explicitIsolatesWrong)

/- THE SECOND FORM. 'bulk': how many values and letters a reading holds, each counted each time it is reached (what is shared counts as often as it is met; a slice's spare places count too). A statement '..UptoSaid' is the law's where the arguments, and the package variables that the reading takes, are together of bulk at most 1048576: NARROWER than '..Said'. Prove '..Said' where nothing that the law and all that it calls make is longer than what came in: it says more and counts as full. Else prove '..UptoSaid'. A law counts once. -/
mutual
def uptoBulk {H : Type} : DataW H → Nat
  | .lit (.string bytes) => bytes.length + 1
  | .lit _ => 1
  | .nil => 1
  | .ptr d => uptoBulk d + 1
  | .slice elems spare => uptoBulkAll elems + uptoBulkAll spare + 1
  | .agg parts => uptoBulkAll parts + 1
  | .iface _ d => uptoBulk d + 1
  | .map entries => uptoBulkEntries entries + 1
  | .held _ => 1
def uptoBulkAll {H : Type} : List (DataW H) → Nat
  | [] => 0
  | d :: r => uptoBulk d + uptoBulkAll r
def uptoBulkEntries {H : Type} : List (Lit × DataW H) → Nat
  | [] => 0
  | x :: r => uptoBulkEntry x + uptoBulkEntries r
def uptoBulkEntry {H : Type} : Lit × DataW H → Nat
  | (.string bytes, d) => bytes.length + uptoBulk d + 1
  | (_, d) => uptoBulk d + 1
 end
def uptoSmall : (H : Type) → List (DataW H) → Bool := fun _ ds => decide (uptoBulkAll ds ≤ 1048576)
def OpenSpec.upto (s : _root_.Go.ChangeSpec) : _root_.Go.OpenSpec := { _root_.Go.OpenSpec.ofChange s with cond := some uptoSmall }

/-- 'typecaselaw11.ExplicitLevels', WHERE WHAT IT READS IS OF BULK AT MOST 1048576: true; the input reads as it did. -/
def explicitLevelsUptoRow : OpenClaim := { program := "ythikjknikdacbaa", sum := "752f1fca00cbd4f9b4d1715d9e460e373fcfe15a997a78872e77d4bd25be6372", func := "typecase/typecaselaw11.ExplicitLevels", spec := "explicitLevels", apart := false, narrowed := true }
def ExplicitLevelsUptoSaid : Prop := explicitLevelsUptoRow.holds Try.pinned (OpenSpec.upto explicitLevelsSpec)

/-- 'typecaselaw11.ExplicitDepth', WHERE WHAT IT READS IS OF BULK AT MOST 1048576: true; the input reads as it did. -/
def explicitDepthUptoRow : OpenClaim := { program := "ythikjknikdacbaa", sum := "752f1fca00cbd4f9b4d1715d9e460e373fcfe15a997a78872e77d4bd25be6372", func := "typecase/typecaselaw11.ExplicitDepth", spec := "explicitDepth", apart := false, narrowed := true }
def ExplicitDepthUptoSaid : Prop := explicitDepthUptoRow.holds Try.pinned (OpenSpec.upto explicitDepthSpec)

/-- 'typecaselaw11.ExplicitPlain', WHERE WHAT IT READS IS OF BULK AT MOST 1048576: true; the input reads as it did. -/
def explicitPlainUptoRow : OpenClaim := { program := "ythikjknikdacbaa", sum := "752f1fca00cbd4f9b4d1715d9e460e373fcfe15a997a78872e77d4bd25be6372", func := "typecase/typecaselaw11.ExplicitPlain", spec := "explicitPlain", apart := false, narrowed := true }
def ExplicitPlainUptoSaid : Prop := explicitPlainUptoRow.holds Try.pinned (OpenSpec.upto explicitPlainSpec)

/-- 'typecaselaw11.ExplicitKeeps', WHERE WHAT IT READS IS OF BULK AT MOST 1048576: true; the input reads as it did. -/
def explicitKeepsUptoRow : OpenClaim := { program := "ythikjknikdacbaa", sum := "752f1fca00cbd4f9b4d1715d9e460e373fcfe15a997a78872e77d4bd25be6372", func := "typecase/typecaselaw11.ExplicitKeeps", spec := "explicitKeeps", apart := false, narrowed := true }
def ExplicitKeepsUptoSaid : Prop := explicitKeepsUptoRow.holds Try.pinned (OpenSpec.upto explicitKeepsSpec)

/-- 'typecaselaw11.ExplicitIsolates', WHERE WHAT IT READS IS OF BULK AT MOST 1048576: true; the input reads as it did. -/
def explicitIsolatesUptoRow : OpenClaim := { program := "ythikjknikdacbaa", sum := "752f1fca00cbd4f9b4d1715d9e460e373fcfe15a997a78872e77d4bd25be6372", func := "typecase/typecaselaw11.ExplicitIsolates", spec := "explicitIsolates", apart := false, narrowed := true }
def ExplicitIsolatesUptoSaid : Prop := explicitIsolatesUptoRow.holds Try.pinned (OpenSpec.upto explicitIsolatesSpec)

end Rows
end Go.Proofs.Ythikjknikdacbaa
