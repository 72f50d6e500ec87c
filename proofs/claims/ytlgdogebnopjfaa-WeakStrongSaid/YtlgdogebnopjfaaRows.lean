/-
  No cell of these rows narrows 'for every input' (looked for: loops, veiled, ifaces, maps, wideKeys, modest, calm, conditions, laid).
  DERIVED. THE GIVEN ROWS OF THIS SEAT. 3 by the template 'for every input the law returns true; each argument reads behind the call as it read before'; 0 by the template 'total and deterministic' (their statements: YtlgdogebnopjfaaTotals.lean).
  GIVEN WITH THE SEED: the statements are not yours to turn. If you find one false, say at which input.
  Laid BY PROGRAM, IN A SANDBOX (cutbox-rows.mjs): the forced cells as the released guide's own fill.sh prints them over the translation 50d6588c4b421b9f… (all of the seat's roots in one cut). By AI agents, Wed Nov 11 2026. No macro, syntax, notation, axiom, sorry.
-/
import Derived.Test.YtlgdogebnopjfaaChecked
import GoSem.Claim
import GoSem.ClaimJoined
import GoSem.ClaimMapViews
import Derived.JoinedTies
import Derived.KernelRfl
namespace Go.Proofs.Ytlgdogebnopjfaa
/- THE CELL 'sum', in the pinned program and in every row, IS THE sha256 OF THE DUMP (.gsa) THAT YtlgdogebnopjfaaProg.lean LOADS. Nothing in Lean hashes anything: it is a label: what it is worth is what the hold of that sum in a sandbox is worth. -/
noncomputable def Try.pinned : Pinned := { name := "ytlgdogebnopjfaa", sum := "50d6588c4b421b9fac80f67b4a298799a5e6e878fe250f1c4bcedf997fc5d94d", checked := Try.checked }
namespace Rows
def none {H : Type} : Left H := { results := [], args := [] }

/-- 'typecaselaw13.WeakStrong': WHATEVER THE INPUT: true; the input reads as it did. -/
def weakStrongSpec : ChangeSpec := { name := "weakStrong", fn := fun _ => fun
  | [d] => { results := [.lit (.bool true)], args := [d] }
  | _ => none }
def weakStrongRow : OpenClaim := { program := "ytlgdogebnopjfaa", sum := "50d6588c4b421b9fac80f67b4a298799a5e6e878fe250f1c4bcedf997fc5d94d", func := "typecase/typecaselaw13.WeakStrong", spec := "weakStrong", unfollowed := true, recurses := true, apart := false }
def WeakStrongSaid : Prop := weakStrongRow.holds Try.pinned (OpenSpec.ofChange weakStrongSpec)

/-- ITS FALSE NEIGHBOUR: 'it returns false'. Refute it at one input. -/
def weakStrongWrong : ChangeSpec := { name := "weakStrong", fn := fun _ => fun
  | [d] => { results := [.lit (.bool false)], args := [d] }
  | _ => none }
def WeakStrongWrongFalsely : Prop := weakStrongRow.holds Try.pinned (OpenSpec.ofChange weakStrongWrong)

/-- 'typecaselaw13.WeakLeft': WHATEVER THE INPUT: true; the input reads as it did. -/
def weakLeftSpec : ChangeSpec := { name := "weakLeft", fn := fun _ => fun
  | [d1, d2] => { results := [.lit (.bool true)], args := [d1, d2] }
  | _ => none }
def weakLeftRow : OpenClaim := { program := "ytlgdogebnopjfaa", sum := "50d6588c4b421b9fac80f67b4a298799a5e6e878fe250f1c4bcedf997fc5d94d", func := "typecase/typecaselaw13.WeakLeft", spec := "weakLeft", unfollowed := true, recurses := true, apart := false }
def WeakLeftSaid : Prop := weakLeftRow.holds Try.pinned (OpenSpec.ofChange weakLeftSpec)

/-- ITS FALSE NEIGHBOUR: 'it returns false'. Refute it at one input. -/
def weakLeftWrong : ChangeSpec := { name := "weakLeft", fn := fun _ => fun
  | [d1, d2] => { results := [.lit (.bool false)], args := [d1, d2] }
  | _ => none }
def WeakLeftWrongFalsely : Prop := weakLeftRow.holds Try.pinned (OpenSpec.ofChange weakLeftWrong)

/-- 'typecaselaw13.WeakParts': WHATEVER THE INPUT: true; the input reads as it did. -/
def weakPartsSpec : ChangeSpec := { name := "weakParts", fn := fun _ => fun
  | [d1, d2, d3, d4] => { results := [.lit (.bool true)], args := [d1, d2, d3, d4] }
  | _ => none }
def weakPartsRow : OpenClaim := { program := "ytlgdogebnopjfaa", sum := "50d6588c4b421b9fac80f67b4a298799a5e6e878fe250f1c4bcedf997fc5d94d", func := "typecase/typecaselaw13.WeakParts", spec := "weakParts", unfollowed := true, recurses := true, apart := false }
def WeakPartsSaid : Prop := weakPartsRow.holds Try.pinned (OpenSpec.ofChange weakPartsSpec)

/-- ITS FALSE NEIGHBOUR: 'it returns false'. Refute it at one input. -/
def weakPartsWrong : ChangeSpec := { name := "weakParts", fn := fun _ => fun
  | [d1, d2, d3, d4] => { results := [.lit (.bool false)], args := [d1, d2, d3, d4] }
  | _ => none }
def WeakPartsWrongFalsely : Prop := weakPartsRow.holds Try.pinned (OpenSpec.ofChange weakPartsWrong)

/- THE SECOND FORM. 'bulk': how many values and letters a reading holds, each counted each time it is reached (what is shared counts as often as it is met; a slice's spare places count too). A statement '..UptoSaid' is the law's where the arguments, and the package variables that the reading takes, are together of bulk at most 1048576: NARROWER than '..Said'. Prove '..Said' where nothing that the law and all that it calls make is longer than what came in: it says more and counts as full. Else prove '..UptoSaid'. A law counts once. -/
mutual
def uptoBulk {H : Type} : DataW H → Nat
  | .lit (.string bytes) => bytes.length + 1
  | .lit _ => 1
  | .nil => 1
  | .ptr d => uptoBulk d + 1
  | .slice elems spare => uptoBulkAll elems + uptoBulkAll spare + 1
  | .agg parts => uptoBulkAll parts + 1
  | .iface _ d => uptoBulk d + 1
  | .map entries => uptoBulkEntries entries + 1
  | .held _ => 1
def uptoBulkAll {H : Type} : List (DataW H) → Nat
  | [] => 0
  | d :: r => uptoBulk d + uptoBulkAll r
def uptoBulkEntries {H : Type} : List (Lit × DataW H) → Nat
  | [] => 0
  | x :: r => uptoBulkEntry x + uptoBulkEntries r
def uptoBulkEntry {H : Type} : Lit × DataW H → Nat
  | (.string bytes, d) => bytes.length + uptoBulk d + 1
  | (_, d) => uptoBulk d + 1
 end
def uptoSmall : (H : Type) → List (DataW H) → Bool := fun _ ds => decide (uptoBulkAll ds ≤ 1048576)
def OpenSpec.upto (s : _root_.Go.ChangeSpec) : _root_.Go.OpenSpec := { _root_.Go.OpenSpec.ofChange s with cond := some uptoSmall }

/-- 'typecaselaw13.WeakStrong', WHERE WHAT IT READS IS OF BULK AT MOST 1048576: true; the input reads as it did. -/
def weakStrongUptoRow : OpenClaim := { program := "ytlgdogebnopjfaa", sum := "50d6588c4b421b9fac80f67b4a298799a5e6e878fe250f1c4bcedf997fc5d94d", func := "typecase/typecaselaw13.WeakStrong", spec := "weakStrong", unfollowed := true, recurses := true, apart := false, narrowed := true }
def WeakStrongUptoSaid : Prop := weakStrongUptoRow.holds Try.pinned (OpenSpec.upto weakStrongSpec)

/-- 'typecaselaw13.WeakLeft', WHERE WHAT IT READS IS OF BULK AT MOST 1048576: true; the input reads as it did. -/
def weakLeftUptoRow : OpenClaim := { program := "ytlgdogebnopjfaa", sum := "50d6588c4b421b9fac80f67b4a298799a5e6e878fe250f1c4bcedf997fc5d94d", func := "typecase/typecaselaw13.WeakLeft", spec := "weakLeft", unfollowed := true, recurses := true, apart := false, narrowed := true }
def WeakLeftUptoSaid : Prop := weakLeftUptoRow.holds Try.pinned (OpenSpec.upto weakLeftSpec)

/-- 'typecaselaw13.WeakParts', WHERE WHAT IT READS IS OF BULK AT MOST 1048576: true; the input reads as it did. -/
def weakPartsUptoRow : OpenClaim := { program := "ytlgdogebnopjfaa", sum := "50d6588c4b421b9fac80f67b4a298799a5e6e878fe250f1c4bcedf997fc5d94d", func := "typecase/typecaselaw13.WeakParts", spec := "weakParts", unfollowed := true, recurses := true, apart := false, narrowed := true }
def WeakPartsUptoSaid : Prop := weakPartsUptoRow.holds Try.pinned (OpenSpec.upto weakPartsSpec)

end Rows
end Go.Proofs.Ytlgdogebnopjfaa
