/-
  No cell of these rows narrows 'for every input' (looked for: loops, veiled, ifaces, maps, wideKeys, modest, calm, conditions, laid).
  DERIVED. THE GIVEN ROWS OF THIS SEAT. 5 by the template 'for every input the law returns true; each argument reads behind the call as it read before'; 0 by the template 'total and deterministic' (their statements: YtcplhbafbjpnlaaTotals.lean).
  GIVEN WITH THE SEED: the statements are not yours to turn. If you find one false, say at which input.
  Laid BY PROGRAM, IN A SANDBOX (cutbox-rows.mjs): the forced cells as the released guide's own fill.sh prints them over the translation 4592417dea7d1c38… (all of the seat's roots in one cut). By AI agents, Wed Nov 11 2026. No macro, syntax, notation, axiom, sorry.
-/
import Derived.Test.YtcplhbafbjpnlaaChecked
import GoSem.Claim
import GoSem.ClaimJoined
import GoSem.ClaimMapViews
import Derived.JoinedTies
import Derived.KernelRfl
namespace Go.Proofs.Ytcplhbafbjpnlaa
/- THE CELL 'sum', in the pinned program and in every row, IS THE sha256 OF THE DUMP (.gsa) THAT YtcplhbafbjpnlaaProg.lean LOADS. Nothing in Lean hashes anything: it is a label: what it is worth is what the hold of that sum in a sandbox is worth. -/
noncomputable def Try.pinned : Pinned := { name := "ytcplhbafbjpnlaa", sum := "4592417dea7d1c38cdbae48d69168b3e7f39cc772289cfd8846337529faceac3", checked := Try.checked }
namespace Rows
def none {H : Type} : Left H := { results := [], args := [] }

/-- 'typecaselaw08.WordsBounds': WHATEVER THE INPUT: true; the input reads as it did. -/
def wordsBoundsSpec : ChangeSpec := { name := "wordsBounds", fn := fun _ => fun
  | [d1, d2] => { results := [.lit (.bool true)], args := [d1, d2] }
  | _ => none }
def wordsBoundsRow : OpenClaim := { program := "ytcplhbafbjpnlaa", sum := "4592417dea7d1c38cdbae48d69168b3e7f39cc772289cfd8846337529faceac3", func := "typecase/typecaselaw08.WordsBounds", spec := "wordsBounds", unfollowed := true, recurses := true, apart := false }
def WordsBoundsSaid : Prop := wordsBoundsRow.holds Try.pinned (OpenSpec.ofChange wordsBoundsSpec)

/-- ITS FALSE NEIGHBOUR: 'it returns false'. Refute it at one input. -/
def wordsBoundsWrong : ChangeSpec := { name := "wordsBounds", fn := fun _ => fun
  | [d1, d2] => { results := [.lit (.bool false)], args := [d1, d2] }
  | _ => none }
def WordsBoundsWrongFalsely : Prop := wordsBoundsRow.holds Try.pinned (OpenSpec.ofChange wordsBoundsWrong)

/-- 'typecaselaw08.WordsAround': WHATEVER THE INPUT: true; the input reads as it did. -/
def wordsAroundSpec : ChangeSpec := { name := "wordsAround", fn := fun _ => fun
  | [d1, d2] => { results := [.lit (.bool true)], args := [d1, d2] }
  | _ => none }
def wordsAroundRow : OpenClaim := { program := "ytcplhbafbjpnlaa", sum := "4592417dea7d1c38cdbae48d69168b3e7f39cc772289cfd8846337529faceac3", func := "typecase/typecaselaw08.WordsAround", spec := "wordsAround", unfollowed := true, recurses := true, apart := false }
def WordsAroundSaid : Prop := wordsAroundRow.holds Try.pinned (OpenSpec.ofChange wordsAroundSpec)

/-- ITS FALSE NEIGHBOUR: 'it returns false'. Refute it at one input. -/
def wordsAroundWrong : ChangeSpec := { name := "wordsAround", fn := fun _ => fun
  | [d1, d2] => { results := [.lit (.bool false)], args := [d1, d2] }
  | _ => none }
def WordsAroundWrongFalsely : Prop := wordsAroundRow.holds Try.pinned (OpenSpec.ofChange wordsAroundWrong)

/-- 'typecaselaw08.WordsKinds': WHATEVER THE INPUT: true; the input reads as it did. -/
def wordsKindsSpec : ChangeSpec := { name := "wordsKinds", fn := fun _ => fun
  | [d1, d2] => { results := [.lit (.bool true)], args := [d1, d2] }
  | _ => none }
def wordsKindsRow : OpenClaim := { program := "ytcplhbafbjpnlaa", sum := "4592417dea7d1c38cdbae48d69168b3e7f39cc772289cfd8846337529faceac3", func := "typecase/typecaselaw08.WordsKinds", spec := "wordsKinds", unfollowed := true, recurses := true, apart := false }
def WordsKindsSaid : Prop := wordsKindsRow.holds Try.pinned (OpenSpec.ofChange wordsKindsSpec)

/-- ITS FALSE NEIGHBOUR: 'it returns false'. Refute it at one input. -/
def wordsKindsWrong : ChangeSpec := { name := "wordsKinds", fn := fun _ => fun
  | [d1, d2] => { results := [.lit (.bool false)], args := [d1, d2] }
  | _ => none }
def WordsKindsWrongFalsely : Prop := wordsKindsRow.holds Try.pinned (OpenSpec.ofChange wordsKindsWrong)

/-- 'typecaselaw08.WordsCover': WHATEVER THE INPUT: true; the input reads as it did. -/
def wordsCoverSpec : ChangeSpec := { name := "wordsCover", fn := fun _ => fun
  | [d] => { results := [.lit (.bool true)], args := [d] }
  | _ => none }
def wordsCoverRow : OpenClaim := { program := "ytcplhbafbjpnlaa", sum := "4592417dea7d1c38cdbae48d69168b3e7f39cc772289cfd8846337529faceac3", func := "typecase/typecaselaw08.WordsCover", spec := "wordsCover", unfollowed := true, recurses := true, apart := false }
def WordsCoverSaid : Prop := wordsCoverRow.holds Try.pinned (OpenSpec.ofChange wordsCoverSpec)

/-- ITS FALSE NEIGHBOUR: 'it returns false'. Refute it at one input. -/
def wordsCoverWrong : ChangeSpec := { name := "wordsCover", fn := fun _ => fun
  | [d] => { results := [.lit (.bool false)], args := [d] }
  | _ => none }
def WordsCoverWrongFalsely : Prop := wordsCoverRow.holds Try.pinned (OpenSpec.ofChange wordsCoverWrong)

/-- 'typecaselaw08.WordsWhole': WHATEVER THE INPUT: true; the input reads as it did. -/
def wordsWholeSpec : ChangeSpec := { name := "wordsWhole", fn := fun _ => fun
  | [d1, d2] => { results := [.lit (.bool true)], args := [d1, d2] }
  | _ => none }
def wordsWholeRow : OpenClaim := { program := "ytcplhbafbjpnlaa", sum := "4592417dea7d1c38cdbae48d69168b3e7f39cc772289cfd8846337529faceac3", func := "typecase/typecaselaw08.WordsWhole", spec := "wordsWhole", unfollowed := true, recurses := true, apart := false }
def WordsWholeSaid : Prop := wordsWholeRow.holds Try.pinned (OpenSpec.ofChange wordsWholeSpec)

/-- ITS FALSE NEIGHBOUR: 'it returns false'. Refute it at one input. -/
def wordsWholeWrong : ChangeSpec := { name := "wordsWhole", fn := fun _ => fun
  | [d1, d2] => { results := [.lit (.bool false)], args := [d1, d2] }
  | _ => none }
def WordsWholeWrongFalsely : Prop := wordsWholeRow.holds Try.pinned (OpenSpec.ofChange wordsWholeWrong)

/- THE SECOND FORM. 'bulk': how many values and letters a reading holds, each counted each time it is reached (what is shared counts as often as it is met; a slice's spare places count too). A statement '..UptoSaid' is the law's where the arguments, and the package variables that the reading takes, are together of bulk at most 1048576: NARROWER than '..Said'. Prove '..Said' where nothing that the law and all that it calls make is longer than what came in: it says more and counts as full. Else prove '..UptoSaid'. A law counts once. -/
mutual
def uptoBulk {H : Type} : DataW H → Nat
  | .lit (.string bytes) => bytes.length + 1
  | .lit _ => 1
  | .nil => 1
  | .ptr d => uptoBulk d + 1
  | .slice elems spare => uptoBulkAll elems + uptoBulkAll spare + 1
  | .agg parts => uptoBulkAll parts + 1
  | .iface _ d => uptoBulk d + 1
  | .map entries => uptoBulkEntries entries + 1
  | .held _ => 1
def uptoBulkAll {H : Type} : List (DataW H) → Nat
  | [] => 0
  | d :: r => uptoBulk d + uptoBulkAll r
def uptoBulkEntries {H : Type} : List (Lit × DataW H) → Nat
  | [] => 0
  | x :: r => uptoBulkEntry x + uptoBulkEntries r
def uptoBulkEntry {H : Type} : Lit × DataW H → Nat
  | (.string bytes, d) => bytes.length + uptoBulk d + 1
  | (_, d) => uptoBulk d + 1
 end
def uptoSmall : (H : Type) → List (DataW H) → Bool := fun _ ds => decide (uptoBulkAll ds ≤ 1048576)
def OpenSpec.upto (s : _root_.Go.ChangeSpec) : _root_.Go.OpenSpec := { _root_.Go.OpenSpec.ofChange s with cond := some uptoSmall }

/-- 'typecaselaw08.WordsBounds', WHERE WHAT IT READS IS OF BULK AT MOST 1048576: true; the input reads as it did. -/
def wordsBoundsUptoRow : OpenClaim := { program := "ytcplhbafbjpnlaa", sum := "4592417dea7d1c38cdbae48d69168b3e7f39cc772289cfd8846337529faceac3", func := "typecase/typecaselaw08.WordsBounds", spec := "wordsBounds", unfollowed := true, recurses := true, apart := false, narrowed := true }
def WordsBoundsUptoSaid : Prop := wordsBoundsUptoRow.holds Try.pinned (OpenSpec.upto wordsBoundsSpec)

/-- 'typecaselaw08.WordsAround', WHERE WHAT IT READS IS OF BULK AT MOST 1048576: true; the input reads as it did. -/
def wordsAroundUptoRow : OpenClaim := { program := "ytcplhbafbjpnlaa", sum := "4592417dea7d1c38cdbae48d69168b3e7f39cc772289cfd8846337529faceac3", func := "typecase/typecaselaw08.WordsAround", spec := "wordsAround", unfollowed := true, recurses := true, apart := false, narrowed := true }
def WordsAroundUptoSaid : Prop := wordsAroundUptoRow.holds Try.pinned (OpenSpec.upto wordsAroundSpec)

/-- 'typecaselaw08.WordsKinds', WHERE WHAT IT READS IS OF BULK AT MOST 1048576: true; the input reads as it did. -/
def wordsKindsUptoRow : OpenClaim := { program := "ytcplhbafbjpnlaa", sum := "4592417dea7d1c38cdbae48d69168b3e7f39cc772289cfd8846337529faceac3", func := "typecase/typecaselaw08.WordsKinds", spec := "wordsKinds", unfollowed := true, recurses := true, apart := false, narrowed := true }
def WordsKindsUptoSaid : Prop := wordsKindsUptoRow.holds Try.pinned (OpenSpec.upto wordsKindsSpec)

/-- 'typecaselaw08.WordsCover', WHERE WHAT IT READS IS OF BULK AT MOST 1048576: true; the input reads as it did. -/
def wordsCoverUptoRow : OpenClaim := { program := "ytcplhbafbjpnlaa", sum := "4592417dea7d1c38cdbae48d69168b3e7f39cc772289cfd8846337529faceac3", func := "typecase/typecaselaw08.WordsCover", spec := "wordsCover", unfollowed := true, recurses := true, apart := false, narrowed := true }
def WordsCoverUptoSaid : Prop := wordsCoverUptoRow.holds Try.pinned (OpenSpec.upto wordsCoverSpec)

/-- 'typecaselaw08.WordsWhole', WHERE WHAT IT READS IS OF BULK AT MOST 1048576: true; the input reads as it did. -/
def wordsWholeUptoRow : OpenClaim := { program := "ytcplhbafbjpnlaa", sum := "4592417dea7d1c38cdbae48d69168b3e7f39cc772289cfd8846337529faceac3", func := "typecase/typecaselaw08.WordsWhole", spec := "wordsWhole", unfollowed := true, recurses := true, apart := false, narrowed := true }
def WordsWholeUptoSaid : Prop := wordsWholeUptoRow.holds Try.pinned (OpenSpec.upto wordsWholeSpec)

end Rows
end Go.Proofs.Ytcplhbafbjpnlaa
