/-
  No cell of these rows narrows 'for every input' (looked for: loops, veiled, ifaces, maps, wideKeys, modest, calm, conditions, laid).
  DERIVED. THE GIVEN ROWS OF THIS SEAT. 4 by the template 'for every input the law returns true; each argument reads behind the call as it read before'; 0 by the template 'total and deterministic' (their statements: YtjdkpnmejkbkiaaTotals.lean).
  GIVEN WITH THE SEED: the statements are not yours to turn. If you find one false, say at which input.
  Laid BY PROGRAM, IN A SANDBOX (cutbox-rows.mjs): the forced cells as the released guide's own fill.sh prints them over the translation 82ab640212d9ebae… (all of the seat's roots in one cut). By AI agents, Wed Nov 11 2026. No macro, syntax, notation, axiom, sorry.
-/
import Derived.Test.YtjdkpnmejkbkiaaChecked
import GoSem.Claim
import GoSem.ClaimJoined
import GoSem.ClaimMapViews
import Derived.JoinedTies
import Derived.KernelRfl
namespace Go.Proofs.Ytjdkpnmejkbkiaa
/- THE CELL 'sum', in the pinned program and in every row, IS THE sha256 OF THE DUMP (.gsa) THAT YtjdkpnmejkbkiaaProg.lean LOADS. Nothing in Lean hashes anything: it is a label: what it is worth is what the hold of that sum in a sandbox is worth. -/
noncomputable def Try.pinned : Pinned := { name := "ytjdkpnmejkbkiaa", sum := "82ab640212d9ebae9ecd48762e408938a05cfb235dcba095b33eb91fd850a97e", checked := Try.checked }
namespace Rows
def none {H : Type} : Left H := { results := [], args := [] }

/-- 'typecaselaw12.SeqsTells': WHATEVER THE INPUT: true; the input reads as it did. -/
def seqsTellsSpec : ChangeSpec := { name := "seqsTells", fn := fun _ => fun
  | [d1, d2] => { results := [.lit (.bool true)], args := [d1, d2] }
  | _ => none }
def seqsTellsRow : OpenClaim := { program := "ytjdkpnmejkbkiaa", sum := "82ab640212d9ebae9ecd48762e408938a05cfb235dcba095b33eb91fd850a97e", func := "typecase/typecaselaw12.SeqsTells", spec := "seqsTells", apart := false }
def SeqsTellsSaid : Prop := seqsTellsRow.holds Try.pinned (OpenSpec.ofChange seqsTellsSpec)

/-- ITS FALSE NEIGHBOUR: 'it returns false'. Refute it at one input. -/
def seqsTellsWrong : ChangeSpec := { name := "seqsTells", fn := fun _ => fun
  | [d1, d2] => { results := [.lit (.bool false)], args := [d1, d2] }
  | _ => none }
def SeqsTellsWrongFalsely : Prop := seqsTellsRow.holds Try.pinned (OpenSpec.ofChange seqsTellsWrong)

/-- 'typecaselaw12.SeqsCover': WHATEVER THE INPUT: true; the input reads as it did. -/
def seqsCoverSpec : ChangeSpec := { name := "seqsCover", fn := fun _ => fun
  | [d1, d2] => { results := [.lit (.bool true)], args := [d1, d2] }
  | _ => none }
def seqsCoverRow : OpenClaim := { program := "ytjdkpnmejkbkiaa", sum := "82ab640212d9ebae9ecd48762e408938a05cfb235dcba095b33eb91fd850a97e", func := "typecase/typecaselaw12.SeqsCover", spec := "seqsCover", apart := false }
def SeqsCoverSaid : Prop := seqsCoverRow.holds Try.pinned (OpenSpec.ofChange seqsCoverSpec)

/-- ITS FALSE NEIGHBOUR: 'it returns false'. Refute it at one input. -/
def seqsCoverWrong : ChangeSpec := { name := "seqsCover", fn := fun _ => fun
  | [d1, d2] => { results := [.lit (.bool false)], args := [d1, d2] }
  | _ => none }
def SeqsCoverWrongFalsely : Prop := seqsCoverRow.holds Try.pinned (OpenSpec.ofChange seqsCoverWrong)

/-- 'typecaselaw12.SeqsPlain': WHATEVER THE INPUT: true; the input reads as it did. -/
def seqsPlainSpec : ChangeSpec := { name := "seqsPlain", fn := fun _ => fun
  | [d1, d2] => { results := [.lit (.bool true)], args := [d1, d2] }
  | _ => none }
def seqsPlainRow : OpenClaim := { program := "ytjdkpnmejkbkiaa", sum := "82ab640212d9ebae9ecd48762e408938a05cfb235dcba095b33eb91fd850a97e", func := "typecase/typecaselaw12.SeqsPlain", spec := "seqsPlain", apart := false }
def SeqsPlainSaid : Prop := seqsPlainRow.holds Try.pinned (OpenSpec.ofChange seqsPlainSpec)

/-- ITS FALSE NEIGHBOUR: 'it returns false'. Refute it at one input. -/
def seqsPlainWrong : ChangeSpec := { name := "seqsPlain", fn := fun _ => fun
  | [d1, d2] => { results := [.lit (.bool false)], args := [d1, d2] }
  | _ => none }
def SeqsPlainWrongFalsely : Prop := seqsPlainRow.holds Try.pinned (OpenSpec.ofChange seqsPlainWrong)

/-- 'typecaselaw12.SeqsUneven': WHATEVER THE INPUT: true; the input reads as it did. -/
def seqsUnevenSpec : ChangeSpec := { name := "seqsUneven", fn := fun _ => fun
  | [d1, d2, d3] => { results := [.lit (.bool true)], args := [d1, d2, d3] }
  | _ => none }
def seqsUnevenRow : OpenClaim := { program := "ytjdkpnmejkbkiaa", sum := "82ab640212d9ebae9ecd48762e408938a05cfb235dcba095b33eb91fd850a97e", func := "typecase/typecaselaw12.SeqsUneven", spec := "seqsUneven", apart := false }
def SeqsUnevenSaid : Prop := seqsUnevenRow.holds Try.pinned (OpenSpec.ofChange seqsUnevenSpec)

/-- ITS FALSE NEIGHBOUR: 'it returns false'. Refute it at one input. -/
def seqsUnevenWrong : ChangeSpec := { name := "seqsUneven", fn := fun _ => fun
  | [d1, d2, d3] => { results := [.lit (.bool false)], args := [d1, d2, d3] }
  | _ => none }
def SeqsUnevenWrongFalsely : Prop := seqsUnevenRow.holds Try.pinned (OpenSpec.ofChange seqsUnevenWrong)

/- THE SECOND FORM. 'bulk': how many values and letters a reading holds, each counted each time it is reached (what is shared counts as often as it is met; a slice's spare places count too). A statement '..UptoSaid' is the law's where the arguments, and the package variables that the reading takes, are together of bulk at most 1048576: NARROWER than '..Said'. Prove '..Said' where nothing that the law and all that it calls make is longer than what came in: it says more and counts as full. Else prove '..UptoSaid'. A law counts once. -/
mutual
def uptoBulk {H : Type} : DataW H → Nat
  | .lit (.string bytes) => bytes.length + 1
  | .lit _ => 1
  | .nil => 1
  | .ptr d => uptoBulk d + 1
  | .slice elems spare => uptoBulkAll elems + uptoBulkAll spare + 1
  | .agg parts => uptoBulkAll parts + 1
  | .iface _ d => uptoBulk d + 1
  | .map entries => uptoBulkEntries entries + 1
  | .held _ => 1
def uptoBulkAll {H : Type} : List (DataW H) → Nat
  | [] => 0
  | d :: r => uptoBulk d + uptoBulkAll r
def uptoBulkEntries {H : Type} : List (Lit × DataW H) → Nat
  | [] => 0
  | x :: r => uptoBulkEntry x + uptoBulkEntries r
def uptoBulkEntry {H : Type} : Lit × DataW H → Nat
  | (.string bytes, d) => bytes.length + uptoBulk d + 1
  | (_, d) => uptoBulk d + 1
 end
def uptoSmall : (H : Type) → List (DataW H) → Bool := fun _ ds => decide (uptoBulkAll ds ≤ 1048576)
def OpenSpec.upto (s : _root_.Go.ChangeSpec) : _root_.Go.OpenSpec := { _root_.Go.OpenSpec.ofChange s with cond := some uptoSmall }

/-- 'typecaselaw12.SeqsTells', WHERE WHAT IT READS IS OF BULK AT MOST 1048576: true; the input reads as it did. -/
def seqsTellsUptoRow : OpenClaim := { program := "ytjdkpnmejkbkiaa", sum := "82ab640212d9ebae9ecd48762e408938a05cfb235dcba095b33eb91fd850a97e", func := "typecase/typecaselaw12.SeqsTells", spec := "seqsTells", apart := false, narrowed := true }
def SeqsTellsUptoSaid : Prop := seqsTellsUptoRow.holds Try.pinned (OpenSpec.upto seqsTellsSpec)

/-- 'typecaselaw12.SeqsCover', WHERE WHAT IT READS IS OF BULK AT MOST 1048576: true; the input reads as it did. -/
def seqsCoverUptoRow : OpenClaim := { program := "ytjdkpnmejkbkiaa", sum := "82ab640212d9ebae9ecd48762e408938a05cfb235dcba095b33eb91fd850a97e", func := "typecase/typecaselaw12.SeqsCover", spec := "seqsCover", apart := false, narrowed := true }
def SeqsCoverUptoSaid : Prop := seqsCoverUptoRow.holds Try.pinned (OpenSpec.upto seqsCoverSpec)

/-- 'typecaselaw12.SeqsPlain', WHERE WHAT IT READS IS OF BULK AT MOST 1048576: true; the input reads as it did. -/
def seqsPlainUptoRow : OpenClaim := { program := "ytjdkpnmejkbkiaa", sum := "82ab640212d9ebae9ecd48762e408938a05cfb235dcba095b33eb91fd850a97e", func := "typecase/typecaselaw12.SeqsPlain", spec := "seqsPlain", apart := false, narrowed := true }
def SeqsPlainUptoSaid : Prop := seqsPlainUptoRow.holds Try.pinned (OpenSpec.upto seqsPlainSpec)

/-- 'typecaselaw12.SeqsUneven', WHERE WHAT IT READS IS OF BULK AT MOST 1048576: true; the input reads as it did. -/
def seqsUnevenUptoRow : OpenClaim := { program := "ytjdkpnmejkbkiaa", sum := "82ab640212d9ebae9ecd48762e408938a05cfb235dcba095b33eb91fd850a97e", func := "typecase/typecaselaw12.SeqsUneven", spec := "seqsUneven", apart := false, narrowed := true }
def SeqsUnevenUptoSaid : Prop := seqsUnevenUptoRow.holds Try.pinned (OpenSpec.upto seqsUnevenSpec)

end Rows
end Go.Proofs.Ytjdkpnmejkbkiaa
