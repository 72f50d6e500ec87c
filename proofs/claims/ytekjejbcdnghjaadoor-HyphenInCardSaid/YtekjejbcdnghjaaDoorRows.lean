/-
  NARROWER THAN 'FOR EVERY INPUT', by the rows' own cells (each row's printed sentence says how): HyphenParses: laid · HyphenPrints: laid · HyphenMany: laid · HyphenPoints: laid · HyphenIn: laid · HyphenKeeps: laid.
  DERIVED. THE GIVEN ROWS OF THIS SEAT. 6 by the template 'for every input the law returns true; each argument reads behind the call as it read before'; 0 by the template 'total and deterministic' (their statements: YtekjejbcdnghjaaDoorTotals.lean).
  GIVEN WITH THE SEED: the statements are not yours to turn. If you find one false, say at which input.
  Laid BY PROGRAM, IN A SANDBOX (cutbox-rows.mjs): the forced cells as the released guide's own fill.sh prints them over the translation 24721ddc7bf72276… (all of the seat's roots in one cut). By AI agents, Wed Nov 11 2026. No macro, syntax, notation, axiom, sorry.
-/
import Derived.Test.YtekjejbcdnghjaaDoorChecked
import GoSem.PinnedTables
import GoSem.Claim
import GoSem.ClaimJoined
import GoSem.ClaimMapViews
import Derived.JoinedTies
import Derived.KernelRfl
namespace Go.Proofs.YtekjejbcdnghjaaDoor
/- THE CELL 'sum', in the pinned program and in every row, IS THE sha256 OF THE DUMP (.gsa) THAT YtekjejbcdnghjaaDoorProg.lean LOADS. Nothing in Lean hashes anything: it is a label: what it is worth is what the hold of that sum in a sandbox is worth. -/
noncomputable def Tryd.pinned : Pinned := { name := "ytekjejbcdnghjaadoor", sum := "24721ddc7bf7227643fc0ccf2893c725eb24235db23b1690dbed96eeda6773bd", checked := Tryd.checked }
namespace Rows
def none {H : Type} : Left H := { results := [], args := [] }

/- WHAT THE LISTED PACKAGE-LEVEL VARIABLES READ AS WHEN THE CALL BEGINS. Each datum BY PROGRAM (the guide's laid-datum.mjs) off the statement by which the dump's own 'gosem.cut.vars' lays the variable. In a bare row this is a premise. The card (YtekjejbcdnghjaaDoorCards.lean) ties it to the program's text. -/
def laid_unicode_utf8_acceptRanges {H : Type} : DataW H := .agg [.agg [.lit (.int .u8 128), .lit (.int .u8 191)], .agg [.lit (.int .u8 160), .lit (.int .u8 191)], .agg [.lit (.int .u8 128), .lit (.int .u8 159)], .agg [.lit (.int .u8 144), .lit (.int .u8 191)], .agg [.lit (.int .u8 128), .lit (.int .u8 143)], .agg [.lit (.int .u8 0), .lit (.int .u8 0)], .agg [.lit (.int .u8 0), .lit (.int .u8 0)], .agg [.lit (.int .u8 0), .lit (.int .u8 0)], .agg [.lit (.int .u8 0), .lit (.int .u8 0)], .agg [.lit (.int .u8 0), .lit (.int .u8 0)], .agg [.lit (.int .u8 0), .lit (.int .u8 0)], .agg [.lit (.int .u8 0), .lit (.int .u8 0)], .agg [.lit (.int .u8 0), .lit (.int .u8 0)], .agg [.lit (.int .u8 0), .lit (.int .u8 0)], .agg [.lit (.int .u8 0), .lit (.int .u8 0)], .agg [.lit (.int .u8 0), .lit (.int .u8 0)]]
/-- One of Go's own tables, pinned by name: the form's constant. -/
def laid_unicode_utf8_first : DataW Unit := Go.Pinned.utf8First
def laid_math_bits_deBruijn32tab {H : Type} : DataW H := .agg [.lit (.int .u8 0), .lit (.int .u8 1), .lit (.int .u8 28), .lit (.int .u8 2), .lit (.int .u8 29), .lit (.int .u8 14), .lit (.int .u8 24), .lit (.int .u8 3), .lit (.int .u8 30), .lit (.int .u8 22), .lit (.int .u8 20), .lit (.int .u8 15), .lit (.int .u8 25), .lit (.int .u8 17), .lit (.int .u8 4), .lit (.int .u8 8), .lit (.int .u8 31), .lit (.int .u8 27), .lit (.int .u8 13), .lit (.int .u8 23), .lit (.int .u8 21), .lit (.int .u8 19), .lit (.int .u8 16), .lit (.int .u8 7), .lit (.int .u8 26), .lit (.int .u8 12), .lit (.int .u8 18), .lit (.int .u8 6), .lit (.int .u8 11), .lit (.int .u8 5), .lit (.int .u8 10), .lit (.int .u8 9)]
def laid_math_bits_deBruijn64tab {H : Type} : DataW H := .agg [.lit (.int .u8 0), .lit (.int .u8 1), .lit (.int .u8 56), .lit (.int .u8 2), .lit (.int .u8 57), .lit (.int .u8 49), .lit (.int .u8 28), .lit (.int .u8 3), .lit (.int .u8 61), .lit (.int .u8 58), .lit (.int .u8 42), .lit (.int .u8 50), .lit (.int .u8 38), .lit (.int .u8 29), .lit (.int .u8 17), .lit (.int .u8 4), .lit (.int .u8 62), .lit (.int .u8 47), .lit (.int .u8 59), .lit (.int .u8 36), .lit (.int .u8 45), .lit (.int .u8 43), .lit (.int .u8 51), .lit (.int .u8 22), .lit (.int .u8 53), .lit (.int .u8 39), .lit (.int .u8 33), .lit (.int .u8 30), .lit (.int .u8 24), .lit (.int .u8 18), .lit (.int .u8 12), .lit (.int .u8 5), .lit (.int .u8 63), .lit (.int .u8 55), .lit (.int .u8 48), .lit (.int .u8 27), .lit (.int .u8 60), .lit (.int .u8 41), .lit (.int .u8 37), .lit (.int .u8 16), .lit (.int .u8 46), .lit (.int .u8 35), .lit (.int .u8 44), .lit (.int .u8 21), .lit (.int .u8 52), .lit (.int .u8 32), .lit (.int .u8 23), .lit (.int .u8 11), .lit (.int .u8 54), .lit (.int .u8 26), .lit (.int .u8 40), .lit (.int .u8 15), .lit (.int .u8 34), .lit (.int .u8 20), .lit (.int .u8 31), .lit (.int .u8 10), .lit (.int .u8 25), .lit (.int .u8 14), .lit (.int .u8 19), .lit (.int .u8 9), .lit (.int .u8 13), .lit (.int .u8 8), .lit (.int .u8 7), .lit (.int .u8 6)]
def laid_internal_strconv_uint64pow10 {H : Type} : DataW H := .agg [.lit (.int .u64 1), .lit (.int .u64 10), .lit (.int .u64 100), .lit (.int .u64 1000), .lit (.int .u64 10000), .lit (.int .u64 100000), .lit (.int .u64 1000000), .lit (.int .u64 10000000), .lit (.int .u64 100000000), .lit (.int .u64 1000000000), .lit (.int .u64 10000000000), .lit (.int .u64 100000000000), .lit (.int .u64 1000000000000), .lit (.int .u64 10000000000000), .lit (.int .u64 100000000000000), .lit (.int .u64 1000000000000000), .lit (.int .u64 10000000000000000), .lit (.int .u64 100000000000000000), .lit (.int .u64 1000000000000000000), .lit (.int .u64 10000000000000000000)]

/-- 'typecaselaw20.HyphenParses': WHATEVER THE INPUT: true; the input reads as it did. -/
def hyphenParsesSpec : ChangeSpec := { name := "hyphenParses", fn := fun _ => fun
  | [d] => { results := [.lit (.bool true)], args := [d] }
  | _ => none }
def hyphenParsesRow : OpenClaim := { program := "ytekjejbcdnghjaadoor", sum := "24721ddc7bf7227643fc0ccf2893c725eb24235db23b1690dbed96eeda6773bd", func := "typecase/typecaselaw20.HyphenParses", spec := "hyphenParses", unfollowed := true, recurses := true, named := ["unicode/utf8.first", "unicode/utf8.acceptRanges"], apart := false, laid := [("unicode/utf8.acceptRanges", laid_unicode_utf8_acceptRanges), ("unicode/utf8.first", laid_unicode_utf8_first)] }
def HyphenParsesSaid : Prop := hyphenParsesRow.holds Tryd.pinned (OpenSpec.ofChange hyphenParsesSpec)

/-- ITS FALSE NEIGHBOUR: 'it returns false'. Refute it at one input. -/
def hyphenParsesWrong : ChangeSpec := { name := "hyphenParses", fn := fun _ => fun
  | [d] => { results := [.lit (.bool false)], args := [d] }
  | _ => none }
def HyphenParsesWrongFalsely : Prop := hyphenParsesRow.holds Tryd.pinned (OpenSpec.ofChange hyphenParsesWrong)

/-- 'typecaselaw20.HyphenPrints': WHATEVER THE INPUT: true; the input reads as it did. -/
def hyphenPrintsSpec : ChangeSpec := { name := "hyphenPrints", fn := fun _ => fun
  | [d1, d2] => { results := [.lit (.bool true)], args := [d1, d2] }
  | _ => none }
def hyphenPrintsRow : OpenClaim := { program := "ytekjejbcdnghjaadoor", sum := "24721ddc7bf7227643fc0ccf2893c725eb24235db23b1690dbed96eeda6773bd", func := "typecase/typecaselaw20.HyphenPrints", spec := "hyphenPrints", inPlace := ["internal/abi.NoEscape"], unfollowed := true, recurses := true, named := ["internal/strconv.uint64pow10", "math/bits.deBruijn32tab", "math/bits.deBruijn64tab", "unicode/utf8.first", "unicode/utf8.acceptRanges"], apart := false, laid := [("math/bits.deBruijn32tab", laid_math_bits_deBruijn32tab), ("math/bits.deBruijn64tab", laid_math_bits_deBruijn64tab), ("internal/strconv.uint64pow10", laid_internal_strconv_uint64pow10), ("unicode/utf8.acceptRanges", laid_unicode_utf8_acceptRanges), ("unicode/utf8.first", laid_unicode_utf8_first)] }
def HyphenPrintsSaid : Prop := hyphenPrintsRow.holds Tryd.pinned (OpenSpec.ofChange hyphenPrintsSpec)

/-- ITS FALSE NEIGHBOUR: 'it returns false'. Refute it at one input. -/
def hyphenPrintsWrong : ChangeSpec := { name := "hyphenPrints", fn := fun _ => fun
  | [d1, d2] => { results := [.lit (.bool false)], args := [d1, d2] }
  | _ => none }
def HyphenPrintsWrongFalsely : Prop := hyphenPrintsRow.holds Tryd.pinned (OpenSpec.ofChange hyphenPrintsWrong)

/-- 'typecaselaw20.HyphenMany': WHATEVER THE INPUT: true; the input reads as it did. -/
def hyphenManySpec : ChangeSpec := { name := "hyphenMany", fn := fun _ => fun
  | [d1, d2] => { results := [.lit (.bool true)], args := [d1, d2] }
  | _ => none }
def hyphenManyRow : OpenClaim := { program := "ytekjejbcdnghjaadoor", sum := "24721ddc7bf7227643fc0ccf2893c725eb24235db23b1690dbed96eeda6773bd", func := "typecase/typecaselaw20.HyphenMany", spec := "hyphenMany", unfollowed := true, recurses := true, named := ["unicode/utf8.first", "unicode/utf8.acceptRanges"], apart := false, laid := [("unicode/utf8.acceptRanges", laid_unicode_utf8_acceptRanges), ("unicode/utf8.first", laid_unicode_utf8_first)] }
def HyphenManySaid : Prop := hyphenManyRow.holds Tryd.pinned (OpenSpec.ofChange hyphenManySpec)

/-- ITS FALSE NEIGHBOUR: 'it returns false'. Refute it at one input. -/
def hyphenManyWrong : ChangeSpec := { name := "hyphenMany", fn := fun _ => fun
  | [d1, d2] => { results := [.lit (.bool false)], args := [d1, d2] }
  | _ => none }
def HyphenManyWrongFalsely : Prop := hyphenManyRow.holds Tryd.pinned (OpenSpec.ofChange hyphenManyWrong)

/-- 'typecaselaw20.HyphenPoints': WHATEVER THE INPUT: true; the input reads as it did. -/
def hyphenPointsSpec : ChangeSpec := { name := "hyphenPoints", fn := fun _ => fun
  | [d1, d2] => { results := [.lit (.bool true)], args := [d1, d2] }
  | _ => none }
def hyphenPointsRow : OpenClaim := { program := "ytekjejbcdnghjaadoor", sum := "24721ddc7bf7227643fc0ccf2893c725eb24235db23b1690dbed96eeda6773bd", func := "typecase/typecaselaw20.HyphenPoints", spec := "hyphenPoints", unfollowed := true, recurses := true, named := ["unicode/utf8.first", "unicode/utf8.acceptRanges"], apart := false, laid := [("unicode/utf8.acceptRanges", laid_unicode_utf8_acceptRanges), ("unicode/utf8.first", laid_unicode_utf8_first)] }
def HyphenPointsSaid : Prop := hyphenPointsRow.holds Tryd.pinned (OpenSpec.ofChange hyphenPointsSpec)

/-- ITS FALSE NEIGHBOUR: 'it returns false'. Refute it at one input. -/
def hyphenPointsWrong : ChangeSpec := { name := "hyphenPoints", fn := fun _ => fun
  | [d1, d2] => { results := [.lit (.bool false)], args := [d1, d2] }
  | _ => none }
def HyphenPointsWrongFalsely : Prop := hyphenPointsRow.holds Tryd.pinned (OpenSpec.ofChange hyphenPointsWrong)

/-- 'typecaselaw20.HyphenIn': WHATEVER THE INPUT: true; the input reads as it did. -/
def hyphenInSpec : ChangeSpec := { name := "hyphenIn", fn := fun _ => fun
  | [d1, d2] => { results := [.lit (.bool true)], args := [d1, d2] }
  | _ => none }
def hyphenInRow : OpenClaim := { program := "ytekjejbcdnghjaadoor", sum := "24721ddc7bf7227643fc0ccf2893c725eb24235db23b1690dbed96eeda6773bd", func := "typecase/typecaselaw20.HyphenIn", spec := "hyphenIn", unfollowed := true, recurses := true, named := ["unicode/utf8.first", "unicode/utf8.acceptRanges"], apart := false, laid := [("unicode/utf8.acceptRanges", laid_unicode_utf8_acceptRanges), ("unicode/utf8.first", laid_unicode_utf8_first)] }
def HyphenInSaid : Prop := hyphenInRow.holds Tryd.pinned (OpenSpec.ofChange hyphenInSpec)

/-- ITS FALSE NEIGHBOUR: 'it returns false'. Refute it at one input. -/
def hyphenInWrong : ChangeSpec := { name := "hyphenIn", fn := fun _ => fun
  | [d1, d2] => { results := [.lit (.bool false)], args := [d1, d2] }
  | _ => none }
def HyphenInWrongFalsely : Prop := hyphenInRow.holds Tryd.pinned (OpenSpec.ofChange hyphenInWrong)

/-- 'typecaselaw20.HyphenKeeps': WHATEVER THE INPUT: true; the input reads as it did. -/
def hyphenKeepsSpec : ChangeSpec := { name := "hyphenKeeps", fn := fun _ => fun
  | [d1, d2, d3] => { results := [.lit (.bool true)], args := [d1, d2, d3] }
  | _ => none }
def hyphenKeepsRow : OpenClaim := { program := "ytekjejbcdnghjaadoor", sum := "24721ddc7bf7227643fc0ccf2893c725eb24235db23b1690dbed96eeda6773bd", func := "typecase/typecaselaw20.HyphenKeeps", spec := "hyphenKeeps", unfollowed := true, recurses := true, named := ["unicode/utf8.first", "unicode/utf8.acceptRanges"], apart := false, laid := [("unicode/utf8.acceptRanges", laid_unicode_utf8_acceptRanges), ("unicode/utf8.first", laid_unicode_utf8_first)] }
def HyphenKeepsSaid : Prop := hyphenKeepsRow.holds Tryd.pinned (OpenSpec.ofChange hyphenKeepsSpec)

/-- ITS FALSE NEIGHBOUR: 'it returns false'. Refute it at one input. -/
def hyphenKeepsWrong : ChangeSpec := { name := "hyphenKeeps", fn := fun _ => fun
  | [d1, d2, d3] => { results := [.lit (.bool false)], args := [d1, d2, d3] }
  | _ => none }
def HyphenKeepsWrongFalsely : Prop := hyphenKeepsRow.holds Tryd.pinned (OpenSpec.ofChange hyphenKeepsWrong)

/- THE SECOND FORM. 'bulk': how many values and letters a reading holds, each counted each time it is reached (what is shared counts as often as it is met; a slice's spare places count too). A statement '..UptoSaid' is the law's where the arguments, and the package variables that the reading takes, are together of bulk at most 1048576: NARROWER than '..Said'. Prove '..Said' where nothing that the law and all that it calls make is longer than what came in: it says more and counts as full. Else prove '..UptoSaid'. A law counts once. -/
mutual
def uptoBulk {H : Type} : DataW H → Nat
  | .lit (.string bytes) => bytes.length + 1
  | .lit _ => 1
  | .nil => 1
  | .ptr d => uptoBulk d + 1
  | .slice elems spare => uptoBulkAll elems + uptoBulkAll spare + 1
  | .agg parts => uptoBulkAll parts + 1
  | .iface _ d => uptoBulk d + 1
  | .map entries => uptoBulkEntries entries + 1
  | .held _ => 1
def uptoBulkAll {H : Type} : List (DataW H) → Nat
  | [] => 0
  | d :: r => uptoBulk d + uptoBulkAll r
def uptoBulkEntries {H : Type} : List (Lit × DataW H) → Nat
  | [] => 0
  | x :: r => uptoBulkEntry x + uptoBulkEntries r
def uptoBulkEntry {H : Type} : Lit × DataW H → Nat
  | (.string bytes, d) => bytes.length + uptoBulk d + 1
  | (_, d) => uptoBulk d + 1
 end
def uptoSmall : (H : Type) → List (DataW H) → Bool := fun _ ds => decide (uptoBulkAll ds ≤ 1048576)
def OpenSpec.upto (s : _root_.Go.ChangeSpec) : _root_.Go.OpenSpec := { _root_.Go.OpenSpec.ofChange s with cond := some uptoSmall }

/-- 'typecaselaw20.HyphenParses', WHERE WHAT IT READS IS OF BULK AT MOST 1048576: true; the input reads as it did. -/
def hyphenParsesUptoRow : OpenClaim := { program := "ytekjejbcdnghjaadoor", sum := "24721ddc7bf7227643fc0ccf2893c725eb24235db23b1690dbed96eeda6773bd", func := "typecase/typecaselaw20.HyphenParses", spec := "hyphenParses", unfollowed := true, recurses := true, named := ["unicode/utf8.first", "unicode/utf8.acceptRanges"], apart := false, laid := [("unicode/utf8.acceptRanges", laid_unicode_utf8_acceptRanges), ("unicode/utf8.first", laid_unicode_utf8_first)], narrowed := true }
def HyphenParsesUptoSaid : Prop := hyphenParsesUptoRow.holds Tryd.pinned (OpenSpec.upto hyphenParsesSpec)

/-- 'typecaselaw20.HyphenPrints', WHERE WHAT IT READS IS OF BULK AT MOST 1048576: true; the input reads as it did. -/
def hyphenPrintsUptoRow : OpenClaim := { program := "ytekjejbcdnghjaadoor", sum := "24721ddc7bf7227643fc0ccf2893c725eb24235db23b1690dbed96eeda6773bd", func := "typecase/typecaselaw20.HyphenPrints", spec := "hyphenPrints", inPlace := ["internal/abi.NoEscape"], unfollowed := true, recurses := true, named := ["internal/strconv.uint64pow10", "math/bits.deBruijn32tab", "math/bits.deBruijn64tab", "unicode/utf8.first", "unicode/utf8.acceptRanges"], apart := false, laid := [("math/bits.deBruijn32tab", laid_math_bits_deBruijn32tab), ("math/bits.deBruijn64tab", laid_math_bits_deBruijn64tab), ("internal/strconv.uint64pow10", laid_internal_strconv_uint64pow10), ("unicode/utf8.acceptRanges", laid_unicode_utf8_acceptRanges), ("unicode/utf8.first", laid_unicode_utf8_first)], narrowed := true }
def HyphenPrintsUptoSaid : Prop := hyphenPrintsUptoRow.holds Tryd.pinned (OpenSpec.upto hyphenPrintsSpec)

/-- 'typecaselaw20.HyphenMany', WHERE WHAT IT READS IS OF BULK AT MOST 1048576: true; the input reads as it did. -/
def hyphenManyUptoRow : OpenClaim := { program := "ytekjejbcdnghjaadoor", sum := "24721ddc7bf7227643fc0ccf2893c725eb24235db23b1690dbed96eeda6773bd", func := "typecase/typecaselaw20.HyphenMany", spec := "hyphenMany", unfollowed := true, recurses := true, named := ["unicode/utf8.first", "unicode/utf8.acceptRanges"], apart := false, laid := [("unicode/utf8.acceptRanges", laid_unicode_utf8_acceptRanges), ("unicode/utf8.first", laid_unicode_utf8_first)], narrowed := true }
def HyphenManyUptoSaid : Prop := hyphenManyUptoRow.holds Tryd.pinned (OpenSpec.upto hyphenManySpec)

/-- 'typecaselaw20.HyphenPoints', WHERE WHAT IT READS IS OF BULK AT MOST 1048576: true; the input reads as it did. -/
def hyphenPointsUptoRow : OpenClaim := { program := "ytekjejbcdnghjaadoor", sum := "24721ddc7bf7227643fc0ccf2893c725eb24235db23b1690dbed96eeda6773bd", func := "typecase/typecaselaw20.HyphenPoints", spec := "hyphenPoints", unfollowed := true, recurses := true, named := ["unicode/utf8.first", "unicode/utf8.acceptRanges"], apart := false, laid := [("unicode/utf8.acceptRanges", laid_unicode_utf8_acceptRanges), ("unicode/utf8.first", laid_unicode_utf8_first)], narrowed := true }
def HyphenPointsUptoSaid : Prop := hyphenPointsUptoRow.holds Tryd.pinned (OpenSpec.upto hyphenPointsSpec)

/-- 'typecaselaw20.HyphenIn', WHERE WHAT IT READS IS OF BULK AT MOST 1048576: true; the input reads as it did. -/
def hyphenInUptoRow : OpenClaim := { program := "ytekjejbcdnghjaadoor", sum := "24721ddc7bf7227643fc0ccf2893c725eb24235db23b1690dbed96eeda6773bd", func := "typecase/typecaselaw20.HyphenIn", spec := "hyphenIn", unfollowed := true, recurses := true, named := ["unicode/utf8.first", "unicode/utf8.acceptRanges"], apart := false, laid := [("unicode/utf8.acceptRanges", laid_unicode_utf8_acceptRanges), ("unicode/utf8.first", laid_unicode_utf8_first)], narrowed := true }
def HyphenInUptoSaid : Prop := hyphenInUptoRow.holds Tryd.pinned (OpenSpec.upto hyphenInSpec)

/-- 'typecaselaw20.HyphenKeeps', WHERE WHAT IT READS IS OF BULK AT MOST 1048576: true; the input reads as it did. -/
def hyphenKeepsUptoRow : OpenClaim := { program := "ytekjejbcdnghjaadoor", sum := "24721ddc7bf7227643fc0ccf2893c725eb24235db23b1690dbed96eeda6773bd", func := "typecase/typecaselaw20.HyphenKeeps", spec := "hyphenKeeps", unfollowed := true, recurses := true, named := ["unicode/utf8.first", "unicode/utf8.acceptRanges"], apart := false, laid := [("unicode/utf8.acceptRanges", laid_unicode_utf8_acceptRanges), ("unicode/utf8.first", laid_unicode_utf8_first)], narrowed := true }
def HyphenKeepsUptoSaid : Prop := hyphenKeepsUptoRow.holds Tryd.pinned (OpenSpec.upto hyphenKeepsSpec)

end Rows
end Go.Proofs.YtekjejbcdnghjaaDoor
