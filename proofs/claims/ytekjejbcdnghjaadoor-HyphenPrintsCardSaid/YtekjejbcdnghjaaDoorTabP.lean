/-
  The library's five tables, out of what the row of Print's statement lists; a world that holds them.
-/
import Derived.Test.YtekjejbcdnghjaaDoorTabs
import Derived.Shelf.Strconv.Itoa3
set_option linter.unusedVariables false
namespace Go.Proofs.YtekjejbcdnghjaaDoor
open Go.ChangeShapes Go.WideShapes Go.ChangeAt Go.RowKit

def laid9 : List (String × DataW Unit) := [("math/bits.deBruijn32tab", Rows.laid_math_bits_deBruijn32tab), ("math/bits.deBruijn64tab", Rows.laid_math_bits_deBruijn64tab), ("internal/strconv.uint64pow10", Rows.laid_internal_strconv_uint64pow10), ("unicode/utf8.acceptRanges", Rows.laid_unicode_utf8_acceptRanges), ("unicode/utf8.first", Rows.laid_unicode_utf8_first)]
theorem tabs9 {W : World} (h : laidMetH Tryd.prog laid9 W) : Lib.Utf8Tabs 0 1 W := by
  have h' : laidMet Tryd.prog laid9 W := h
  have a := Lib.laidMet.reads h' (n := "unicode/utf8.first") (d := Rows.laid_unicode_utf8_first) (by simp [laid9])
  have b := Lib.laidMet.reads h' (n := "unicode/utf8.acceptRanges") (d := Rows.laid_unicode_utf8_acceptRanges) (by simp [laid9])
  rw [first8] at a
  rw [accept8] at b
  exact utf8Tabs_of_readsT types8 extra8 a b
theorem pow9_is : (Rows.laid_internal_strconv_uint64pow10 : DataW Unit) = Lib.tabData .u64 Lib.pow10Tab := by kernel_rfl
theorem pow9 {W : World} (h : laidMetH Tryd.prog laid9 W) : Lib.TabIs Tryd.prog W "internal/strconv.uint64pow10" .u64 Lib.pow10Tab := by
  have h' : laidMet Tryd.prog laid9 W := h
  have a := Lib.laidMet.reads h' (n := "internal/strconv.uint64pow10") (d := Rows.laid_internal_strconv_uint64pow10) (by simp [laid9])
  rw [pow9_is] at a
  obtain ⟨g', t', cs, fuel, p, hg', ht', hvar, hd⟩ := a
  have hg : Tryd.prog.globalNamed "internal/strconv.uint64pow10" = some 2 := by kernel_rfl
  have hty : (Tryd.prog.globals[(2 : Nat)]?).map (·.type) = some 128 := by kernel_rfl
  obtain rfl := Option.some.inj (hg.symm.trans hg')
  obtain rfl := Option.some.inj (hty.symm.trans ht')
  unfold Lib.TabIs
  rw [hvar, ← Lib.cells_of_tab Tryd.underlying128 Tryd.underlying104 (by kernel_rfl) (by kernel_rfl) hd]

def ints9 (k : IntKind) (zs : List Int) : Obj → Obj
  | .cells _ t frozen => .cells ((zs.map (Value.int k)).toArray) t frozen
  | o => o
def db32 : List Int := [0, 1, 28, 2, 29, 14, 24, 3, 30, 22, 20, 15, 25, 17, 4, 8, 31, 27, 13, 23, 21, 19, 16, 7, 26, 12, 18, 6, 11, 5, 10, 9]
def db64 : List Int := [0, 1, 56, 2, 57, 49, 28, 3, 61, 58, 42, 50, 38, 29, 17, 4, 62, 47, 59, 36, 45, 43, 51, 22, 53, 39, 33, 30, 24, 18, 12, 5, 63, 55, 48, 27, 60, 41, 37, 16, 46, 35, 44, 21, 52, 32, 23, 11, 54, 26, 40, 15, 34, 20, 31, 10, 25, 14, 19, 9, 13, 8, 7, 6]
/-- a world that holds the tables -/
noncomputable def world9 (os : Os) : World :=
  let w0 := World.holding Tryd.prog os ⟨#[], #[], []⟩
  { w0 with heap := ((((w0.heap.modify 0 lay0).modify 1 lay1).modify 2 (ints9 .u64 Lib.pow10Tab)).modify 3 (ints9 .u8 db32)).modify 4 (ints9 .u8 db64) }
end Go.Proofs.YtekjejbcdnghjaaDoor
