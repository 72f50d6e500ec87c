/-
  What a font looks like, and what it is made of (package api's types), as shapes. No condition.
-/
import Derived.Test.YtnpcakeagpbgiaaGreatZAny
set_option linter.unusedVariables false
namespace Go.Proofs.YtnpcakeagpbgiaaGreat
open Go.ChangeShapes Go.WideShapes Go.ChangeAt Go.RowKit

@[reducible] def intS : Shp := .int .i64
@[reducible] def intsS : Shp := .sl intS
@[reducible] def mapS : Shp := .con (.int .i32) (.con intS .nil)
@[reducible] def infoS : Shp := .con intS (.con intS (.con intS (.con intsS .nil)))
@[reducible] def valueS : Shp := .con intS (.con intS (.con intS .nil))
@[reducible] def anchorS : Shp := .con intS (.con intS .nil)
@[reducible] def ligS : Shp := .con intsS (.con intS .nil)
@[reducible] def nestS : Shp := .con intS (.con intS .nil)
@[reducible] def pairS : Shp := .con intS (.con intS (.con valueS (.con valueS .nil)))
@[reducible] def cursS : Shp := .con intS (.con .bool (.con .bool (.con anchorS (.con anchorS .nil))))
@[reducible] def markS : Shp := .con intS (.con intS (.con anchorS .nil))
@[reducible] def spotS : Shp := .con .bool (.con anchorS .nil)
@[reducible] def hostS : Shp := .con intS (.con (.sl (.sl spotS)) .nil)
@[reducible] def subS : Shp := .con intsS (.con (.sl intsS) (.con (.sl (.sl ligS)) (.con (.sl intsS) (.con (.sl intsS) (.con (.sl intsS) (.con (.sl nestS) (.con (.sl valueS) (.con (.sl pairS) (.con (.sl cursS) (.con (.sl markS) (.con (.sl hostS) .nil)))))))))))
@[reducible] def lookS : Shp := .con intS (.con intS (.con intS (.con (.sl subS) .nil)))
@[reducible] def featS : Shp := .con .str (.con intS (.con intsS .nil))
@[reducible] def fontS : Shp := .con intS (.con (.sl infoS) (.con (.sl mapS) (.con (.sl lookS) (.con (.sl featS) (.con (.sl intsS) .nil)))))
theorem fits_font : fits Tryz.prog fontS (.inl 43) = true := by kernel_rfl

/-- a slice's value -/
@[reducible] def Sl.v {α : Type} (x : Sl α) : Value := .slice x.A x.l.length x.c
/-- a font's value -/
@[reducible] def fontV (x : fontS.Dat) : Value := .agg #[.int .i64 x.1, x.2.1.v, x.2.2.1.v, x.2.2.2.1.v, x.2.2.2.2.1.v, x.2.2.2.2.2.1.v]
theorem fontV_row (x : fontS.Dat) : Value.agg (fontS.row x).toArray = fontV x := rfl
/-- a slice of integers lies as one -/
theorem HasN.ints {w : World} {B : Nat} {A : Option Addr} {k : IntKind} {l : List Int} (h : HasN (Shp.int k).lay w B A l) : Has w B A (l.map (Value.int k)) := fun hne => by
  obtain ⟨b, off, e, hb, hc⟩ := h (fun h0 => hne (by rw [h0]; rfl))
  refine ⟨b, off, e, hb, fun i s hs => ?_⟩
  rw [List.getElem?_map, Option.map_eq_some_iff] at hs
  obtain ⟨x, hx, rfl⟩ := hs
  have := hc i x hx 0 _ rfl
  simpa [Shp.lay, Shp.size] using this
end Go.Proofs.YtnpcakeagpbgiaaGreat
