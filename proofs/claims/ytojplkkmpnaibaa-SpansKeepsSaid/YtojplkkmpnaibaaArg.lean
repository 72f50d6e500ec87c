/-
  An argument that is a slice of spans: its rows read as spans. No condition.
-/
import Derived.Test.YtojplkkmpnaibaaSpn
set_option linter.unusedVariables false
namespace Go.Proofs.Ytojplkkmpnaibaa
open Go.ChangeShapes Go.WideShapes Go.ChangeAt Go.RowKit

theorem wf64 {n : Int} (h : (Lit.int .i64 n).wf = true) : -9223372036854775808 ≤ n ∧ n ≤ 9223372036854775807 := by
  simpa [Lit.wf, IntKind.bits, IntKind.signed, IntKind.min, IntKind.max] using h
def toSp (z : List Int) : Sp := ⟨z.getD 0 0, z.getD 1 0, z.getD 2 0⟩
theorem spans_of_rows {w : World} {B : Nat} {A : Option Addr} {z : List (List Int)} (hz : ∀ x ∈ z, x.length = 3 ∧ ∀ y ∈ x, (Lit.int .i64 y).wf = true) (h : HasRows w B A 3 (z.map (·.map (Value.int .i64)))) :
    ∃ l : List Sp, l.length = z.length ∧ HasS w B A l ∧ ∀ s ∈ l, (Lit.int .i64 s.f).wf = true ∧ (Lit.int .i64 s.t).wf = true ∧ (Lit.int .i64 s.v).wf = true := by
  refine ⟨z.map toSp, by simp, fun hne => ?_, fun s hs => ?_⟩
  · obtain ⟨b, off, e, hl, hc⟩ := h (by simpa using hne)
    refine ⟨b, off, e, hl, fun i s hs => ?_⟩
    rw [List.getElem?_map, Option.map_eq_some_iff] at hs
    obtain ⟨x, hx, rfl⟩ := hs
    have hx3 := (hz x (List.mem_of_getElem? hx)).1
    match x, hx3 with
    | [a, b', c], _ =>
      have hr := hc i ([a, b', c].map (Value.int .i64)) (by rw [List.getElem?_map, hx]; rfl)
      exact ⟨hr 0 _ rfl, hr 1 _ rfl, hr 2 _ rfl⟩
  · obtain ⟨x, hx, rfl⟩ := List.mem_map.1 hs
    obtain ⟨hx3, hw⟩ := hz x hx
    match x, hx3, hw with
    | [a, b', c], _, hw => exact ⟨hw a (by simp), hw b' (by simp), hw c (by simp)⟩
end Go.Proofs.Ytojplkkmpnaibaa
