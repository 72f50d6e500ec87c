/-
  A slice from a place on, and up to a place, reads as that part of the list. No condition.
-/
import Derived.Test.YtcplhbafbjpnlaaStep
set_option linter.unusedVariables false
namespace Go.Proofs.Ytcplhbafbjpnlaa
open Go.ChangeShapes Go.WideShapes Go.ChangeAt Go.RowKit

theorem cls_drop (zs : List Int) (k : Nat) : cls (zs.drop k) = (cls zs).drop k := by unfold cls; rw [List.map_drop]
/-- a slice from a place on reads as what is left -/
theorem Has.drop {w : World} {B b off : Nat} {xs : List Value} (h : Has w B (some ⟨b, off, none⟩) xs) (k : Nat) : Has w B (some ⟨b, off + k, none⟩) (xs.drop k) := fun hne => by
  obtain ⟨b', off', e, hl, hc⟩ := h (fun e => hne (by rw [e]; simp))
  injection e with e; injection e with e1 e2; subst e1; subst e2
  refine ⟨b, off + k, rfl, hl, fun j u hu => ?_⟩
  rw [List.getElem?_drop] at hu
  have := hc (k + j) u hu
  rwa [show off + (k + j) = off + k + j by omega] at this
theorem Has.front {w : World} {B : Nat} {A : Option Addr} {xs : List Value} (h : Has w B A xs) (k : Nat) : Has w B A (xs.take k) := fun hne => by
  obtain ⟨b, off, e, hl, hc⟩ := h (fun e => hne (by rw [e]; simp))
  refine ⟨b, off, e, hl, fun j u hu => hc j u ?_⟩
  rw [List.getElem?_take] at hu
  split at hu
  · exact hu
  · cases hu
end Go.Proofs.Ytcplhbafbjpnlaa
