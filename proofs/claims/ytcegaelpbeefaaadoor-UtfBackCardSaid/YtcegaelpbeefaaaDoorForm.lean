/-
  Contract of the document's Form: the bytes of a right rune. No condition.
-/
import Derived.Test.YtcegaelpbeefaaaDoorGives
set_option linter.unusedVariables false
namespace Go.Proofs.YtcegaelpbeefaaaDoor
open Go.ChangeShapes Go.WideShapes Go.ChangeAt Go.RowKit

set_option maxHeartbeats 1000000 in
theorem form_ok (r : Int) (w : World) (hv : Lib.validRune r = true) :
    Calls Tryd.prog 29 #[.int .i32 r] w fun e w' => SliceOf .u8 w w' e (Lib.encodeRuneZ r) := by
  have h := of_decide_eq_true hv
  have h0 : 0 ≤ r := by omega
  have h1 : r ≤ 1114111 := by omega
  have HV := Lib.hid h
  clear hv h
  by_cases k1 : r < 128
  · have e1 : Lib.encodeRuneZ r = [r] := by unfold Lib.encodeRuneZ; rw [if_pos (by omega)]
    rw [e1]
    clear e1
    go_enter Tryd.func29, Tryd.ntmps29
    go_wp2
    go_ret
    exact ⟨_, rfl, sliceV_lit w .u8 5 [r] _ rfl _ rfl⟩
  by_cases k2 : r < 2048
  · have e1 := Lib.encodeRuneZ_two (r := r) (by omega) (by omega)
    rw [e1]
    clear e1
    go_enter Tryd.func29, Tryd.ntmps29
    go_wp2
    go_ret
    exact ⟨_, rfl, sliceV_lit w .u8 5 [_, _] _ rfl _ rfl⟩
  by_cases k3 : r < 65536
  · have e1 := Lib.encodeRuneZ_three (r := r) (by have := HV.out; omega)
    rw [e1]
    clear e1
    go_enter Tryd.func29, Tryd.ntmps29
    go_wp2
    go_ret
    exact ⟨_, rfl, sliceV_lit w .u8 5 [_, _, _] _ rfl _ rfl⟩
  · have e1 := Lib.encodeRuneZ_four (r := r) (by omega) (by omega)
    rw [e1]
    clear e1
    go_enter Tryd.func29, Tryd.ntmps29
    go_wp2
    go_ret
    exact ⟨_, rfl, sliceV_lit w .u8 5 [_, _, _, _] _ rfl _ rfl⟩
end Go.Proofs.YtcegaelpbeefaaaDoor
