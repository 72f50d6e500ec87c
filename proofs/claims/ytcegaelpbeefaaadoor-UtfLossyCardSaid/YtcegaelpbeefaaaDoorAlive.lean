/-
  Contract of 'alive': the chapter's examples. Bytes as a string. No condition beside the library's tables.
-/
import Derived.Test.YtcegaelpbeefaaaDoorFrom2
import Derived.Test.YtcegaelpbeefaaaDoorSame
import Derived.Laws.BytesArg
import Derived.Laws.BytesString
import Derived.Lib.BufferRead
set_option linter.unusedVariables false
set_option linter.unusedSimpArgs false
namespace Go.Proofs.YtcegaelpbeefaaaDoor
open Go.ChangeShapes Go.WideShapes Go.ChangeAt Go.RowKit

/-- bytes as a string -/
theorem conv_ok (w : World) (A : Option Addr) (c : Nat) (xs : List Int) (h : Has w w.heap.size A (xs.map (Value.int .u8))) (n : Nat) (hn : n = xs.length) (hA : A = none → n = 0) :
    (convert 24 9 (.slice A n c)).run Tryd.prog w = .ok (.string (strOfNums xs)) w := by
  subst hn
  cases A with
  | none =>
    have : xs = [] := List.eq_nil_of_length_eq_zero (hA rfl)
    subst this
    exact Lib.run_convert_nil_bytes (P := Tryd.prog) w 24 9 5 c Tryd.underlying24 Tryd.underlying5 Tryd.underlying9
  | some a =>
    by_cases hne : xs = []
    · subst hne
      show (convert 24 9 (.slice (some a) 0 c)).run Tryd.prog w = _
      rw [run_convert_bytes_string w 24 9 5 (some a) 0 c Tryd.underlying24 Tryd.underlying5 Tryd.underlying9]
      exact run_bytesToString w a 0 c [] (by simpa using run_loadCells_list (P := Tryd.prog) w a [] (fun j v hj => by simp at hj))
    · obtain ⟨b, off, e, hl, hc⟩ := h.getD_cell hne
      injection e with e
      subst e
      exact run_convert_bytes_arg (P := Tryd.prog) w 24 5 Tryd.underlying24 Tryd.underlying5 b off xs.length c xs rfl hc 9 Tryd.underlying9

theorem alive_enc (w : World) : Calls Tryd.prog 10 #[.slice (some ⟨w.heap.size, 0, none⟩) 2 2] (w.alloc (.cells #[.int .i32 228, .int .i32 8364] 21)) fun e w' =>
    ∃ A c, e = .returned (.tuple #[.slice A 5 c, .int .i64 0]) ∧ Has w' w'.heap.size A ([195, 164, 226, 130, 172].map (Value.int .u8)) ∧ Below w.heap.size w w' := by
  refine (encode_ok (some ⟨w.heap.size, 0, none⟩) 2 [228, 8364] _ (by simp) (has_lit w .i32 21 [228, 8364])).mono ?_
  rintro e w' ⟨v, rfl, A, c, rfl, hc, hh, hb⟩
  have e1 : encP [228, 8364] = [195, 164, 226, 130, 172] := by decide +kernel
  have e2 : codeP [228, 8364] = 0 := by decide +kernel
  rw [e1] at hh
  rw [e1, e2]
  exact ⟨A, c, rfl, hh, below_trans ((Below.refl _ _).alloc (Nat.le_refl _) _) hb (by simp)⟩
theorem alive_dec1 (w : World) (hT : Lib.Utf8Tabs 0 1 w) : Calls Tryd.prog 17 #[.slice (some ⟨w.heap.size, 0, none⟩) 3 3] (w.alloc (.cells #[.int .u8 97, .int .u8 192, .int .u8 128] 5)) fun e w' =>
    ∃ A c, e = .returned (.tuple #[.slice A 0 c, .int .i64 1, .int .i64 3]) ∧ Below w.heap.size w w' := by
  have hb0 : Below w.heap.size w (w.alloc (.cells #[.int .u8 97, .int .u8 192, .int .u8 128] 5)) := (Below.refl _ _).alloc (Nat.le_refl _) _
  refine (decode_ok (some ⟨w.heap.size, 0, none⟩) 3 [97, 192, 128] _ (by simp) (by simp) (by intro z hz; simp at hz; omega) (tabs_below hT hb0) (has_lit w .u8 5 [97, 192, 128])).mono ?_
  rintro e w' ⟨v, rfl, A, c, rfl, hc, hh, hb⟩
  have e1 : decP [97, 192, 128] = ([], 1, 3) := by decide +kernel
  rw [e1]
  exact ⟨A, c, rfl, below_trans hb0 hb (by simp)⟩
theorem alive_dec2 (w : World) (hT : Lib.Utf8Tabs 0 1 w) : Calls Tryd.prog 17 #[.slice (some ⟨w.heap.size, 0, none⟩) 3 3] (w.alloc (.cells #[.int .u8 97, .int .u8 226, .int .u8 130] 5)) fun e w' =>
    ∃ A c, e = .returned (.tuple #[.slice A 0 c, .int .i64 1, .int .i64 4]) ∧ Below w.heap.size w w' := by
  have hb0 : Below w.heap.size w (w.alloc (.cells #[.int .u8 97, .int .u8 226, .int .u8 130] 5)) := (Below.refl _ _).alloc (Nat.le_refl _) _
  refine (decode_ok (some ⟨w.heap.size, 0, none⟩) 3 [97, 226, 130] _ (by simp) (by simp) (by intro z hz; simp at hz; omega) (tabs_below hT hb0) (has_lit w .u8 5 [97, 226, 130])).mono ?_
  rintro e w' ⟨v, rfl, A, c, rfl, hc, hh, hb⟩
  have e1 : decP [97, 226, 130] = ([], 1, 4) := by decide +kernel
  rw [e1]
  exact ⟨A, c, rfl, below_trans hb0 hb (by simp)⟩
theorem alive_uni (w : World) : Calls Tryd.prog 12 #[.slice (some ⟨w.heap.size, 0, none⟩) 1 1] (w.alloc (.cells #[.int .i32 128512] 21)) fun e w' =>
    ∃ b off c, e = .returned (.tuple #[.slice (some ⟨b, off, none⟩) 2 c, .int .i64 0]) ∧ w'.cell? ⟨b, off, none⟩ = some (.int .u16 55357) ∧ w'.cell? ⟨b, off + 1, none⟩ = some (.int .u16 56832) ∧ Below w.heap.size w w' := by
  refine (units_ok (some ⟨w.heap.size, 0, none⟩) 1 [128512] _ (by simp) (has_lit w .i32 21 [128512])).mono ?_
  rintro e w' ⟨v, rfl, A, c, rfl, hc, hh, hb⟩
  have e1 : uniP [128512] = [55357, 56832] := by decide +kernel
  have e2 : codeP [128512] = 0 := by decide +kernel
  rw [e1] at hh
  rw [e1, e2]
  obtain ⟨b, off, rfl, hl, hcc⟩ := hh.getD_cell (by simp)
  exact ⟨b, off, c, rfl, hcc 0 (by simp), hcc 1 (by simp), below_trans ((Below.refl _ _).alloc (Nat.le_refl _) _) hb (by simp)⟩
theorem alive_pla (w : World) : Calls Tryd.prog 26 #[.slice (some ⟨w.heap.size, 0, none⟩) 2 2, .int .i64 1] (w.alloc (.cells #[.int .i32 228, .int .i32 97] 21)) fun e w' =>
    e = .returned (.int .i64 0) ∧ Below w.heap.size w w' := by
  refine (place_ok (some ⟨w.heap.size, 0, none⟩) 2 [228, 97] 1 _ (by simp) (by simp) (has_lit w .i32 21 [228, 97])).mono ?_
  rintro e w' ⟨rfl, rfl⟩
  have e1 : plaP [228, 97] 1 = 0 := by decide +kernel
  rw [e1]
  exact ⟨rfl, (Below.refl _ _).alloc (Nat.le_refl _) _⟩

set_option maxRecDepth 100000 in
set_option maxHeartbeats 2000000 in
theorem alive_ok (w : World) (hT : Lib.Utf8Tabs 0 1 w) : Calls Tryd.prog 9 #[] w fun e w' => e = .returned (.bool true) ∧ Below w.heap.size w w' := by
  have HT := Lib.hid hT
  clear hT
  have hS : strOfNums [195, 164, 226, 130, 172] = { data := #[195, 164, 226, 130, 172] } := by rfl
  have HS := Lib.hid hS
  clear hS
  go_enter Tryd.func9, Tryd.ntmps9
  go_wp2_with (first
    | (go_at_call 10; refine (alive_enc _).mono ?_; rintro e w1 ⟨A1, c1, rfl, hh1, hb1⟩)
    | (go_at_call 17; with_reducible refine (alive_dec1 _ (tabs_below HT.out hb1)).mono ?_; rintro e w2 ⟨A2, c2, rfl, hb2⟩)
    | (go_at_call 17; with_reducible refine (alive_dec2 _ (tabs_below (tabs_below HT.out hb1) hb2)).mono ?_; rintro e w3 ⟨A3, c3, rfl, hb3⟩)
    | (go_at_call 12; refine (alive_uni _).mono ?_; rintro e w4 ⟨b4, off4, c4, rfl, k1, k2, hb4⟩; have hcv := conv_ok w4 A1 c1 _ (((hh1.carry hb2).carry hb3).carry hb4) 5 rfl (by rintro rfl; exact absurd (hh1 (by simp)) (by rintro ⟨b, off, e, _⟩; cases e)); rw [HS.out] at hcv)
    | (go_at_call 26; refine (alive_pla _).mono ?_; rintro e w5 ⟨rfl, hb5⟩))
  go_ret
  exact ⟨rfl, below_trans (below_trans (below_trans (below_trans hb1 hb2 hb1.size) hb3 (Nat.le_trans hb1.size hb2.size)) hb4 (Nat.le_trans hb1.size (Nat.le_trans hb2.size hb3.size))) hb5 (Nat.le_trans hb1.size (Nat.le_trans hb2.size (Nat.le_trans hb3.size hb4.size)))⟩
end Go.Proofs.YtcegaelpbeefaaaDoor
