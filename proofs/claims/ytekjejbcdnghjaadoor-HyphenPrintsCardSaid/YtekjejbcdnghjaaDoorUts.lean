/-
  The comparison of two lists of runes, the document's. No condition.
-/
import Derived.Test.YtekjejbcdnghjaaDoorGives
import Derived.Deep.QuietTactic
import Derived.BigQuiet
set_option linter.unusedVariables false
set_option linter.unusedSimpArgs false
namespace Go.Proofs.YtekjejbcdnghjaaDoor
open Go.ChangeShapes Go.WideShapes Go.ChangeAt Go.RowKit
theorem take_eq (xs ys : List Int) (k : Nat) (h1 : k < xs.length) (h2 : k < ys.length) (h : xs.take k = ys.take k) (he : xs[k] = ys[k]) : xs.take (k + 1) = ys.take (k + 1) := by
  rw [List.take_add_one, List.take_add_one, List.getElem?_eq_getElem h1, List.getElem?_eq_getElem h2, h, he]
theorem ne_at (xs ys : List Int) (k : Nat) (h1 : k < xs.length) (h2 : k < ys.length) (he : xs[k] ≠ ys[k]) : decide (xs = ys) = false := by
  apply decide_eq_false
  intro h
  subst h
  exact he rfl
set_option maxHeartbeats 1000000 in
theorem sames_ok (A B : Option Addr) (c d : Nat) (xs ys : List Int) (w : World) (hn : xs.length ≤ 1000000000) (hm : ys.length ≤ 1000000000) (h1 : Has w w.heap.size A (xs.map (Value.int .i32))) (h2 : Has w w.heap.size B (ys.map (Value.int .i32))) :
    Calls Tryd.prog 11 #[.slice A xs.length c, .slice B ys.length d] w fun e w' => e = .returned (.bool (decide (xs = ys))) ∧ Below w.heap.size w w' := by
  by_cases hl : xs.length = ys.length
  · obtain ⟨V, hV⟩ : ∃ V, decide (xs = ys) = V := ⟨_, rfl⟩
    rw [hV]
    have HV := Lib.hid hV
    have HL := Lib.hid hl
    clear hV
    rw [← hl]
    clear hl
    go_enter Tryd.func11, Tryd.ntmps11
    go_wp2
    go_loopw [5] (fun i wr => ∃ k : Nat, k ≤ xs.length ∧ i = .int .i64 k ∧ Hid (xs.take k = ys.take k) ∧ ∃ q, wr = w.drewN q) (fun i _ => xs.length - (intOf i).toNat)
    case atStart => exact ⟨0, by omega, rfl, Lib.hid rfl, 0, rfl⟩
    case round =>
      obtain ⟨k, hk, rfl, HT, q, rfl⟩ := hrel
      by_cases hlt : k < xs.length
      · have hlt2 : k < ys.length := by rw [← HL.out]; exact hlt
        obtain ⟨b, off, rfl, hb, hc⟩ := h1.at_int hlt
        obtain ⟨b2, off2, rfl, hb2, hc2⟩ := h2.at_int hlt2
        obtain ⟨X, hX⟩ : ∃ X, xs[k] = X := ⟨_, rfl⟩
        obtain ⟨Y, hY⟩ : ∃ Y, ys[k] = Y := ⟨_, rfl⟩
        rw [hX] at hc
        rw [hY] at hc2
        have HX := Lib.hid hX
        have HY := Lib.hid hY
        clear hX hY h1 h2
        by_cases hxy : X = Y
        · have HTn := Lib.hid (take_eq xs ys k hlt (by rw [← HL.out]; exact hlt) HT.out (by rw [HX.out, HY.out]; exact hxy))
          subst hxy
          go_wp2
          go_quiet (fail)
          go_wp2
          go_roundw
          case rel => exact ⟨k + 1, by omega, by go_num, HTn, _, rfl⟩
          case measure => simp [intOf]; omega
        · have HF := Lib.hid (ne_at xs ys k hlt (by rw [← HL.out]; exact hlt) (by rw [HX.out, HY.out]; exact hxy))
          go_wp2
          go_quiet (fail)
          go_wp2
          go_ret
          exact ⟨by rw [← HV.out, HF.out]; rfl, below_drewN (below_drewN (Below.refl _ _) _) _⟩
      · obtain rfl : k = xs.length := by omega
        have HE : Hid (V = true) := Lib.hid (by
          have := HT.out
          rw [List.take_length, HL.out, List.take_length] at this
          rw [← HV.out, this]; simp)
        go_wp2
        go_ret
        exact ⟨by rw [HE.out]; rfl, below_drewN (Below.refl _ _) _⟩
  · have e : decide (xs = ys) = false := decide_eq_false (fun h => hl (by rw [h]))
    rw [e]
    clear e
    have hl2 : ¬ ((xs.length : Int) = ys.length) := by omega
    clear hl
    go_enter Tryd.func11, Tryd.ntmps11
    go_wp2
    go_ret
    exact ⟨rfl, Below.refl _ _⟩
end Go.Proofs.YtekjejbcdnghjaaDoor
