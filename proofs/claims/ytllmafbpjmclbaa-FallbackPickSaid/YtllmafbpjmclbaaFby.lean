/-
  The contract of the statements' many of layer 23: are there too many fonts, or mappings? No condition but the greatest length of a slice.
-/
import Derived.Test.YtllmafbpjmclbaaFbp
set_option linter.unusedVariables false
set_option linter.unusedSimpArgs false
namespace Go.Proofs.Ytllmafbpjmclbaa
open Go.ChangeShapes Go.WideShapes Go.ChangeAt Go.RowKit Go.Sort

/-- are there too many fonts, or mappings? -/
def manyB (F : List fontS.Dat) : Bool := decide (4 < F.length) || F.any (fun x => decide (100 < (mapsOf x).length))
theorem many_no {F : List fontS.Dat} (h : manyB F = false) : F.length ≤ 4 ∧ ∀ x ∈ F, (mapsOf x).length ≤ 1000000 := by
  simp only [manyB, Bool.or_eq_false_iff, decide_eq_false_iff_not, List.any_eq_false, decide_eq_true_eq] at h
  exact ⟨by omega, fun x hx => by have := h.2 x hx; omega⟩
set_option maxHeartbeats 1000000 in
theorem many_ok (A : Option Addr) (c n : Nat) (F : List fontS.Dat) (w : World) (hnl : n = F.length) (hn : n ≤ 9223372036854775807) (h : Lies w w.heap.size (.sl fontS) ⟨A, c, F⟩) :
    Calls Try.prog 10 #[.slice A n c] w fun e w' => e = .returned (.bool (manyB F)) ∧ Up w w' := by
  by_cases h4 : 4 < n
  · have e1 : manyB F = true := by simp [manyB, ← hnl, h4]
    rw [e1]
    clear e1 h
    go_enter Try.func10, Try.ntmps10
    go_wp2
    go_ret
    exact ⟨rfl, Up.refl _⟩
  · have HV : Hid (manyB F = F.any (fun x => decide (100 < (mapsOf x).length))) := Lib.hid (by simp [manyB, ← hnl, h4])
    generalize manyB F = V at *
    have HF := Lib.hid (fun k (hk : k < F.length) => font_at h k hk)
    have HLen : Hid (n = F.length) := Lib.hid hnl
    have HW : Hid (∀ x ∈ F, (mapsOf x).length ≤ 9223372036854775807) := Lib.hid (fun x hx => (h.2.2 x hx).2.2.1.1.1)
    clear h hnl
    go_enter Try.func10, Try.ntmps10
    go_wp2
    go_loopw [3] (fun i wr => ∃ k : Nat, k ≤ n ∧ i = .int .i64 k ∧ Hid (∀ j (hj : j < F.length), j < k → (mapsOf F[j]).length ≤ 100) ∧ wr = w) (fun i _ => n - (intOf i).toNat)
    case atStart => exact ⟨0, by omega, rfl, Lib.hid (fun j hj h0 => absurd h0 (by omega)), rfl⟩
    case round =>
      obtain ⟨k, hk, rfl, HN, rfl⟩ := hrel
      by_cases hlt : k < n
      · have hlt1 : k < F.length := by rw [← HLen.out]; exact hlt
        obtain ⟨b, off, v0, v1, v3, v4, v5, A', c', rfl, hb, ⟨k0, k1, k2, k3, k4, k5⟩, kv, kh⟩ := HF.out k hlt1
        have HS : Hid ((mapsOf F[k]).length ≤ 100 → ∀ j (hj : j < F.length), j < k + 1 → (mapsOf F[j]).length ≤ 100) := Lib.hid (fun h j hj hjk => by
          by_cases he : j = k
          · subst he; exact h
          · exact HN.out j hj (by omega))
        have HY : Hid (100 < (mapsOf F[k]).length → V = true) := Lib.hid (fun h => by
          rw [HV.out, List.any_eq_true]
          exact ⟨_, List.getElem_mem hlt1, decide_eq_true h⟩)
        have hlw := HW.out _ (List.getElem_mem hlt1)
        generalize (mapsOf F[k]).length = q at *
        clear k0 k1 k3 k4 k5 kv kh hlt1 HN HF
        by_cases hq : 100 < q
        · have HE := Lib.hid (HY.out hq)
          clear HY HS
          go_wp2
          go_ret
          exact ⟨by rw [HE.out]; rfl, Up.refl _⟩
        · have HE := Lib.hid (HS.out (by omega))
          clear HY HS
          go_wp2
          go_roundw
          case rel => exact ⟨k + 1, by omega, by go_num, HE, by trivial⟩
          case measure => simp [intOf]; omega
      · obtain rfl : k = n := by omega
        have HE : Hid (V = false) := Lib.hid (by
          rw [HV.out, List.any_eq_false]
          intro x hx
          obtain ⟨j, hj, rfl⟩ := List.getElem_of_mem hx
          have := HN.out j hj (by rw [HLen.out]; exact hj)
          simp; exact this)
        go_wp2
        go_ret
        exact ⟨by rw [HE.out]; rfl, Up.refl _⟩
end Go.Proofs.Ytllmafbpjmclbaa
