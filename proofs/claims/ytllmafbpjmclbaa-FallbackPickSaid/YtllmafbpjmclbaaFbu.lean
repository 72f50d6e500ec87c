/-
  The program's Needs of layer 23, and the code points of a cluster that need a glyph. Condition: at most 1000000 code points.
-/
import Derived.Test.YtllmafbpjmclbaaFbm
import Derived.Test.YtllmafbpjmclbaaOf
import Derived.Test.YtllmafbpjmclbaaOwn
set_option linter.unusedVariables false
set_option linter.unusedSimpArgs false
namespace Go.Proofs.Ytllmafbpjmclbaa
open Go.ChangeShapes Go.WideShapes Go.ChangeAt Go.RowKit Go.Sort

theorem tab_bidi : tab.all (fun x => decide (x.p.bidi ≤ 23)) = true := by kernel_rfl
theorem bidi_le (r : Int) : (ofP r).bidi ≤ 23 := by
  have h : (findP r).p.bidi ≤ 23 := by
    rcases findP_in r with h | ⟨h, _⟩
    · rw [h]; decide
    · have := List.all_eq_true.1 tab_bidi _ h
      simpa using this
  by_cases hh : 44032 ≤ r ∧ r ≤ 55203 ∧ (r - 44032) % 28 = 0
  · rw [ofP_yes r hh]; exact h
  · rw [ofP_no r hh]; exact h
set_option maxHeartbeats 2000000 in
theorem pneeds_ok (r : Int) (w : World) : Calls Try.prog 6 #[.int .i32 r] w fun e w' => e = .returned (.bool (needsB r)) ∧ Up w w' := by
  have HO := Lib.hid (fun W => of_ok r W)
  have HV : Hid (needsB r = (!((ofP r).cl == 1 || (ofP r).cl == 2 || (ofP r).cl == 3 || (ofP r).cl == 5) && ((ofP r).bidi != 10 && decide ((ofP r).bidi < 15)))) := Lib.hid rfl
  have hle := bidi_le r
  generalize needsB r = V at *
  generalize ofP r = p at *
  obtain ⟨bidi, cl, br, sc, jn, wd, mi, pa, op⟩ := p
  simp only [Pr.v] at HO HV hle
  by_cases h1 : cl = 1 ∨ cl = 2 ∨ cl = 3 ∨ cl = 5
  · have HE : Hid (V = false) := Lib.hid (by rw [HV.out]; rcases h1 with h | h | h | h <;> subst h <;> simp)
    clear HV
    rcases h1 with rfl | rfl | rfl | rfl
    all_goals
      go_enter Try.func6, Try.ntmps6
      go_wp2_with (go_at_call 13; (refine (HO.out _).mono ?_); rintro e w' ⟨rfl, hu⟩)
      go_ret
      exact ⟨by rw [HE.out]; rfl, hu.alloc _⟩
  · have e1 : (cl == 1) = false := by simp; omega
    have e2 : (cl == 2) = false := by simp; omega
    have e3 : (cl == 3) = false := by simp; omega
    have e5 : (cl == 5) = false := by simp; omega
    rw [e1, e2, e3, e5] at HV
    have h23 : ¬ 23 < bidi := by omega
    have hd23 : decide (23 < bidi) = false := decide_eq_false h23
    clear h1 hle
    go_enter Try.func6, Try.ntmps6
    go_wp2_with (go_at_call 13; (refine (HO.out _).mono ?_); rintro e w' ⟨rfl, hu⟩)
    all_goals
      go_ret
      exact ⟨by rw [HV.out]; simp_all, hu.alloc _⟩
end Go.Proofs.Ytllmafbpjmclbaa
