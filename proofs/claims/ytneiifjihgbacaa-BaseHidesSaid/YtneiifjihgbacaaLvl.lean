/-
  Contracts of Level, the program's and the document's. Condition: at most 1000 classes.
-/
import Derived.Test.YtneiifjihgbacaaRfst
set_option linter.unusedVariables false
set_option linter.unusedSimpArgs false
namespace Go.Proofs.Ytneiifjihgbacaa
open Go.ChangeShapes Go.WideShapes Go.ChangeAt Go.RowKit

/-- the level that a first strong class gives, and whether there is one -/
def lvl0 (r : Int) : Int := if r = 2 ∨ r = 3 then 1 else 0
def lvlV (cs : List Int) : Value := .tuple #[.int .i64 (lvl0 (fst0 0 cs)), .bool (strC (fst0 0 cs))]
theorem fst_four (d : Nat) (l : List Int) : fst0 d l = 0 ∨ fst0 d l = 1 ∨ fst0 d l = 2 ∨ fst0 d l = 3 := by
  rcases fst_or d l with h | h
  · exact .inl h
  · unfold strC at h
    simp only [Bool.or_eq_true, beq_iff_eq] at h
    omega
theorem firstV_full (cs : List Int) (n : Nat) (hn : n = cs.length) : firstV cs 0 n = fst0 0 cs := by subst hn; exact firstV_all cs

set_option maxRecDepth 20000 in
set_option maxHeartbeats 4000000 in
theorem level_ok (A : Option Addr) (n c : Nat) (cs : List Int) (w : World) (hn : n = cs.length) (hmax : n ≤ 1000) (h : Has w w.heap.size A (cs.map (Value.int .i64))) :
    Calls Try.prog 14 #[.slice A n c] w fun e w' => e = .returned (lvlV cs) ∧ w = w' := by
  have HF := first_ok A n c cs 0 n w hn hmax h
  rw [firstV_full cs n hn] at HF
  have HF2 := Lib.hid HF
  have HV : Hid (lvlV cs = .tuple #[.int .i64 (lvl0 (fst0 0 cs)), .bool (strC (fst0 0 cs))]) := Lib.hid rfl
  have h4 := fst_four 0 cs
  generalize fst0 0 cs = R at *
  clear hn h HF
  rcases h4 with rfl | rfl | rfl | rfl
  all_goals
    go_enter Try.func14, Try.ntmps14
    go_wp2_with (go_at_call 16; (with_reducible refine HF2.out.mono ?_); rintro e u ⟨rfl, rfl⟩)
    go_ret2
    exact ⟨by rw [HV.out]; rfl, rfl⟩

set_option maxRecDepth 20000 in
set_option maxHeartbeats 4000000 in
theorem rlevel_ok (A : Option Addr) (n c : Nat) (cs : List Int) (w : World) (hn : n = cs.length) (hc : n ≤ c) (hmax : n ≤ 1000) (h : Has w w.heap.size A (cs.map (Value.int .i64))) :
    Calls Try.prog 15 #[.slice A n c] w fun e w' => e = .returned (lvlV cs) ∧ Below w.heap.size w w' := by
  have HF := rfirst_ok A n c cs 0 n w hn hc hmax h
  rw [firstV_full cs n hn] at HF
  have HF2 := Lib.hid HF
  have HV : Hid (lvlV cs = .tuple #[.int .i64 (lvl0 (fst0 0 cs)), .bool (strC (fst0 0 cs))]) := Lib.hid rfl
  have h4 := fst_four 0 cs
  generalize fst0 0 cs = R at *
  clear hn h HF hc
  rcases h4 with rfl | rfl | rfl | rfl
  all_goals
    go_enter Try.func15, Try.ntmps15
    go_wp2_with (go_at_call 17; (with_reducible refine HF2.out.mono ?_); rintro e u ⟨rfl, hbu⟩)
    go_ret2
    exact ⟨by rw [HV.out]; rfl, hbu⟩
end Go.Proofs.Ytneiifjihgbacaa
