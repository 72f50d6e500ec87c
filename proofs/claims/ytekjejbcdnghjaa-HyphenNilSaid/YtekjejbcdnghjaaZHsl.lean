/-
  Parts of slices: where they begin, what they read as. No condition.
-/
import Derived.Test.YtekjejbcdnghjaaZOwn
import Derived.Test.YtekjejbcdnghjaaZa
set_option linter.unusedVariables false
set_option linter.unusedSimpArgs false
namespace Go.Proofs.Ytekjejbcdnghjaa
open Go.ChangeShapes Go.WideShapes Go.ChangeAt Go.RowKit Go.Sort

theorem Has.add {w : World} {B : Nat} {A : Option Addr} {xs : List Value} (h : Has w B A xs) (k : Nat) : Has w B (A.map (·.add (k * 1))) (xs.drop k) := fun hne => by
  obtain ⟨b, off, e, hl, hc⟩ := h (fun e => hne (by rw [e]; simp))
  subst e
  refine ⟨b, off + k, by simp [Addr.add], hl, fun j u hu => ?_⟩
  rw [List.getElem?_drop] at hu
  have := hc (k + j) u hu
  rwa [show off + (k + j) = off + k + j by omega] at this
/-- where a part of a slice begins -/
def subA (A : Option Addr) (c a : Nat) : Option Addr := if c = a then A else A.map (·.add (a * 1))
theorem Has.sub {w : World} {B : Nat} {A : Option Addr} {xs : List Value} (h : Has w B A xs) (a c : Nat) (hc : xs.length ≤ c) : Has w B (subA A c a) (xs.drop a) := by
  unfold subA
  split
  · rename_i e
    rw [List.drop_eq_nil_of_le (by omega)]
    exact Has.nil_
  · exact h.add a
theorem Has.front' {w : World} {B : Nat} {A : Option Addr} {xs : List Value} (h : Has w B A xs) (k : Nat) : Has w B A (xs.take k) := fun hne => by
  obtain ⟨b, off, e, hl, hc⟩ := h (fun e => hne (by rw [e]; simp))
  refine ⟨b, off, e, hl, fun j u hu => hc j u ?_⟩
  rw [List.getElem?_take] at hu
  split at hu
  · exact hu
  · cases hu
theorem rs_lo (A : Option Addr) (n c a : Nat) (x : Int) (hx : x = (a : Int)) (ha : a ≤ n) (W : World) :
    (Instr.slice 22 (.slice A n c) (some (.int .i64 x)) none none).run Try.prog W = .ok (.slice (subA A c a) (n - a) (c - a)) W := by
  subst hx
  rw [run_slice_l (P := Try.prog) W 22 A n c (by kernel_rfl) .i64 a (by omega) (by omega)]
  have hs : (sizeOf (Try.prog.elem 22)).run Try.prog W = .ok 1 W := by kernel_rfl
  rw [hs]
  simp [Result.andThen, sliced, subA]
theorem rs_hi (A : Option Addr) (n c b : Nat) (x : Int) (hx : x = (b : Int)) (hb : b ≤ c) (hc : 0 < c) (W : World) :
    (Instr.slice 22 (.slice A n c) none (some (.int .i64 x)) none).run Try.prog W = .ok (.slice A b c) W := by
  subst hx
  rw [run_slice_h (P := Try.prog) W 22 A n c (by kernel_rfl) .i64 b (by omega) (by omega)]
  have hs : (sizeOf (Try.prog.elem 22)).run Try.prog W = .ok 1 W := by kernel_rfl
  rw [hs]
  cases A <;> simp [Result.andThen, sliced, Addr.add]
theorem rs_lh (A : Option Addr) (n c a b : Nat) (x y : Int) (hx : x = (a : Int)) (hy : y = (b : Int)) (hab : a ≤ b) (hb : b ≤ c) (W : World) :
    (Instr.slice 22 (.slice A n c) (some (.int .i64 x)) (some (.int .i64 y)) none).run Try.prog W = .ok (.slice (subA A c a) (b - a) (c - a)) W := by
  subst hx hy
  rw [run_slice_lh (P := Try.prog) W 22 A n c (by kernel_rfl) .i64 .i64 a b (by omega) (by omega) (by omega)]
  have hs : (sizeOf (Try.prog.elem 22)).run Try.prog W = .ok 1 W := by kernel_rfl
  rw [hs]
  simp [Result.andThen, sliced, subA]
theorem is_lo (A : Option Addr) (n c a : Nat) (x : Int) (hx : x = (a : Int)) (ha : a ≤ n) (W : World) :
    (Instr.slice 25 (.slice A n c) (some (.int .i64 x)) none none).run Try.prog W = .ok (.slice (subA A c a) (n - a) (c - a)) W := by
  subst hx
  rw [run_slice_l (P := Try.prog) W 25 A n c (by kernel_rfl) .i64 a (by omega) (by omega)]
  have hs : (sizeOf (Try.prog.elem 25)).run Try.prog W = .ok 1 W := by kernel_rfl
  rw [hs]
  simp [Result.andThen, sliced, subA]
theorem is_hi (A : Option Addr) (n c b : Nat) (x : Int) (hx : x = (b : Int)) (hb : b ≤ c) (hc : 0 < c) (W : World) :
    (Instr.slice 25 (.slice A n c) none (some (.int .i64 x)) none).run Try.prog W = .ok (.slice A b c) W := by
  subst hx
  rw [run_slice_h (P := Try.prog) W 25 A n c (by kernel_rfl) .i64 b (by omega) (by omega)]
  have hs : (sizeOf (Try.prog.elem 25)).run Try.prog W = .ok 1 W := by kernel_rfl
  rw [hs]
  cases A <;> simp [Result.andThen, sliced, Addr.add]
theorem is_lh (A : Option Addr) (n c a b : Nat) (x y : Int) (hx : x = (a : Int)) (hy : y = (b : Int)) (hab : a ≤ b) (hb : b ≤ c) (W : World) :
    (Instr.slice 25 (.slice A n c) (some (.int .i64 x)) (some (.int .i64 y)) none).run Try.prog W = .ok (.slice (subA A c a) (b - a) (c - a)) W := by
  subst hx hy
  rw [run_slice_lh (P := Try.prog) W 25 A n c (by kernel_rfl) .i64 .i64 a b (by omega) (by omega) (by omega)]
  have hs : (sizeOf (Try.prog.elem 25)).run Try.prog W = .ok 1 W := by kernel_rfl
  rw [hs]
  simp [Result.andThen, sliced, subA]

end Go.Proofs.Ytekjejbcdnghjaa
