/-
  Contracts: slices.Max at integers, the program's Depth. Condition: at most 1000 elements.
-/
import Derived.Test.YtjdkpnmejkbkiaaXsi
import Derived.Test.YtjdkpnmejkbkiaaMinMax
set_option linter.unusedVariables false
set_option linter.unusedSimpArgs false
namespace Go.Proofs.Ytjdkpnmejkbkiaa
open Go.ChangeShapes Go.WideShapes Go.ChangeAt Go.RowKit Go.Sort

def maxI (l : List Int) (k : Nat) : Int := (l.take k).tail.foldl max (l.headD 0)
theorem maxI_one (l : List Int) : maxI l 1 = l.headD 0 := by cases l <;> rfl
theorem maxI_succ (l : List Int) (k : Nat) (h : k < l.length) (h1 : 0 < k) : maxI l (k + 1) = max (maxI l k) l[k] := by
  unfold maxI
  have hne : l.take k ≠ [] := fun e => by
    have := congrArg List.length e
    rw [List.length_take, List.length_nil] at this; omega
  rw [List.take_succ_eq_append_getElem h, List.tail_append_of_ne_nil hne, List.foldl_append]
  rfl
theorem foldl_max (l : List Nat) : ∀ a b : Nat, l.foldl max (max a b) = max a (l.foldl max b) := by
  induction l with
  | nil => intro a b; rfl
  | cons x l ih => intro a b; rw [List.foldl_cons, List.foldl_cons, ← ih]; congr 1; omega
theorem foldl_ints (l : List Nat) : ∀ a : Nat, (l.map Int.ofNat).foldl max (a : Int) = ((l.foldl max a : Nat) : Int) := by
  induction l with
  | nil => intro a; rfl
  | cons x l ih =>
    intro a
    rw [List.map_cons, List.foldl_cons, List.foldl_cons, ← ih]
    congr 1
    show max (a : Int) (x : Int) = ((max a x : Nat) : Int)
    omega
/-- the maximum of the levels with the base behind them -/
theorem maxI_all (l : List Nat) (b : Nat) : maxI (l.map Int.ofNat ++ [(b : Int)]) (l.length + 1) = ((l.foldl max b : Nat) : Int) := by
  unfold maxI
  rw [List.take_of_length_le (by simp)]
  cases l with
  | nil => rfl
  | cons x l =>
    rw [List.map_cons, List.cons_append, List.tail_cons, List.headD_cons, List.foldl_append, List.foldl_cons, List.foldl_nil]
    have := foldl_ints l x
    rw [show Int.ofNat x = (x : Int) from rfl, this, List.foldl_cons, Nat.max_comm b x, Nat.max_comm x b, foldl_max]
    omega

end Go.Proofs.Ytjdkpnmejkbkiaa
