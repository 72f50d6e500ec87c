/-
  Contract: closing an isolate. Condition: at most 1000 entries; as many isolates as are counted.
-/
import Derived.Test.YtjdkpnmejkbkiaaXse
set_option linter.unusedVariables false
set_option linter.unusedSimpArgs false
namespace Go.Proofs.Ytjdkpnmejkbkiaa
open Go.ChangeShapes Go.WideShapes Go.ChangeAt Go.RowKit Go.Sort

theorem split_get (u : List En) (e : En) (w : List En) (p : Nat) (x : En) (he : e.iso = true) (hw : ∀ x ∈ w, x.iso = false) (h1 : u.length ≤ p) (hx : (u ++ e :: w)[p]? = some x) : x.iso = decide (p = u.length) := by
  rw [List.getElem?_append_right h1] at hx
  by_cases h : p = u.length
  · subst h
    rw [Nat.sub_self] at hx
    simp at hx
    subst hx
    simpa using he
  · obtain ⟨q, hq⟩ : ∃ q, p - u.length = q + 1 := ⟨p - u.length - 1, by omega⟩
    rw [hq, List.getElem?_cons_succ] at hx
    rw [hw x (List.mem_of_getElem? hx)]
    simp [h]

end Go.Proofs.Ytjdkpnmejkbkiaa
