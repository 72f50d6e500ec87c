/-
  What the statement BaseHides makes: a front part of the classes, the classes that may lie between, the rest; append of a whole slice of integers to a slice of the call's own. No condition.
-/
import Derived.Test.YtneiifjihgbacaaRmb
import Derived.Laws.AppendOwnNone
set_option linter.unusedVariables false
set_option linter.unusedSimpArgs false
namespace Go.Proofs.Ytneiifjihgbacaa
open Go.ChangeShapes Go.WideShapes Go.ChangeAt Go.RowKit

/-- append of a slice that came in to a slice of the call's own -/
theorem wpList_pushall {P : Program} {ops : Array Oper} {rest : List Oper} {o : Oper} {a : Act} {Q : Exit → Act → World → Prop} {k : IntKind} {e : TypeId} {bytes : Nat} (hgd : o.guard = none) (s x : Operand) (t : TypeId)
    (ho : o.op = .call { callee := .builtin .append, args := #[s, x], argTypes := #[t, t] })
    (ht : P.underlying t = some (.slice e)) (hi : (P.info? e).map (fun i => (i.zero, i.size, i.bytes)) = some (some (.int k 0), 1, bytes)) (hby : bytes ≤ 64)
    (B : Nat) (v : Value) (xs ys : List Int) (W0 wr : World) (A : Option Addr) (n c : Nat) (hnc : n = ys.length) (hA : A = none → c = 0) (hh : Has wr wr.heap.size A (ys.map (Value.int k))) (hown : Mine k e wr B v xs) (hs : a.eval s = v) (hx : a.eval x = .slice A n c)
    (hbl : Below B W0 wr) (hB : B ≤ wr.heap.size) (hn : xs.length ≤ 1000000) (hm : ys.length ≤ 1000000)
    (h : ∀ v' w', Mine k e w' B v' (xs ++ ys) → Below B W0 w' → Below B wr w' → wpList P ops Q rest (a.put o.dst v') w') : wpList P ops Q (o :: rest) a wr := by
  subst hnc
  obtain ⟨i0, hi', hz0, hz1, hz2⟩ := info_parts hi
  cases A with
  | none =>
    have hc := hA rfl
    subst hc
    have hy : ys = [] := by
      rcases ys with _ | ⟨y, ys⟩
      · rfl
      · exfalso
        obtain ⟨b, off, e1, _⟩ := hh (by simp)
        cases e1
    subst hy
    refine wpList_append_own_none hgd s x t ho B e i0 1 ht hi' v xs.length _ hs hown hx ?_
    exact h v wr (by rw [List.append_nil]; exact hown) hbl (Below.refl _ _)
  | some ad =>
    have hb : (xs.length + ys.length) * bytes ≤ 140737488355328 := by
      have : (xs.length + ys.length) * bytes ≤ 2000000 * 64 := Nat.mul_le_mul (by omega) hby
      omega
    refine wpList_append_own (P := P) _ hgd s x t ho B e i0 (.int k 0) 1 bytes ht hi' hz0 hz1 hz2 rfl (by decide) v xs.length _ hs hown ad ys.length c (ys.map (Value.int k)) hx (by simp) ?_
      (by intro u hu; rw [List.mem_map] at hu; obtain ⟨z, _, rfl⟩ := hu; rfl)
      (by unfold maxLen; omega) hb hB fun v' w1 h1 hg _ => ?_
    · intro j u hj
      obtain ⟨b, off, e1, _, hc⟩ := hh (by intro h0; rw [h0] at hj; simp at hj)
      injection e1 with e1
      subst e1
      rw [add_plain]
      exact hc j u hj
    · have hg2 : Below B wr w1 := (Below.refl _ _).grown hg hB fun j hj => (World.ownsRow.lt hown j hj).1
      exact h v' w1 (by unfold Mine; simpa using h1) (hbl.trans hg2) hg2


theorem mine_empty (w : World) (B : Nat) (hB : B ≤ w.heap.size) : Mine .i64 3 (w.alloc (.cells #[] 3)) B (.slice (some ⟨w.heap.size, 0, none⟩) 0 0) [] :=
  World.ownsRow_made w #[] 0 hB (Nat.zero_le _) (by simp)
/-- the classes that may lie between an initiator and its PDI -/
def betw (c : Int) : Bool := c != 11 && (c != 20 && (c != 21 && (c != 22 && c != 23)))
theorem betw_is (c : Int) (h : betw c = true) : c ≠ 11 ∧ opnC c = false ∧ c ≠ 23 := by
  unfold betw at h
  simp only [Bool.and_eq_true, bne_iff_ne] at h
  obtain ⟨h1, h2, h3, h4, h5⟩ := h
  refine ⟨h1, ?_, h5⟩
  unfold opnC
  simp [h2, h3, h4]
def betwL (l : List Int) : List Int := l.filter betw
theorem betw_snoc (l : List Int) (k : Nat) (c : Int) (h : l[k]? = some c) : betwL (l.take (k + 1)) = betwL (l.take k) ++ (if betw c = true then [c] else []) := by
  unfold betwL
  rw [List.take_add_one, h, List.filter_append]
  congr 1
  simp [List.filter_cons]
theorem betw_len (l : List Int) : (betwL l).length ≤ l.length := List.length_filter_le _ _
/-- the classes with others put between -/
def hideL (cs more : List Int) (i k : Nat) : List Int := cs.take (i + 1) ++ betwL more ++ cs.drop k
theorem hide_fst (cs more : List Int) (i k : Nat) (hi : i < cs.length) (hm : (matL cs).getD i 0 = (k : Int)) (hik : i < k) : fst0 0 (hideL cs more i k) = fst0 0 cs :=
  (fst_hides cs (betwL more) i k hi hm hik (fun c hc => betw_is c (List.mem_filter.1 hc).2)).symm
theorem hide_len (cs more : List Int) (i k : Nat) : (hideL cs more i k).length ≤ cs.length + more.length + cs.length := by
  unfold hideL
  have := betw_len more
  simp only [List.length_append, List.length_take, List.length_drop]
  omega
theorem mat_some (cs : List Int) (i : Nat) (hi : i < cs.length) : (matL cs).getD i 0 = -1 ∨ ∃ k : Nat, (matL cs).getD i 0 = (k : Int) ∧ k < cs.length := by
  rcases (inv_mat cs cs.length).vals i hi with h | ⟨k, h1, h2, _⟩
  · exact .inl h
  · exact .inr ⟨k, h1, h2⟩
theorem getDH {l : List Int} {k : Nat} (h : k < l.length) : l.getD k 0 = l[k] := by
  rw [List.getD_eq_getElem?_getD, List.getElem?_eq_getElem h]; rfl
end Go.Proofs.Ytneiifjihgbacaa
