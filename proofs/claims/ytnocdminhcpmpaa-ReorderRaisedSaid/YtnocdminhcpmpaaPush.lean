/-
  Append of a whole slice of integers to a slice of the call's own. No condition.
-/
import Derived.Test.YtnocdminhcpmpaaGives
import Derived.Laws.AppendOwnNone
set_option linter.unusedVariables false
namespace Go.Proofs.Ytnocdminhcpmpaa
open Go.ChangeShapes Go.WideShapes Go.ChangeAt Go.RowKit

theorem Try.full21 : (Try.prog.info? 21).map (fun i => (i.zero, i.size, i.bytes)) = some (some (.int .i32 0), 1, 4) := by kernel_rfl

/-- append of a slice that came in to a slice of the call's own -/
theorem wpList_pushall {P : Program} {ops : Array Oper} {rest : List Oper} {o : Oper} {a : Act} {Q : Exit → Act → World → Prop} {k : IntKind} {e : TypeId} {bytes : Nat} (hgd : o.guard = none) (s x : Operand) (t : TypeId)
    (ho : o.op = .call { callee := .builtin .append, args := #[s, x], argTypes := #[t, t] })
    (ht : P.underlying t = some (.slice e)) (hi : (P.info? e).map (fun i => (i.zero, i.size, i.bytes)) = some (some (.int k 0), 1, bytes)) (hby : bytes ≤ 64)
    (B : Nat) (v : Value) (xs ys : List Int) (W0 wr : World) (A : Option Addr) (n c : Nat) (hnc : n = ys.length) (hA : A = none → c = 0) (hh : Has wr wr.heap.size A (ys.map (Value.int k))) (hown : Mine k e wr B v xs) (hs : a.eval s = v) (hx : a.eval x = .slice A n c)
    (hbl : Below B W0 wr) (hB : B ≤ wr.heap.size) (hn : xs.length ≤ 1000000) (hm : ys.length ≤ 1000000)
    (h : ∀ v' w', Mine k e w' B v' (xs ++ ys) → Below B W0 w' → Below B wr w' → wpList P ops Q rest (a.put o.dst v') w') : wpList P ops Q (o :: rest) a wr := by
  subst hnc
  obtain ⟨i0, hi', hz0, hz1, hz2⟩ := info_parts hi
  cases A with
  | none =>
    have hc := hA rfl
    subst hc
    have hy : ys = [] := by
      rcases ys with _ | ⟨y, ys⟩
      · rfl
      · exfalso
        obtain ⟨b, off, e1, _⟩ := hh (by simp)
        cases e1
    subst hy
    refine wpList_append_own_none hgd s x t ho B e i0 1 ht hi' v xs.length _ hs hown hx ?_
    exact h v wr (by rw [List.append_nil]; exact hown) hbl (Below.refl _ _)
  | some ad =>
    have hb : (xs.length + ys.length) * bytes ≤ 140737488355328 := by
      have : (xs.length + ys.length) * bytes ≤ 2000000 * 64 := Nat.mul_le_mul (by omega) hby
      omega
    refine wpList_append_own (P := P) _ hgd s x t ho B e i0 (.int k 0) 1 bytes ht hi' hz0 hz1 hz2 rfl (by decide) v xs.length _ hs hown ad ys.length c (ys.map (Value.int k)) hx (by simp) ?_
      (by intro u hu; rw [List.mem_map] at hu; obtain ⟨z, _, rfl⟩ := hu; rfl)
      (by unfold maxLen; omega) hb hB fun v' w1 h1 hg _ => ?_
    · intro j u hj
      obtain ⟨b, off, e1, _, hc⟩ := hh (by intro h0; rw [h0] at hj; simp at hj)
      injection e1 with e1
      subst e1
      rw [add_plain]
      exact hc j u hj
    · have hg2 : Below B wr w1 := (Below.refl _ _).grown hg hB fun j hj => (World.ownsRow.lt hown j hj).1
      exact h v' w1 (by unfold Mine; simpa using h1) (hbl.trans hg2) hg2

end Go.Proofs.Ytnocdminhcpmpaa
