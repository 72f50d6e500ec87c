/-
  An array of rows built and indexed where it stands: what 'build' and 'index' do at a table's row.
-/
import Derived.Test.YtnpcakeagpbgiaaGreatBase
set_option linter.unusedVariables false
namespace Go.Proofs.YtnpcakeagpbgiaaGreat
open Go.ChangeShapes Go.WideShapes Go.ChangeAt Go.RowKit Go.Sort

def Rw.cs (x : Rw) : List Value := [.int .i32 x.f, .int .i32 x.t, .int .i64 x.p.bidi, .int .i64 x.p.cl, .int .i64 x.p.br, .int .i64 x.p.sc, .int .i64 x.p.jn, .int .i64 x.p.wd, .int .i32 x.p.mi, .int .i32 x.p.pa, .bool x.p.op]
def flat (l : List Rw) : Array Value := (l.flatMap Rw.cs).toArray
theorem flat_len : ∀ l : List Rw, (l.flatMap Rw.cs).length = l.length * 11
  | [] => rfl
  | x :: l => by rw [List.flatMap_cons, List.length_append, flat_len l, List.length_cons]; show 11 + l.length * 11 = _; omega
theorem flat_at : ∀ (l : List Rw) (k : Nat) (h : k < l.length), ((l.flatMap Rw.cs).drop (k * 11)).take 11 = Rw.cs (l.getD k Rw.none)
  | x :: l, 0, h => by
    rw [List.flatMap_cons, Nat.zero_mul, List.drop_zero]
    rfl
  | x :: l, k + 1, h => by
    rw [List.flatMap_cons, show (k + 1) * 11 = 11 + k * 11 by omega, ← List.drop_drop]
    have e : (Rw.cs x ++ l.flatMap Rw.cs).drop 11 = l.flatMap Rw.cs := rfl
    rw [e, flat_at l k (by simpa using h)]
    rfl
theorem flat_extract (l : List Rw) (k : Nat) (h : k < l.length) : (flat l).extract (k * 11) (k * 11 + 11) = (Rw.cs (l.getD k Rw.none)).toArray := by
  rw [← flat_at l k h]
  apply Array.toList_inj.1
  unfold flat
  rw [Array.toList_extract]
  show ((l.flatMap Rw.cs).toArray.toList.drop (k * 11)).take (k * 11 + 11 - k * 11) = _
  rw [show k * 11 + 11 - k * 11 = 11 by omega]

theorem wpList_build_as {P : Program} {ops : Array Oper} {rest : List Oper} {o : Oper} {a : Act} {w : World} {Q : Exit → Act → World → Prop} (hg : o.guard = none) (t : TypeId) (parts : Array (Nat × Operand)) (ho : o.op = .build t parts)
    (cells : Array Value) (hf : P.built t (parts.map fun (i, x) => (i, a.eval x)).toList = some cells) (h : wpList P ops Q rest (a.put o.dst (.agg cells)) w) : wpList P ops Q (o :: rest) a w := by
  refine wpList_build hg t parts ho (by rw [hf]; rfl) ?_
  rw [hf]; exact h
theorem wpList_index_as {P : Program} {ops : Array Oper} {rest : List Oper} {o : Oper} {a : Act} {w : World} {Q : Exit → Act → World → Prop} (hg : o.guard = none) (t : TypeId) (x y : Operand) (ho : o.op = .index t x y)
    (cs : Array Value) (hx : a.eval x = .agg cs) (k : Nat) (hy : a.eval y = .int .i64 k) (n : Nat) (e : TypeId) (d : TypeDesc) (ht : P.underlying t = some (.array n e)) (hk : k < n)
    (hu : P.underlying e = some d) (hd : (match d with | .struct _ | .array _ _ => true | _ => false) = true) (sz : Nat) (hi : (P.info? e).map (·.size) = some sz)
    (h : wpList P ops Q rest (a.put o.dst (.agg (cs.extract (k * sz) (k * sz + sz)))) w) : wpList P ops Q (o :: rest) a w := by
  refine wpList_plain hg fun K hK => ?_
  have hr : (Instr.index t (.agg cs) (.int .i64 k)).run P w = .ok (.agg (cs.extract (k * sz) (k * sz + sz))) w := by
    have hn : 0 ≤ (k : Int) ∧ (k : Int) < (n : Int) := by omega
    have hagg : (isAgg e).run P w = .ok true w := by
      unfold isAgg
      rw [Sem.run_bind, run_underlying hu w]
      cases d <;> simp_all
    cases hq : P.info? e with
    | none => simp [hq] at hi
    | some i =>
      have hs : i.size = sz := by simpa [hq] using hi
      simp [Instr.index, run_underlying ht, asIntOf, hn, hk, part, Sem.run_bind, hagg, sizeOf, typeInfo, hq, hs, go_sem, Result.andThen]
  unfold Oper.wp execOp
  simp only [ho, hx, hy, Sem.run_bind, hr, Result.andThen_ok]
  exact hK _ _ h
theorem wpList_move_as {P : Program} {ops : Array Oper} {rest : List Oper} {o : Oper} {a : Act} {w : World} {Q : Exit → Act → World → Prop} (hg : o.guard = none) (x : Operand) (ho : o.op = .move x)
    (h : wpList P ops Q rest (a.put o.dst (a.eval x)) w) : wpList P ops Q (o :: rest) a w := by
  refine wpList_plain hg fun K hK => ?_
  unfold Oper.wp execOp
  simp only [ho, Sem.run_pure]
  exact hK _ _ h
/-- only what slot 2 holds is wanted from here on -/
theorem wpList_forget {P : Program} {ops : Array Oper} {l : List Oper} {a : Act} {w : World} {Q : Exit → Act → World → Prop} {v : Value} (h2 : a.tmps.getD 2 undef = v) (hd : a.defers = [])
    (h : ∀ A : Act, A.tmps.getD 2 undef = v → A.defers = [] → wpList P ops Q l A w) : wpList P ops Q l a w := h a h2 hd
theorem Tryz.info149 : (Tryz.prog.info? 149).map (·.size) = some 572 := by kernel_rfl
end Go.Proofs.YtnpcakeagpbgiaaGreat
