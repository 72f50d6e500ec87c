/-
  'Up w w'': of what was there nothing has turned, the count of draws has not gone down. Small contracts: the document's row and rest, the program's default row and prop.
-/
import Derived.Test.YtnpcakeagpbgiaaGreatMath
import Derived.Test.YtnpcakeagpbgiaaGreatProg
import Derived.WalkKit
import Derived.ProofKit
import Derived.OpenShut
import Derived.SizedLaws
import Derived.Deep.Draws
import Derived.Laws.OwnMore
import Derived.Lib.Hide
import Derived.Lib.QuietBelow
import Derived.Sort.Grow
import Derived.Laws.Rows
import Derived.Laws.ResultCell
set_option linter.unusedVariables false
namespace Go.Proofs.YtnpcakeagpbgiaaGreat
open Go.ChangeShapes Go.WideShapes Go.ChangeAt Go.RowKit Go.Sort

/-- of what was there nothing has turned; the count of draws has not gone down -/
def Up (w w' : World) : Prop := Below w.heap.size w w' ∧ w.drawn ≤ w'.drawn
theorem Up.refl (w : World) : Up w w := ⟨Below.refl _ _, Nat.le_refl _⟩
theorem Up.trans {a b c : World} (h : Up a b) (k : Up b c) : Up a c := ⟨h.1.trans (k.1.mono h.1.size), Nat.le_trans h.2 k.2⟩
theorem Up.alloc {a b : World} (h : Up a b) (o : Obj) : Up a (b.alloc o) := ⟨h.1.alloc h.1.size o, h.2⟩
theorem Up.drew {a b : World} (h : Up a b) : Up a b.drew := ⟨h.1.drew, Nat.le_trans h.2 (Nat.le_succ _)⟩
theorem Up.drewN {a b : World} (h : Up a b) (n : Nat) : Up a (b.drewN n) := ⟨⟨h.1.os, h.1.tape, h.1.output, h.1.size, h.1.block⟩, Nat.le_trans h.2 (Nat.le_add_right _ _)⟩
theorem Up.setCell {a b : World} (h : Up a b) {p : Addr} (hp : a.heap.size ≤ p.block) (u : Value) : Up a (b.setCell p u) := ⟨h.1.setCell hp u, h.2⟩
theorem Up.cell {a b : World} (h : Up a b) {p : Addr} {v : Value} (hc : a.cell? p = some v) : b.cell? p = some v := by
  rw [h.1.cell (block_lt_of_cell hc)]; exact hc
theorem Up.grow {w w' : World} (h : Up w w') : ∃ q os, w' = grow (w.drewN q) os := by
  obtain ⟨⟨d, os⟩, hp⟩ := regrown_of_below h.1
  have hd : w'.drawn = d := by rw [hp]; rfl
  refine ⟨d - w.drawn, os, ?_⟩
  rw [hp]
  have h2 := h.2
  have e : redrawn w d = w.drewN (d - w.drawn) := by
    unfold redrawn World.drewN
    rw [show w.drawn + (d - w.drawn) = d by omega]
  show Go.Sort.grow (redrawn w d) os = _
  rw [e]
theorem Up.of_grow (w : World) (q : Nat) (os : Array Obj) : Up w (Go.Sort.grow (w.drewN q) os) :=
  ⟨⟨rfl, rfl, rfl, by simp [Go.Sort.grow, World.drewN], fun k hk => by simp [Go.Sort.grow, World.drewN, Array.getElem?_append, hk]⟩, Nat.le_add_right _ _⟩

/-- block g holds the cells cs -/
def At (w : World) (g : Nat) (t : TypeId) (cs : Array Value) : Prop := w.heap[g]? = some (.cells cs t (0, 0))
section
variable {w w' : World} {g : Nat} {t : TypeId} {cs : Array Value}
theorem At.lt (h : At w g t cs) : g < w.heap.size := (Array.getElem?_eq_some_iff.1 h).1
theorem at_new (w : World) (cs : Array Value) (t : TypeId) : At (w.alloc (.cells cs t)) w.heap.size t cs := heap_alloc_new _ _
theorem At.alloc (h : At w g t cs) (o : Obj) : At (w.alloc o) g t cs := by
  unfold At
  rw [Below.heap_alloc _ _ _ h.lt]; exact h
theorem At.up (h : At w g t cs) (hu : Up w w') : At w' g t cs := by
  unfold At
  rw [hu.1.block _ h.lt]; exact h
theorem At.cell (h : At w g t cs) (j : Nat) (v : Value) (hv : cs[j]? = some v) : w.cell? ⟨g, j, none⟩ = some v := by rw [cell_of_row w g j cs t _ h]; exact hv
end

/-- the whole struct into a block of the call's own -/
theorem wpList_store_at {P : Program} {ops : Array Oper} {rest : List Oper} {o : Oper} {a : Act} {w : World} {Q : Exit → Act → World → Prop} (hgd : o.guard = none) (ty : TypeId) (x y : Operand) (ho : o.op = .store ty x y)
    (g : Nat) (cells : Array Value) (hx : a.eval x = .pointer (some ⟨g, 0, none⟩)) (hy : a.eval y = .agg cells) (t : TypeId) (old : Array Value) (hg : At w g t old) (hi : (P.info? ty).map (·.size) = some cells.size)
    (hold : old.size = cells.size) (h1 : cells.all (·.oneCell') = true) (W0 : World) (hu : Up W0 w) (hB : W0.heap.size ≤ g)
    (h : ∀ w', At w' g t cells → (∀ k t cs, k ≠ g → At w k t cs → At w' k t cs) → w'.heap.size = w.heap.size → Up W0 w' → wpList P ops Q rest (a.put o.dst undef) w') : wpList P ops Q (o :: rest) a w :=
  wpList_plain hgd fun _ hK => wp_store_row ty x y ho g cells hx hy t old hg hi hold h1
    (hK _ _ (h _ (setRow_heap _ _ _ _ _ _ hg) (fun k t cs hk hc => by unfold At; rw [setRow_other _ _ _ _ hk]; exact hc) (by simp)
      ⟨hu.1.trans ⟨rfl, rfl, rfl, by simp, fun k hk => setRow_other _ _ _ _ (by omega)⟩, hu.2⟩))
theorem results_cell_at {P : Program} {fn : Func} {p : Tmp} {ty : TypeId} (h : fn.results = #[.cell p ty]) (tmps : Array Value) (w : World) (g : Nat) (t : TypeId) (cs : Array Value) (d : TypeDesc)
    (hp : tmps.getD p undef = .pointer (some ⟨g, 0, none⟩)) (hg : At w g t cs)
    (hu : P.underlying ty = some d) (hd : (match d with | .struct _ | .array _ _ => true | _ => false) = true) (hi : (P.info? ty).map (·.size) = some cs.size) :
    (results fn tmps).run P w = .ok (.agg cs) w := results_cell_row h tmps w g t cs _ d hp hg hu hd hi
theorem results_cell_tmp_at {P : Program} {fn : Func} {p u : Tmp} {ty : TypeId} (h : fn.results = #[.cell p ty, .tmp u]) (tmps : Array Value) (w : World) (g : Nat) (t : TypeId) (cs : Array Value) (d : TypeDesc)
    (hp : tmps.getD p undef = .pointer (some ⟨g, 0, none⟩)) (hg : At w g t cs)
    (hu : P.underlying ty = some d) (hd : (match d with | .struct _ | .array _ _ => true | _ => false) = true) (hi : (P.info? ty).map (·.size) = some cs.size) (v : Value) (hv : tmps.getD u undef = v) :
    (results fn tmps).run P w = .ok (.tuple #[.agg cs, v]) w := by
  rw [results_cell_tmp h, hp, hv]
  simp [asAddr, Result.andThen, run_loadVar_row w g t ty cs _ d hg hu hd hi]
/-- what the document's parts hand back: what was found, and whether something was -/
def fndV : Option Pr → Value
  | some p => .tuple #[p.v, .bool true]
  | none => .tuple #[Pr.rest.v, .bool false]
def Pr.cs (p : Pr) : Array Value := #[.int .i64 p.bidi, .int .i64 p.cl, .int .i64 p.br, .int .i64 p.sc, .int .i64 p.jn, .int .i64 p.wd, .int .i32 p.mi, .int .i32 p.pa, .bool p.op]
theorem Tryz.info91 : (Tryz.prog.info? 91).map (·.size) = some 9 := by kernel_rfl
theorem Tryz.info108 : (Tryz.prog.info? 108).map (·.size) = some 11 := by kernel_rfl

set_option maxHeartbeats 1000000 in
theorem default_ok (w : World) : Calls Tryz.prog 117 #[] w fun e w' => e = .returned Rw.none.v ∧ Up w w' := by
  go_enter Tryz.func117, Tryz.ntmps117
  go_wp2
  exact bodyPost_ret (v := Rw.none.v) (by simp [results, Tryz.results117, go_sem]; rfl) rfl ⟨rfl, (Up.refl _).alloc _⟩

set_option maxHeartbeats 1000000 in
theorem row_ok (a b c d e f g h : Int) (o : Bool) (w : World) : Calls Tryz.prog 143 #[.int .i64 a, .int .i64 b, .int .i64 c, .int .i64 d, .int .i64 e, .int .i64 f, .int .i32 g, .int .i32 h, .bool o] w fun x w' => x = .returned (Pr.v ⟨a, b, c, d, e, f, g, h, o⟩) ∧ Up w w' := by
  go_enter Tryz.func143, Tryz.ntmps143
  go_wp2
  exact bodyPost_ret (v := Pr.v ⟨a, b, c, d, e, f, g, h, o⟩) (by simp [results, Tryz.results143, go_sem]; rfl) rfl ⟨rfl, (Up.refl _).alloc _⟩

set_option maxHeartbeats 1000000 in
theorem rest_ok (w : World) : Calls Tryz.prog 113 #[] w fun x w' => x = .returned Pr.rest.v ∧ Up w w' := by
  go_enter Tryz.func113, Tryz.ntmps113
  go_wp2_with (first | (go_at_call 143; refine (row_ok _ _ _ _ _ _ _ _ _ _).mono ?_; rintro e w' ⟨rfl, hu⟩; simp only [Pr.v]) | (refine wpList_store_at rfl 91 _ _ rfl w.heap.size _ rfl rfl 91 _ (At.up (at_new _ _ _) (by assumption)) (by exact Tryz.info91) (by rfl) (by simp [Value.oneCell']) w (Up.trans ((Up.refl _).alloc _) (by assumption)) (Nat.le_refl _) ?_; intro w1 hat hk hs hu1))
  exact bodyPost_ret (results_cell_at Tryz.results113 _ _ w.heap.size 91 _ _ (by rfl) (by assumption) Tryz.underlying91 rfl (by exact Tryz.info91)) rfl ⟨rfl, by assumption⟩

set_option maxHeartbeats 1000000 in
theorem prop_ok (f t a b c d e k g h : Int) (o : Bool) (w : World) : Calls Tryz.prog 88 #[.agg #[.int .i32 f, .int .i32 t, .int .i64 a, .int .i64 b, .int .i64 c, .int .i64 d, .int .i64 e, .int .i64 k, .int .i32 g, .int .i32 h, .bool o]] w fun x w' => x = .returned (Pr.v ⟨a, b, c, d, e, k, g, h, o⟩) ∧ Up w w' := by
  go_enter Tryz.func88, Tryz.ntmps88
  go_wp2
  exact bodyPost_ret (v := Pr.v ⟨a, b, c, d, e, k, g, h, o⟩) (by simp [results, Tryz.results88, go_sem]; rfl) rfl ⟨rfl, ((Up.refl _).alloc _).alloc _⟩
end Go.Proofs.YtnpcakeagpbgiaaGreat
