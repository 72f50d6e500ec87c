/-
  Structs in blocks of the call's own. 'Up w w'': of what was there nothing has turned (as Below), and the count of draws has not gone down. 'At w g t cs': block g holds the cells cs. Whole structs stored into older blocks, results that lie in cells, arrays built and indexed where they stand, cells in the worlds of go_quiet_grown. No condition.
-/
import Derived.Test.YtojplkkmpnaibaaProg
import Derived.WalkKit
import Derived.ProofKit
import Derived.OpenShut
import Derived.SizedLaws
import Derived.Deep.Draws
import Derived.Laws.OwnMore
import Derived.Lib.Hide
import Derived.Lib.QuietBelow
import Derived.Sort.Grow
import Derived.Laws.Rows
import Derived.Laws.ResultCell
import Derived.Shelf.SlSortCmp.QuietGrown
set_option linter.unusedVariables false
namespace Go.Proofs.Ytojplkkmpnaibaa
open Go.ChangeShapes Go.WideShapes Go.ChangeAt Go.RowKit Go.Sort

/-- of what was there nothing has turned; the count of draws has not gone down -/
def Up (w w' : World) : Prop := Below w.heap.size w w' ∧ w.drawn ≤ w'.drawn
theorem Up.refl (w : World) : Up w w := ⟨Below.refl _ _, Nat.le_refl _⟩
theorem Up.trans {a b c : World} (h : Up a b) (k : Up b c) : Up a c := ⟨h.1.trans (k.1.mono h.1.size), Nat.le_trans h.2 k.2⟩
theorem Up.alloc {a b : World} (h : Up a b) (o : Obj) : Up a (b.alloc o) := ⟨h.1.alloc h.1.size o, h.2⟩
theorem Up.drew {a b : World} (h : Up a b) : Up a b.drew := ⟨h.1.drew, Nat.le_trans h.2 (Nat.le_succ _)⟩
theorem Up.drewN {a b : World} (h : Up a b) (n : Nat) : Up a (b.drewN n) := ⟨⟨h.1.os, h.1.tape, h.1.output, h.1.size, h.1.block⟩, Nat.le_trans h.2 (Nat.le_add_right _ _)⟩
theorem Up.setCell {a b : World} (h : Up a b) {p : Addr} (hp : a.heap.size ≤ p.block) (u : Value) : Up a (b.setCell p u) := ⟨h.1.setCell hp u, h.2⟩
theorem Up.cell {a b : World} (h : Up a b) {p : Addr} {v : Value} (hc : a.cell? p = some v) : b.cell? p = some v := by
  rw [h.1.cell (block_lt_of_cell hc)]; exact hc
theorem Up.grow {w w' : World} (h : Up w w') : ∃ q os, w' = grow (w.drewN q) os := by
  obtain ⟨⟨d, os⟩, hp⟩ := regrown_of_below h.1
  have hd : w'.drawn = d := by rw [hp]; rfl
  refine ⟨d - w.drawn, os, ?_⟩
  rw [hp]
  have h2 := h.2
  have e : redrawn w d = w.drewN (d - w.drawn) := by
    unfold redrawn World.drewN
    rw [show w.drawn + (d - w.drawn) = d by omega]
  show Go.Sort.grow (redrawn w d) os = _
  rw [e]
theorem Up.of_grow (w : World) (q : Nat) (os : Array Obj) : Up w (Go.Sort.grow (w.drewN q) os) :=
  ⟨⟨rfl, rfl, rfl, by simp [Go.Sort.grow, World.drewN], fun k hk => by simp [Go.Sort.grow, World.drewN, Array.getElem?_append, hk]⟩, Nat.le_add_right _ _⟩

/-- block g holds the cells cs -/
def At (w : World) (g : Nat) (t : TypeId) (cs : Array Value) : Prop := w.heap[g]? = some (.cells cs t (0, 0))
section
variable {w w' : World} {g : Nat} {t : TypeId} {cs : Array Value}
theorem At.lt (h : At w g t cs) : g < w.heap.size := (Array.getElem?_eq_some_iff.1 h).1
theorem at_new (w : World) (cs : Array Value) (t : TypeId) : At (w.alloc (.cells cs t)) w.heap.size t cs := heap_alloc_new _ _
theorem At.alloc (h : At w g t cs) (o : Obj) : At (w.alloc o) g t cs := by
  unfold At
  rw [Below.heap_alloc _ _ _ h.lt]; exact h
theorem At.up (h : At w g t cs) (hu : Up w w') : At w' g t cs := by
  unfold At
  rw [hu.1.block _ h.lt]; exact h
theorem At.cell (h : At w g t cs) (j : Nat) (v : Value) (hv : cs[j]? = some v) : w.cell? ⟨g, j, none⟩ = some v := by rw [cell_of_row w g j cs t _ h]; exact hv
end

/-- the whole struct into a block of the call's own -/
theorem wpList_store_at {P : Program} {ops : Array Oper} {rest : List Oper} {o : Oper} {a : Act} {w : World} {Q : Exit → Act → World → Prop} (hgd : o.guard = none) (ty : TypeId) (x y : Operand) (ho : o.op = .store ty x y)
    (g : Nat) (cells : Array Value) (hx : a.eval x = .pointer (some ⟨g, 0, none⟩)) (hy : a.eval y = .agg cells) (t : TypeId) (old : Array Value) (hg : At w g t old) (hi : (P.info? ty).map (·.size) = some cells.size)
    (hold : old.size = cells.size) (h1 : cells.all (·.oneCell') = true) (W0 : World) (hu : Up W0 w) (hB : W0.heap.size ≤ g)
    (h : ∀ w', At w' g t cells → (∀ k t cs, k ≠ g → At w k t cs → At w' k t cs) → w'.heap.size = w.heap.size → Up W0 w' → wpList P ops Q rest (a.put o.dst undef) w') : wpList P ops Q (o :: rest) a w :=
  wpList_plain hgd fun _ hK => wp_store_row ty x y ho g cells hx hy t old hg hi hold h1
    (hK _ _ (h _ (setRow_heap _ _ _ _ _ _ hg) (fun k t cs hk hc => by unfold At; rw [setRow_other _ _ _ _ hk]; exact hc) (by simp)
      ⟨hu.1.trans ⟨rfl, rfl, rfl, by simp, fun k hk => setRow_other _ _ _ _ (by omega)⟩, hu.2⟩))
theorem results_cell_at {P : Program} {fn : Func} {p : Tmp} {ty : TypeId} (h : fn.results = #[.cell p ty]) (tmps : Array Value) (w : World) (g : Nat) (t : TypeId) (cs : Array Value) (d : TypeDesc)
    (hp : tmps.getD p undef = .pointer (some ⟨g, 0, none⟩)) (hg : At w g t cs)
    (hu : P.underlying ty = some d) (hd : (match d with | .struct _ | .array _ _ => true | _ => false) = true) (hi : (P.info? ty).map (·.size) = some cs.size) :
    (results fn tmps).run P w = .ok (.agg cs) w := results_cell_row h tmps w g t cs _ d hp hg hu hd hi
theorem results_cell_tmp_at {P : Program} {fn : Func} {p u : Tmp} {ty : TypeId} (h : fn.results = #[.cell p ty, .tmp u]) (tmps : Array Value) (w : World) (g : Nat) (t : TypeId) (cs : Array Value) (d : TypeDesc)
    (hp : tmps.getD p undef = .pointer (some ⟨g, 0, none⟩)) (hg : At w g t cs)
    (hu : P.underlying ty = some d) (hd : (match d with | .struct _ | .array _ _ => true | _ => false) = true) (hi : (P.info? ty).map (·.size) = some cs.size) (v : Value) (hv : tmps.getD u undef = v) :
    (results fn tmps).run P w = .ok (.tuple #[.agg cs, v]) w := by
  rw [results_cell_tmp h, hp, hv]
  simp [asAddr, Result.andThen, run_loadVar_row w g t ty cs _ d hg hu hd hi]
section
variable {w : World} {g : Nat} {t : TypeId} {cs : Array Value}
theorem At.free (h : At w g t cs) (j : Nat) : w.frozen? ⟨g, j, none⟩ = false := by
  unfold At at h
  simp [World.frozen?, h]
theorem At.setCell (h : At w g t cs) (j : Nat) (v : Value) : At (w.setCell ⟨g, j, none⟩ v) g t (cs.setIfInBounds j v) := by
  have hlt := h.lt
  unfold At at *
  have h' : w.heap[g] = .cells cs t (0, 0) := by simpa [Array.getElem?_eq_getElem hlt] using h
  show (w.heap.modify g _)[g]? = _
  rw [Array.getElem?_eq_getElem (by simpa using hlt), Array.getElem_modify_self, h']
  rfl
theorem At.setCellTo (h : At w g t cs) (j : Nat) (v : Value) (cs' : Array Value) (he : cs.setIfInBounds j v = cs') : At (w.setCell ⟨g, j, none⟩ v) g t cs' := he ▸ h.setCell j v
theorem At.other (h : At w g t cs) (p : Addr) (v : Value) (hp : g ≠ p.block) : At (w.setCell p v) g t cs := by
  unfold At
  rw [Below.heap_setCell _ _ _ _ hp]; exact h
end
theorem results_two_at {P : Program} {fn : Func} {p q : Tmp} {ty tz : TypeId} (h : fn.results = #[.cell p ty, .cell q tz]) (tmps : Array Value) (w : World) (g g2 : Nat) (t t2 : TypeId) (cs cs2 : Array Value) (d d2 : TypeDesc)
    (hp : tmps.getD p undef = .pointer (some ⟨g, 0, none⟩)) (hg : At w g t cs)
    (hu : P.underlying ty = some d) (hd : (match d with | .struct _ | .array _ _ => true | _ => false) = true) (hi : (P.info? ty).map (·.size) = some cs.size)
    (hp2 : tmps.getD q undef = .pointer (some ⟨g2, 0, none⟩)) (hg2 : At w g2 t2 cs2)
    (hu2 : P.underlying tz = some d2) (hd2 : (match d2 with | .struct _ | .array _ _ => true | _ => false) = true) (hi2 : (P.info? tz).map (·.size) = some cs2.size) :
    (results fn tmps).run P w = .ok (.tuple #[.agg cs, .agg cs2]) w := by
  have hp' : tmps[p]?.getD undef = .pointer (some ⟨g, 0, none⟩) := by simpa using hp
  have hp2' : tmps[q]?.getD undef = .pointer (some ⟨g2, 0, none⟩) := by simpa using hp2
  simp [results, h, hp', hp2', asAddr, run_loadVar_row w g t ty cs _ d hg hu hd hi, run_loadVar_row w g2 t2 tz cs2 _ d2 hg2 hu2 hd2 hi2, Sem.run_bind]
/-- two blocks laid, then a call: what they hold behind it -/
theorem find_facts {w w1 : World} {c c2 : Array Value} {t t2 : TypeId} (hu : Up ((w.alloc (.cells c t)).alloc (.cells c2 t2)) w1) : w.heap.size + 1 + 1 ≤ w1.heap.size ∧ At w1 w.heap.size t c ∧ At w1 (w.heap.size + 1) t2 c2 := by
  refine ⟨by have := hu.1.size; simpa using this, At.up ((at_new _ _ _).alloc _) hu, At.up ?_ hu⟩
  have := at_new (w.alloc (.cells c t)) c2 t2
  rwa [World.size_alloc] at this

theorem grown_cell {W : World} {g : Nat} {t : TypeId} {cs : Array Value} (h : At W g t cs) (j : Nat) (v : Value) (hv : cs[j]? = some v) : ∀ n os, (grow (W.drewN n) os).cell? ⟨g, j, none⟩ = some v := fun n os => cell_grown h.lt (h.cell j v hv) n os
theorem up_grown {f : Nat} {args : Array Value} {v : Value} (h : ∀ w, Calls Try.prog f args w fun e w' => e = .returned v ∧ Up w w') : ∀ w, Calls Try.prog f args w fun e w' => e = .returned v ∧ ∃ q os', w' = grow (w.drewN q) os' :=
  fun w => (h w).mono fun _ _ ⟨he, hu⟩ => ⟨he, hu.grow⟩
theorem two_new (u : World) (c c2 : Array Value) (t t2 : TypeId) : At ((u.alloc (.cells c t)).alloc (.cells c2 t2)) u.heap.size t c ∧ At ((u.alloc (.cells c t)).alloc (.cells c2 t2)) (u.heap.size + 1) t2 c2 := by
  refine ⟨(at_new _ _ _).alloc _, ?_⟩
  have := at_new (u.alloc (.cells c t)) c2 t2
  rwa [World.size_alloc] at this
theorem wpList_build_as {P : Program} {ops : Array Oper} {rest : List Oper} {o : Oper} {a : Act} {w : World} {Q : Exit → Act → World → Prop} (hg : o.guard = none) (t : TypeId) (parts : Array (Nat × Operand)) (ho : o.op = .build t parts)
    (cells : Array Value) (hf : P.built t (parts.map fun (i, x) => (i, a.eval x)).toList = some cells) (h : wpList P ops Q rest (a.put o.dst (.agg cells)) w) : wpList P ops Q (o :: rest) a w := by
  refine wpList_build hg t parts ho (by rw [hf]; rfl) ?_
  rw [hf]; exact h
theorem wpList_index_as {P : Program} {ops : Array Oper} {rest : List Oper} {o : Oper} {a : Act} {w : World} {Q : Exit → Act → World → Prop} (hg : o.guard = none) (t : TypeId) (x y : Operand) (ho : o.op = .index t x y)
    (cs : Array Value) (hx : a.eval x = .agg cs) (k : Nat) (hy : a.eval y = .int .i64 k) (n : Nat) (e : TypeId) (d : TypeDesc) (ht : P.underlying t = some (.array n e)) (hk : k < n)
    (hu : P.underlying e = some d) (hd : (match d with | .struct _ | .array _ _ => true | _ => false) = true) (sz : Nat) (hi : (P.info? e).map (·.size) = some sz)
    (h : wpList P ops Q rest (a.put o.dst (.agg (cs.extract (k * sz) (k * sz + sz)))) w) : wpList P ops Q (o :: rest) a w := by
  refine wpList_plain hg fun K hK => ?_
  have hr : (Instr.index t (.agg cs) (.int .i64 k)).run P w = .ok (.agg (cs.extract (k * sz) (k * sz + sz))) w := by
    have hn : 0 ≤ (k : Int) ∧ (k : Int) < (n : Int) := by omega
    have hagg : (isAgg e).run P w = .ok true w := by
      unfold isAgg
      rw [Sem.run_bind, run_underlying hu w]
      cases d <;> simp_all
    cases hq : P.info? e with
    | none => simp [hq] at hi
    | some i =>
      have hs : i.size = sz := by simpa [hq] using hi
      simp [Instr.index, run_underlying ht, asIntOf, hn, hk, part, Sem.run_bind, hagg, sizeOf, typeInfo, hq, hs, go_sem, Result.andThen]
  unfold Oper.wp execOp
  simp only [ho, hx, hy, Sem.run_bind, hr, Result.andThen_ok]
  exact hK _ _ h
theorem wpList_move_as {P : Program} {ops : Array Oper} {rest : List Oper} {o : Oper} {a : Act} {w : World} {Q : Exit → Act → World → Prop} (hg : o.guard = none) (x : Operand) (ho : o.op = .move x)
    (h : wpList P ops Q rest (a.put o.dst (a.eval x)) w) : wpList P ops Q (o :: rest) a w := by
  refine wpList_plain hg fun K hK => ?_
  unfold Oper.wp execOp
  simp only [ho, Sem.run_pure]
  exact hK _ _ h
/-- only what slot 2 holds is wanted from here on -/
theorem wpList_forget {P : Program} {ops : Array Oper} {l : List Oper} {a : Act} {w : World} {Q : Exit → Act → World → Prop} {v : Value} (h2 : a.tmps.getD 2 undef = v) (hd : a.defers = [])
    (h : ∀ A : Act, A.tmps.getD 2 undef = v → A.defers = [] → wpList P ops Q l A w) : wpList P ops Q l a w := h a h2 hd
end Go.Proofs.Ytojplkkmpnaibaa
