/-
  Contract of the program's Row. No condition.
-/
import Derived.Test.YtfobibijhojhlaaSame
import Derived.Deep.RegionLaw
set_option linter.unusedVariables false
namespace Go.Proofs.Ytfobibijhojhlaa
open Go.ChangeShapes Go.WideShapes Go.ChangeAt Go.RowKit Go.Sort

section
variable {w : World} {g : Nat} {t : TypeId} {cs : Array Value}
theorem At.free (h : At w g t cs) (j : Nat) : w.frozen? ⟨g, j, none⟩ = false := by
  unfold At at h
  simp [World.frozen?, h]
theorem At.setCell (h : At w g t cs) (j : Nat) (v : Value) : At (w.setCell ⟨g, j, none⟩ v) g t (cs.setIfInBounds j v) := by
  have hlt := h.lt
  unfold At at *
  have h' : w.heap[g] = .cells cs t (0, 0) := by simpa [Array.getElem?_eq_getElem hlt] using h
  show (w.heap.modify g _)[g]? = _
  rw [Array.getElem?_eq_getElem (by simpa using hlt), Array.getElem_modify_self, h']
  rfl
theorem At.setCellTo (h : At w g t cs) (j : Nat) (v : Value) (cs' : Array Value) (he : cs.setIfInBounds j v = cs') : At (w.setCell ⟨g, j, none⟩ v) g t cs' := he ▸ h.setCell j v
theorem At.other (h : At w g t cs) (p : Addr) (v : Value) (hp : g ≠ p.block) : At (w.setCell p v) g t cs := by
  unfold At
  rw [Below.heap_setCell _ _ _ _ hp]; exact h
end
theorem results_two_at {P : Program} {fn : Func} {p q : Tmp} {ty tz : TypeId} (h : fn.results = #[.cell p ty, .cell q tz]) (tmps : Array Value) (w : World) (g g2 : Nat) (t t2 : TypeId) (cs cs2 : Array Value) (d d2 : TypeDesc)
    (hp : tmps.getD p undef = .pointer (some ⟨g, 0, none⟩)) (hg : At w g t cs)
    (hu : P.underlying ty = some d) (hd : (match d with | .struct _ | .array _ _ => true | _ => false) = true) (hi : (P.info? ty).map (·.size) = some cs.size)
    (hp2 : tmps.getD q undef = .pointer (some ⟨g2, 0, none⟩)) (hg2 : At w g2 t2 cs2)
    (hu2 : P.underlying tz = some d2) (hd2 : (match d2 with | .struct _ | .array _ _ => true | _ => false) = true) (hi2 : (P.info? tz).map (·.size) = some cs2.size) :
    (results fn tmps).run P w = .ok (.tuple #[.agg cs, .agg cs2]) w := by
  have hp' : tmps[p]?.getD undef = .pointer (some ⟨g, 0, none⟩) := by simpa using hp
  have hp2' : tmps[q]?.getD undef = .pointer (some ⟨g2, 0, none⟩) := by simpa using hp2
  simp [results, h, hp', hp2', asAddr, run_loadVar_row w g t ty cs _ d hg hu hd hi, run_loadVar_row w g2 t2 tz cs2 _ d2 hg2 hu2 hd2 hi2, Sem.run_bind]
theorem Try.info34 : (Try.prog.info? 34).map (·.size) = some 2 := by kernel_rfl
/-- what the two results' blocks offer -/
theorem two_facts {w : World} {A : Nat} (h1 : At w A 34 #[.int .i32 0, .int .i32 0]) (h2 : At w (A + 1) 23 #[.int .i64 0, .int .i64 0, .int .i64 0, .int .i64 0, .int .i64 0, .int .i64 0, .int .i32 0, .int .i32 0, .bool false]) :
    (w.cell? ⟨A, 0, none⟩ = some (.int .i32 0) ∧ w.frozen? ⟨A, 0, none⟩ = false ∧ w.cell? ⟨A, 1, none⟩ = some (.int .i32 0) ∧ w.frozen? ⟨A, 1, none⟩ = false) ∧ (w.cell? ⟨A + 1, 0, none⟩ = some (.int .i64 0) ∧ w.frozen? ⟨A + 1, 0, none⟩ = false ∧ w.cell? ⟨A + 1, 1, none⟩ = some (.int .i64 0) ∧ w.frozen? ⟨A + 1, 1, none⟩ = false ∧ w.cell? ⟨A + 1, 2, none⟩ = some (.int .i64 0) ∧ w.frozen? ⟨A + 1, 2, none⟩ = false ∧ w.cell? ⟨A + 1, 3, none⟩ = some (.int .i64 0) ∧ w.frozen? ⟨A + 1, 3, none⟩ = false ∧ w.cell? ⟨A + 1, 4, none⟩ = some (.int .i64 0) ∧ w.frozen? ⟨A + 1, 4, none⟩ = false ∧ w.cell? ⟨A + 1, 5, none⟩ = some (.int .i64 0) ∧ w.frozen? ⟨A + 1, 5, none⟩ = false ∧ w.cell? ⟨A + 1, 6, none⟩ = some (.int .i32 0) ∧ w.frozen? ⟨A + 1, 6, none⟩ = false ∧ w.cell? ⟨A + 1, 7, none⟩ = some (.int .i32 0) ∧ w.frozen? ⟨A + 1, 7, none⟩ = false ∧ w.cell? ⟨A + 1, 8, none⟩ = some (.bool false) ∧ w.frozen? ⟨A + 1, 8, none⟩ = false) :=
  ⟨⟨h1.cell 0 _ rfl, h1.free 0, h1.cell 1 _ rfl, h1.free 1⟩, h2.cell 0 _ rfl, h2.free 0, h2.cell 1 _ rfl, h2.free 1, h2.cell 2 _ rfl, h2.free 2, h2.cell 3 _ rfl, h2.free 3, h2.cell 4 _ rfl, h2.free 4, h2.cell 5 _ rfl, h2.free 5, h2.cell 6 _ rfl, h2.free 6, h2.cell 7 _ rfl, h2.free 7, h2.cell 8 _ rfl, h2.free 8⟩

set_option maxHeartbeats 1000000 in
theorem row_end {w w2 : World} {A : Nat} (h0 : w.heap.size ≤ A) (hA : At w2 A 34 #[.int .i32 0, .int .i32 0]) (hB : At w2 (A + 1) 23 #[.int .i64 0, .int .i64 0, .int .i64 0, .int .i64 0, .int .i64 0, .int .i64 0, .int .i32 0, .int .i32 0, .bool false]) (hU : Up w w2) (u0 u1 v0 v1 v2 v3 v4 v5 v6 v7 v8 : Value) :
    At (((((((((((w2.setCell ⟨A, 0, none⟩ u0).setCell ⟨A, 1, none⟩ u1).setCell ⟨A + 1, 0, none⟩ v0).setCell ⟨A + 1, 1, none⟩ v1).setCell ⟨A + 1, 2, none⟩ v2).setCell ⟨A + 1, 3, none⟩ v3).setCell ⟨A + 1, 4, none⟩ v4).setCell ⟨A + 1, 5, none⟩ v5).setCell ⟨A + 1, 6, none⟩ v6).setCell ⟨A + 1, 7, none⟩ v7).setCell ⟨A + 1, 8, none⟩ v8) A 34 #[u0, u1] ∧ At (((((((((((w2.setCell ⟨A, 0, none⟩ u0).setCell ⟨A, 1, none⟩ u1).setCell ⟨A + 1, 0, none⟩ v0).setCell ⟨A + 1, 1, none⟩ v1).setCell ⟨A + 1, 2, none⟩ v2).setCell ⟨A + 1, 3, none⟩ v3).setCell ⟨A + 1, 4, none⟩ v4).setCell ⟨A + 1, 5, none⟩ v5).setCell ⟨A + 1, 6, none⟩ v6).setCell ⟨A + 1, 7, none⟩ v7).setCell ⟨A + 1, 8, none⟩ v8) (A + 1) 23 #[v0, v1, v2, v3, v4, v5, v6, v7, v8] ∧ Up w (((((((((((w2.setCell ⟨A, 0, none⟩ u0).setCell ⟨A, 1, none⟩ u1).setCell ⟨A + 1, 0, none⟩ v0).setCell ⟨A + 1, 1, none⟩ v1).setCell ⟨A + 1, 2, none⟩ v2).setCell ⟨A + 1, 3, none⟩ v3).setCell ⟨A + 1, 4, none⟩ v4).setCell ⟨A + 1, 5, none⟩ v5).setCell ⟨A + 1, 6, none⟩ v6).setCell ⟨A + 1, 7, none⟩ v7).setCell ⟨A + 1, 8, none⟩ v8) :=
  ⟨(((((((((((hA.setCellTo 0 u0 #[u0, .int .i32 0] (by rfl)).setCellTo 1 u1 #[u0, u1] (by rfl)).other ⟨A + 1, 0, none⟩ v0 (by show A ≠ A + 1; omega)).other ⟨A + 1, 1, none⟩ v1 (by show A ≠ A + 1; omega)).other ⟨A + 1, 2, none⟩ v2 (by show A ≠ A + 1; omega)).other ⟨A + 1, 3, none⟩ v3 (by show A ≠ A + 1; omega)).other ⟨A + 1, 4, none⟩ v4 (by show A ≠ A + 1; omega)).other ⟨A + 1, 5, none⟩ v5 (by show A ≠ A + 1; omega)).other ⟨A + 1, 6, none⟩ v6 (by show A ≠ A + 1; omega)).other ⟨A + 1, 7, none⟩ v7 (by show A ≠ A + 1; omega)).other ⟨A + 1, 8, none⟩ v8 (by show A ≠ A + 1; omega)), (((((((((((hB.other ⟨A, 0, none⟩ u0 (by show A + 1 ≠ A; omega)).other ⟨A, 1, none⟩ u1 (by show A + 1 ≠ A; omega)).setCellTo 0 v0 #[v0, .int .i64 0, .int .i64 0, .int .i64 0, .int .i64 0, .int .i64 0, .int .i32 0, .int .i32 0, .bool false] (by rfl)).setCellTo 1 v1 #[v0, v1, .int .i64 0, .int .i64 0, .int .i64 0, .int .i64 0, .int .i32 0, .int .i32 0, .bool false] (by rfl)).setCellTo 2 v2 #[v0, v1, v2, .int .i64 0, .int .i64 0, .int .i64 0, .int .i32 0, .int .i32 0, .bool false] (by rfl)).setCellTo 3 v3 #[v0, v1, v2, v3, .int .i64 0, .int .i64 0, .int .i32 0, .int .i32 0, .bool false] (by rfl)).setCellTo 4 v4 #[v0, v1, v2, v3, v4, .int .i64 0, .int .i32 0, .int .i32 0, .bool false] (by rfl)).setCellTo 5 v5 #[v0, v1, v2, v3, v4, v5, .int .i32 0, .int .i32 0, .bool false] (by rfl)).setCellTo 6 v6 #[v0, v1, v2, v3, v4, v5, v6, .int .i32 0, .bool false] (by rfl)).setCellTo 7 v7 #[v0, v1, v2, v3, v4, v5, v6, v7, .bool false] (by rfl)).setCellTo 8 v8 #[v0, v1, v2, v3, v4, v5, v6, v7, v8] (by rfl)), (((((((((((hU.setCell (p := ⟨A, 0, none⟩) h0 u0).setCell (p := ⟨A, 1, none⟩) h0 u1).setCell (p := ⟨A + 1, 0, none⟩) (Nat.le_succ_of_le h0) v0).setCell (p := ⟨A + 1, 1, none⟩) (Nat.le_succ_of_le h0) v1).setCell (p := ⟨A + 1, 2, none⟩) (Nat.le_succ_of_le h0) v2).setCell (p := ⟨A + 1, 3, none⟩) (Nat.le_succ_of_le h0) v3).setCell (p := ⟨A + 1, 4, none⟩) (Nat.le_succ_of_le h0) v4).setCell (p := ⟨A + 1, 5, none⟩) (Nat.le_succ_of_le h0) v5).setCell (p := ⟨A + 1, 6, none⟩) (Nat.le_succ_of_le h0) v6).setCell (p := ⟨A + 1, 7, none⟩) (Nat.le_succ_of_le h0) v7).setCell (p := ⟨A + 1, 8, none⟩) (Nat.le_succ_of_le h0) v8)⟩

set_option maxHeartbeats 8000000 in
theorem rowR_ok (i : Int) (x : Rw) (hx : rowP i = x) (w : World) : Calls Try.prog 16 #[.int .i64 i] w fun e w' => e = .returned (.tuple #[.agg #[.int .i32 x.f, .int .i32 x.t], .agg #[.int .i64 x.p.bidi, .int .i64 x.p.cl, .int .i64 x.p.br, .int .i64 x.p.sc, .int .i64 x.p.jn, .int .i64 x.p.wd, .int .i32 x.p.mi, .int .i32 x.p.pa, .bool x.p.op]]) ∧ Up w w' := by
  have HR := Lib.hid (fun w => rowAt_ok i x hx w)
  clear hx
  go_enter Try.func16, Try.ntmps16
  go_wp2_with (first | (go_at_call 23; refine (HR.out _).mono ?_; rintro e w1 ⟨rfl, hu⟩; obtain ⟨hs1, ha1, ha2⟩ := find_facts hu; have hU1 : Up w w1 := (((Up.refl w).alloc _).alloc _).trans hu; clear hu))
  go_region_law ((go_simp; go_at_call 19; refine (prop_x x _).mono ?_; rintro e w2 ⟨rfl, hu2⟩; have hX := ((at_new w1 #[.int .i32 x.f, .int .i32 x.t, .int .i64 x.p.bidi, .int .i64 x.p.cl, .int .i64 x.p.br, .int .i64 x.p.sc, .int .i64 x.p.jn, .int .i64 x.p.wd, .int .i32 x.p.mi, .int .i32 x.p.pa, .bool x.p.op] 41).up (Up.drew (Up.refl _))).up hu2; have x0 := hX.cell 0 _ rfl; have x1 := hX.cell 1 _ rfl; have hA := ((ha1.alloc _).up (Up.drew (Up.refl _))).up hu2; have hB := ((ha2.alloc _).up (Up.drew (Up.refl _))).up hu2; have hU := ((hU1.alloc _).drew).trans hu2; obtain ⟨⟨f1, f2, f3, f4⟩, g0, g1, g2, g3, g4, g5, g6, g7, g8, g9, g10, g11, g12, g13, g14, g15, g16, g17⟩ := two_facts hA hB))
  all_goals go_wp2
  all_goals
    obtain ⟨a1, a2, a3⟩ := row_end (Nat.le_refl w.heap.size) hA hB hU (.int .i32 x.f) (.int .i32 x.t) (.int .i64 x.p.bidi) (.int .i64 x.p.cl) (.int .i64 x.p.br) (.int .i64 x.p.sc) (.int .i64 x.p.jn) (.int .i64 x.p.wd) (.int .i32 x.p.mi) (.int .i32 x.p.pa) (.bool x.p.op)
    exact bodyPost_ret (results_two_at Try.results16 _ _ w.heap.size (w.heap.size + 1) 34 23 _ _ _ _ (by rfl) a1 Try.underlying34 rfl (by exact Try.info34) (by rfl) a2 Try.underlying23 rfl (by exact Try.info23)) rfl ⟨rfl, a3⟩
end Go.Proofs.Ytfobibijhojhlaa
