/-
  Contracts of the program's rowAt, of the closure of find, of find. No condition.
-/
import Derived.Test.YtnpcakeagpbgiaaGreatPza
import Derived.Test.YtnpcakeagpbgiaaGreatFrom3
import Derived.Test.YtnpcakeagpbgiaaGreatFrom4
import Derived.Test.YtnpcakeagpbgiaaGreatTab
import Derived.Test.YtnpcakeagpbgiaaGreatShelf
import Derived.Shelf.SlSortCmp.QuietGrown
set_option linter.unusedVariables false
namespace Go.Proofs.YtnpcakeagpbgiaaGreat
open Go.ChangeShapes Go.WideShapes Go.ChangeAt Go.RowKit Go.Sort

set_option maxHeartbeats 4000000 in
theorem rowAt_none (i : Int) (w : World) (h : i < 0 ∨ 260 ≤ i) : Calls Tryz.prog 116 #[.int .i64 i] w fun e w' => e = .returned (Rw.v Rw.none) ∧ Up w w' := by
  rcases h with h | h
  all_goals
    go_enter Tryz.func116, Tryz.ntmps116
    go_wp2_with (first | (go_at_call 117; refine (default_ok _).mono ?_; rintro e w' ⟨rfl, hu⟩) | (refine wpList_store_at rfl 108 _ _ rfl w.heap.size (Rw.cs Rw.none).toArray rfl rfl 108 _ (At.up (at_new _ _ _) (by assumption)) (by exact Tryz.info108) (by rfl) (by simp [Value.oneCell', Rw.cs]) w (Up.trans ((Up.refl _).alloc _) (by assumption)) (Nat.le_refl _) ?_; intro w1 hat hk hs hu1))
    exact bodyPost_ret (results_cell_at Tryz.results116 _ _ w.heap.size 108 _ _ (by rfl) (by assumption) Tryz.underlying108 rfl (by exact Tryz.info108)) rfl ⟨rfl, by assumption⟩
set_option maxHeartbeats 4000000 in
theorem rowAt_0 (i : Int) (k : Nat) (w : World) (hk : k < 52) (hi : i = 0 + k) : Calls Tryz.prog 116 #[.int .i64 i] w fun e w' => e = .returned (Rw.v (T0.getD k Rw.none)) ∧ Up w w' := by
  have e1 : i / 52 = 0 := by omega
  have e2 : i % 52 = k := by omega
  have h1 : 0 ≤ i := by omega
  have h2 : i < 52 := by omega
  clear hi
  go_enter Tryz.func116, Tryz.ntmps116
  go_wp2_with (first | (go_at_call 144; refine (from0_ok k _ hk).mono ?_; rintro e w' ⟨rfl, hu⟩) | (refine wpList_store_at rfl 108 _ _ rfl w.heap.size (Rw.cs (T0.getD k Rw.none)).toArray rfl rfl 108 _ (At.up (at_new _ _ _) (by assumption)) (by exact Tryz.info108) (by rfl) (by simp [Value.oneCell', Rw.cs]) w (Up.trans ((Up.refl _).alloc _) (by assumption)) (Nat.le_refl _) ?_; intro w1 hat hk hs hu1))
  exact bodyPost_ret (results_cell_at Tryz.results116 _ _ w.heap.size 108 _ _ (by rfl) (by assumption) Tryz.underlying108 rfl (by exact Tryz.info108)) rfl ⟨rfl, by assumption⟩
set_option maxHeartbeats 4000000 in
theorem rowAt_1 (i : Int) (k : Nat) (w : World) (hk : k < 52) (hi : i = 52 + k) : Calls Tryz.prog 116 #[.int .i64 i] w fun e w' => e = .returned (Rw.v (T1.getD k Rw.none)) ∧ Up w w' := by
  have e1 : i / 52 = 1 := by omega
  have e2 : i % 52 = k := by omega
  have h1 : 52 ≤ i := by omega
  have h2 : i < 104 := by omega
  clear hi
  go_enter Tryz.func116, Tryz.ntmps116
  go_wp2_with (first | (go_at_call 145; refine (from1_ok k _ hk).mono ?_; rintro e w' ⟨rfl, hu⟩) | (refine wpList_store_at rfl 108 _ _ rfl w.heap.size (Rw.cs (T1.getD k Rw.none)).toArray rfl rfl 108 _ (At.up (at_new _ _ _) (by assumption)) (by exact Tryz.info108) (by rfl) (by simp [Value.oneCell', Rw.cs]) w (Up.trans ((Up.refl _).alloc _) (by assumption)) (Nat.le_refl _) ?_; intro w1 hat hk hs hu1))
  exact bodyPost_ret (results_cell_at Tryz.results116 _ _ w.heap.size 108 _ _ (by rfl) (by assumption) Tryz.underlying108 rfl (by exact Tryz.info108)) rfl ⟨rfl, by assumption⟩
set_option maxHeartbeats 4000000 in
theorem rowAt_2 (i : Int) (k : Nat) (w : World) (hk : k < 52) (hi : i = 104 + k) : Calls Tryz.prog 116 #[.int .i64 i] w fun e w' => e = .returned (Rw.v (T2.getD k Rw.none)) ∧ Up w w' := by
  have e1 : i / 52 = 2 := by omega
  have e2 : i % 52 = k := by omega
  have h1 : 104 ≤ i := by omega
  have h2 : i < 156 := by omega
  clear hi
  go_enter Tryz.func116, Tryz.ntmps116
  go_wp2_with (first | (go_at_call 146; refine (from2_ok k _ hk).mono ?_; rintro e w' ⟨rfl, hu⟩) | (refine wpList_store_at rfl 108 _ _ rfl w.heap.size (Rw.cs (T2.getD k Rw.none)).toArray rfl rfl 108 _ (At.up (at_new _ _ _) (by assumption)) (by exact Tryz.info108) (by rfl) (by simp [Value.oneCell', Rw.cs]) w (Up.trans ((Up.refl _).alloc _) (by assumption)) (Nat.le_refl _) ?_; intro w1 hat hk hs hu1))
  exact bodyPost_ret (results_cell_at Tryz.results116 _ _ w.heap.size 108 _ _ (by rfl) (by assumption) Tryz.underlying108 rfl (by exact Tryz.info108)) rfl ⟨rfl, by assumption⟩
set_option maxHeartbeats 4000000 in
theorem rowAt_3 (i : Int) (k : Nat) (w : World) (hk : k < 52) (hi : i = 156 + k) : Calls Tryz.prog 116 #[.int .i64 i] w fun e w' => e = .returned (Rw.v (T3.getD k Rw.none)) ∧ Up w w' := by
  have e1 : i / 52 = 3 := by omega
  have e2 : i % 52 = k := by omega
  have h1 : 156 ≤ i := by omega
  have h2 : i < 208 := by omega
  clear hi
  go_enter Tryz.func116, Tryz.ntmps116
  go_wp2_with (first | (go_at_call 147; refine (from3_ok k _ hk).mono ?_; rintro e w' ⟨rfl, hu⟩) | (refine wpList_store_at rfl 108 _ _ rfl w.heap.size (Rw.cs (T3.getD k Rw.none)).toArray rfl rfl 108 _ (At.up (at_new _ _ _) (by assumption)) (by exact Tryz.info108) (by rfl) (by simp [Value.oneCell', Rw.cs]) w (Up.trans ((Up.refl _).alloc _) (by assumption)) (Nat.le_refl _) ?_; intro w1 hat hk hs hu1))
  exact bodyPost_ret (results_cell_at Tryz.results116 _ _ w.heap.size 108 _ _ (by rfl) (by assumption) Tryz.underlying108 rfl (by exact Tryz.info108)) rfl ⟨rfl, by assumption⟩
set_option maxHeartbeats 4000000 in
theorem rowAt_4 (i : Int) (k : Nat) (w : World) (hk : k < 52) (hi : i = 208 + k) : Calls Tryz.prog 116 #[.int .i64 i] w fun e w' => e = .returned (Rw.v (T4.getD k Rw.none)) ∧ Up w w' := by
  have e1 : i / 52 = 4 := by omega
  have e2 : i % 52 = k := by omega
  have h1 : 208 ≤ i := by omega
  have h2 : i < 260 := by omega
  clear hi
  go_enter Tryz.func116, Tryz.ntmps116
  go_wp2_with (first | (go_at_call 148; refine (from4_ok k _ hk).mono ?_; rintro e w' ⟨rfl, hu⟩) | (refine wpList_store_at rfl 108 _ _ rfl w.heap.size (Rw.cs (T4.getD k Rw.none)).toArray rfl rfl 108 _ (At.up (at_new _ _ _) (by assumption)) (by exact Tryz.info108) (by rfl) (by simp [Value.oneCell', Rw.cs]) w (Up.trans ((Up.refl _).alloc _) (by assumption)) (Nat.le_refl _) ?_; intro w1 hat hk hs hu1))
  exact bodyPost_ret (results_cell_at Tryz.results116 _ _ w.heap.size 108 _ _ (by rfl) (by assumption) Tryz.underlying108 rfl (by exact Tryz.info108)) rfl ⟨rfl, by assumption⟩
theorem rowAt_v (i : Int) (w : World) : Calls Tryz.prog 116 #[.int .i64 i] w fun e w' => e = .returned (Rw.v (rowP i)) ∧ Up w w' := by
  by_cases h : 0 ≤ i ∧ i < 260
  · have e : rowP i = tab.getD i.toNat Rw.none := if_pos h
    rw [e]
    have hq : i.toNat < 52 ∨ (52 ≤ i.toNat ∧ i.toNat < 104) ∨ (104 ≤ i.toNat ∧ i.toNat < 156) ∨ (156 ≤ i.toNat ∧ i.toNat < 208) ∨ 208 ≤ i.toNat := by omega
    rcases hq with hq | hq | hq | hq | hq
    · rw [tab_get0 _ hq]; exact rowAt_0 i i.toNat w hq (by omega)
    · rw [show i.toNat = 52 + (i.toNat - 52) by omega, tab_get1 _ (by omega)]; exact rowAt_1 i (i.toNat - 52) w (by omega) (by omega)
    · rw [show i.toNat = 104 + (i.toNat - 104) by omega, tab_get2 _ (by omega)]; exact rowAt_2 i (i.toNat - 104) w (by omega) (by omega)
    · rw [show i.toNat = 156 + (i.toNat - 156) by omega, tab_get3 _ (by omega)]; exact rowAt_3 i (i.toNat - 156) w (by omega) (by omega)
    · rw [show i.toNat = 208 + (i.toNat - 208) by omega, tab_get4 _ (by omega)]; exact rowAt_4 i (i.toNat - 208) w (by omega) (by omega)
  · have e : rowP i = Rw.none := if_neg h
    rw [e]
    exact rowAt_none i w (by omega)
/-- the same, the row's fields written out -/
theorem rowAt_ok (i : Int) (x : Rw) (hx : rowP i = x) (w : World) : Calls Tryz.prog 116 #[.int .i64 i] w fun e w' => e = .returned (.agg #[.int .i32 x.f, .int .i32 x.t, .int .i64 x.p.bidi, .int .i64 x.p.cl, .int .i64 x.p.br, .int .i64 x.p.sc, .int .i64 x.p.jn, .int .i64 x.p.wd, .int .i32 x.p.mi, .int .i32 x.p.pa, .bool x.p.op]) ∧ Up w w' := by
  have := rowAt_v i w
  rw [hx] at this
  exact this

/-- fields of a row, of what is told -/
theorem row_to (x : Rw) (w : World) : (Instr.field 108 (.agg #[.int .i32 x.f, .int .i32 x.t, .int .i64 x.p.bidi, .int .i64 x.p.cl, .int .i64 x.p.br, .int .i64 x.p.sc, .int .i64 x.p.jn, .int .i64 x.p.wd, .int .i32 x.p.mi, .int .i32 x.p.pa, .bool x.p.op]) 1).run Tryz.prog w = .ok (.int .i32 x.t) w := by
  simp [Instr.field, go_sem, part, asAgg, Tryz.isAgg21]

set_option maxHeartbeats 4000000 in
/-- the closure of find -/
theorem closure_ok (r : Int) (b : Nat) (i : Int) (w : World) (hc : w.cell? ⟨b, 0, none⟩ = some (.int .i32 r)) :
    Calls Tryz.prog 115 (#[.int .i64 i] ++ #[.pointer (some ⟨b, 0, none⟩)]) w fun e w' => e = .returned (.bool (decide (r ≤ (rowP i).t))) ∧ ∃ q os, w' = grow (w.drewN q) os := by
  have mixed : Tryz.prog.follows .mixedOrders = true := by kernel_rfl
  obtain ⟨x, hx⟩ : ∃ x, rowP i = x := ⟨_, rfl⟩
  rw [hx]
  have HX := Lib.hid hx
  have hb := block_lt_of_cell hc
  have hl : ∀ n os, (grow (w.drewN n) os).cell? ⟨b, 0, none⟩ = some (.int .i32 r) := fun n os => cell_grown hb hc n os
  have cr : ∀ n os, Calls Tryz.prog 116 #[.int .i64 i] (grow (w.drewN n) os) fun e w' => e = .returned (.agg #[.int .i32 x.f, .int .i32 x.t, .int .i64 x.p.bidi, .int .i64 x.p.cl, .int .i64 x.p.br, .int .i64 x.p.sc, .int .i64 x.p.jn, .int .i64 x.p.wd, .int .i32 x.p.mi, .int .i32 x.p.pa, .bool x.p.op]) ∧ ∃ q os', w' = grow ((grow (w.drewN n) os).drewN q) os' :=
    fun n os => (rowAt_ok i x HX.out _).mono fun _ _ ⟨he, hu⟩ => ⟨he, hu.grow⟩
  have hfl := fun w => row_to x w
  clear hx
  have HC := Lib.hid cr
  clear cr
  go_enter Tryz.func115, Tryz.ntmps115
  go_wp2
  go_quiet_grown ((go_at_call 116; exact Calls.grown_of (HC.out _ _)))
  go_wp2
  go_ret
  exact ⟨rfl, _, _, rfl⟩

/-- the binary search over the table -/
theorem search_ok (r : Int) (b : Nat) (w : World) (hc : w.cell? ⟨b, 0, none⟩ = some (.int .i32 r)) :
    Calls Tryz.prog 114 #[.int .i64 260, .func (.func 115) #[] #[.pointer (some ⟨b, 0, none⟩)]] w fun e w' => e = .returned (.int .i64 (below tab r : Nat)) ∧ Up w w' := by
  have eg : ∀ args w, (callFunc 115 args).run Tryz.prog w = .ok (.enter 115 args) w := enters_of Tryz.func115 (by kernel_rfl) rfl
  have hb := block_lt_of_cell hc
  have hS := Any.sort_Search Tryz.search 115 #[.pointer (some ⟨b, 0, none⟩)] 260 (fun i => decide (r ≤ (rowP (i : Int)).t)) w eg (by omega)
    (fun m os i hi => closure_ok r b (i : Int) _ (cell_grown hb hc m os)) (fun a c hac hcn h => rowP_mono r a c hac hcn h)
  rw [below_count] at hS
  exact hS.mono fun e w' ⟨he, q, os, hw⟩ => ⟨he, by rw [hw]; exact Up.of_grow w q os⟩

/-- the arms' facts behind the search -/
theorem find_facts {w w1 : World} {c c2 : Array Value} {t t2 : TypeId} (hu : Up ((w.alloc (.cells c t)).alloc (.cells c2 t2)) w1) : w.heap.size + 1 + 1 ≤ w1.heap.size ∧ At w1 w.heap.size t c ∧ At w1 (w.heap.size + 1) t2 c2 := by
  refine ⟨by have := hu.1.size; simpa using this, At.up ((at_new _ _ _).alloc _) hu, At.up ?_ hu⟩
  have := at_new (w.alloc (.cells c t)) c2 t2
  rwa [World.size_alloc] at this

set_option maxHeartbeats 4000000 in
theorem find_ok (r : Int) (w : World) : Calls Tryz.prog 87 #[.int .i32 r] w fun e w' => e = .returned (Rw.v (findP r)) ∧ Up w w' := by
  obtain ⟨x, hx⟩ : ∃ x, rowP (below tab r) = x := ⟨_, rfl⟩
  obtain ⟨n, hn⟩ : ∃ n, below tab r = n := ⟨_, rfl⟩
  have hn2 : n ≤ 260 := hn ▸ below_le r
  have cs := fun b w hc => search_ok r b w hc
  rw [hn] at cs
  rw [hn] at hx
  have cr := fun w => rowAt_ok n x hx w
  have e : findP r = if x.f ≤ r then x else Rw.none := by unfold findP; rw [hn, hx]
  rw [e]
  have HC := Lib.hid cs
  have HR := Lib.hid cr
  clear cs cr hx hn e
  by_cases hf : x.f ≤ r
  · rw [if_pos hf]
    go_enter Tryz.func87, Tryz.ntmps87
    go_wp2_with (first | (go_at_call 114; refine (HC.out w.heap.size _ (At.cell (At.alloc (at_new _ _ _) _) 0 _ rfl)).mono ?_; rintro e w' ⟨rfl, hu⟩; obtain ⟨hs1, ha1, ha2⟩ := find_facts hu; have hU1 : Up w w' := (((Up.refl w).alloc _).alloc _).trans hu; clear hu) | (go_at_call 116; refine (HR.out _).mono ?_; rintro e w2 ⟨rfl, hu2⟩; have hs2 := Nat.le_trans hs1 hu2.1.size; have hne : w.heap.size < w2.heap.size := (by omega); have hc2 := (ha1.up hu2).cell 0 _ rfl; have hb2 := ha2.up hu2; have hU2 := hU1.trans hu2; clear ha1 ha2 hU1 hu2 hs1 hs2) | (refine wpList_store_at rfl 108 _ _ rfl (w.heap.size + 1) (Rw.cs x).toArray rfl rfl 108 _ (At.alloc (by assumption) _) (by exact Tryz.info108) (by rfl) (by simp [Value.oneCell', Rw.cs]) w (Up.alloc (by assumption) _) (Nat.le_succ _) ?_; intro w3 hat hk hs hu1))
    exact bodyPost_ret (results_cell_at Tryz.results87 _ _ (w.heap.size + 1) 108 _ _ (by rfl) (by assumption) Tryz.underlying108 rfl (by exact Tryz.info108)) rfl ⟨rfl, by assumption⟩
  · rw [if_neg hf]
    go_enter Tryz.func87, Tryz.ntmps87
    go_wp2_with (first | (go_at_call 114; refine (HC.out w.heap.size _ (At.cell (At.alloc (at_new _ _ _) _) 0 _ rfl)).mono ?_; rintro e w' ⟨rfl, hu⟩; obtain ⟨hs1, ha1, ha2⟩ := find_facts hu; have hU1 : Up w w' := (((Up.refl w).alloc _).alloc _).trans hu; clear hu) | (go_at_call 116; refine (HR.out _).mono ?_; rintro e w2 ⟨rfl, hu2⟩; have hs2 := Nat.le_trans hs1 hu2.1.size; have hne : w.heap.size < w2.heap.size := (by omega); have hc2 := (ha1.up hu2).cell 0 _ rfl; have hb2 := ha2.up hu2; have hU2 := hU1.trans hu2; clear ha1 ha2 hU1 hu2 hs1 hs2) | (go_at_call 117; refine (default_ok _).mono ?_; rintro e w3 ⟨rfl, hu3⟩; have hb3 := (hb2.alloc _).up hu3; have hU3 := (hU2.alloc _).trans hu3; clear hb2 hU2 hu3) | (refine wpList_store_at rfl 108 _ _ rfl (w.heap.size + 1) (Rw.cs Rw.none).toArray rfl rfl 108 _ (by assumption) (by exact Tryz.info108) (by rfl) (by simp [Value.oneCell', Rw.cs]) w (by assumption) (Nat.le_succ _) ?_; intro w4 hat hk hs hu1))
    exact bodyPost_ret (results_cell_at Tryz.results87 _ _ (w.heap.size + 1) 108 _ _ (by rfl) (by assumption) Tryz.underlying108 rfl (by exact Tryz.info108)) rfl ⟨rfl, by assumption⟩
end Go.Proofs.YtnpcakeagpbgiaaGreat
