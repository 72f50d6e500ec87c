/-
  Contracts of the program's Of, of Same, Canon, Rows and Row. No condition.
-/
import Derived.Test.YtnpcakeagpbgiaaGreatZFind
set_option linter.unusedVariables false
namespace Go.Proofs.YtnpcakeagpbgiaaGreat
open Go.ChangeShapes Go.WideShapes Go.ChangeAt Go.RowKit Go.Sort

theorem find_x (r : Int) (x : Rw) (hx : findP r = x) (w : World) : Calls Tryz.prog 87 #[.int .i32 r] w fun e w' => e = .returned (.agg #[.int .i32 x.f, .int .i32 x.t, .int .i64 x.p.bidi, .int .i64 x.p.cl, .int .i64 x.p.br, .int .i64 x.p.sc, .int .i64 x.p.jn, .int .i64 x.p.wd, .int .i32 x.p.mi, .int .i32 x.p.pa, .bool x.p.op]) ∧ Up w w' := by
  have := find_ok r w
  rw [hx] at this
  exact this
theorem prop_x (x : Rw) (w : World) : Calls Tryz.prog 88 #[.agg #[.int .i32 x.f, .int .i32 x.t, .int .i64 x.p.bidi, .int .i64 x.p.cl, .int .i64 x.p.br, .int .i64 x.p.sc, .int .i64 x.p.jn, .int .i64 x.p.wd, .int .i32 x.p.mi, .int .i32 x.p.pa, .bool x.p.op]] w fun e w' => e = .returned (.agg #[.int .i64 x.p.bidi, .int .i64 x.p.cl, .int .i64 x.p.br, .int .i64 x.p.sc, .int .i64 x.p.jn, .int .i64 x.p.wd, .int .i32 x.p.mi, .int .i32 x.p.pa, .bool x.p.op]) ∧ Up w w' := prop_ok _ _ _ _ _ _ _ _ _ _ _ w

set_option maxHeartbeats 2000000 in
theorem of_ok (r : Int) (w : World) : Calls Tryz.prog 64 #[.int .i32 r] w fun e w' => e = .returned (Pr.v (ofP r)) ∧ Up w w' := by
  obtain ⟨x, hx⟩ : ∃ x, findP r = x := ⟨_, rfl⟩
  obtain ⟨f, t, p⟩ := x
  have hh := findP_hangul r
  have HF := Lib.hid (fun w => find_x r ⟨f, t, p⟩ hx w)
  rw [hx] at hh
  by_cases hin : 44032 ≤ r ∧ r ≤ 55203
  · obtain ⟨ha, hb⟩ := hin
    have hxf : f = 44032 := hh.2 ⟨ha, hb⟩
    subst hxf
    by_cases hm : (r - 44032) % 28 = 0
    · rw [ofP_yes r ⟨ha, hb, hm⟩, hx]
      clear hx hh
      go_enter Tryz.func64, Tryz.ntmps64
      go_wp2_with (first | (go_at_call 87; refine (HF.out _).mono ?_; rintro e w1 ⟨rfl, hu⟩; have hs1 := hu.1.size; have ha1 := (at_new _ _ _).up hu; have hU1 : Up w w1 := ((Up.refl w).alloc _).trans hu; rw [World.size_alloc] at hs1; clear hu) | (go_at_call 88; refine (prop_x ⟨44032, t, p⟩ _).mono ?_; rintro e w2 ⟨rfl, hu2⟩; have hb1 := at_new w1 #[.int .i32 44032, .int .i32 t, .int .i64 p.bidi, .int .i64 p.cl, .int .i64 p.br, .int .i64 p.sc, .int .i64 p.jn, .int .i64 p.wd, .int .i32 p.mi, .int .i32 p.pa, .bool p.op] 108; have hc1 := (hb1.up hu2).cell 0 _ rfl; have hb2 := (hb1.up hu2).lt; have ha2 := (ha1.alloc _).up hu2; have hU2 := (hU1.alloc _).trans hu2; clear hb1 ha1 hU1 hu2) | (refine wpList_store_at rfl 91 _ _ rfl w.heap.size _ rfl rfl 91 _ (At.alloc (by assumption) _) (by exact Tryz.info91) (by rfl) (by simp [Value.oneCell']) w (Up.alloc (by assumption) _) (Nat.le_refl _) ?_; intro w3 hat hk hs hu1))
      exact bodyPost_ret (results_cell_at Tryz.results64 _ _ w.heap.size 91 _ _ (by rfl) (by assumption) Tryz.underlying91 rfl (by exact Tryz.info91)) rfl ⟨rfl, by assumption⟩
    · rw [ofP_no r (fun h => hm h.2.2), hx]
      clear hx hh
      go_enter Tryz.func64, Tryz.ntmps64
      go_wp2_with (first | (go_at_call 87; refine (HF.out _).mono ?_; rintro e w1 ⟨rfl, hu⟩; have hs1 := hu.1.size; have ha1 := (at_new _ _ _).up hu; have hU1 : Up w w1 := ((Up.refl w).alloc _).trans hu; rw [World.size_alloc] at hs1; clear hu) | (go_at_call 88; refine (prop_x ⟨44032, t, p⟩ _).mono ?_; rintro e w2 ⟨rfl, hu2⟩; have hb1 := at_new w1 #[.int .i32 44032, .int .i32 t, .int .i64 p.bidi, .int .i64 p.cl, .int .i64 p.br, .int .i64 p.sc, .int .i64 p.jn, .int .i64 p.wd, .int .i32 p.mi, .int .i32 p.pa, .bool p.op] 108; have hc1 := (hb1.up hu2).cell 0 _ rfl; have hb2 := (hb1.up hu2).lt; have ha2 := (ha1.alloc _).up hu2; have hU2 := (hU1.alloc _).trans hu2; clear hb1 ha1 hU1 hu2) | (refine wpList_store_at rfl 91 _ _ rfl w.heap.size _ rfl rfl 91 _ (At.alloc (by assumption) _) (by exact Tryz.info91) (by rfl) (by simp [Value.oneCell']) w (Up.alloc (by assumption) _) (Nat.le_refl _) ?_; intro w3 hat hk hs hu1))
      exact bodyPost_ret (results_cell_at Tryz.results64 _ _ w.heap.size 91 _ _ (by rfl) (by assumption) Tryz.underlying91 rfl (by exact Tryz.info91)) rfl ⟨rfl, by assumption⟩
  · have hxf : ¬ f = 44032 := fun h => hin (hh.1 h)
    rw [ofP_no r (fun h => hin ⟨h.1, h.2.1⟩), hx]
    clear hx hh
    go_enter Tryz.func64, Tryz.ntmps64
    go_wp2_with (first | (go_at_call 87; refine (HF.out _).mono ?_; rintro e w1 ⟨rfl, hu⟩; have hs1 := hu.1.size; have ha1 := (at_new _ _ _).up hu; have hU1 : Up w w1 := ((Up.refl w).alloc _).trans hu; rw [World.size_alloc] at hs1; clear hu) | (go_at_call 88; refine (prop_x ⟨f, t, p⟩ _).mono ?_; rintro e w2 ⟨rfl, hu2⟩; have hb1 := at_new w1 #[.int .i32 f, .int .i32 t, .int .i64 p.bidi, .int .i64 p.cl, .int .i64 p.br, .int .i64 p.sc, .int .i64 p.jn, .int .i64 p.wd, .int .i32 p.mi, .int .i32 p.pa, .bool p.op] 108; have hc1 := (hb1.up hu2).cell 0 _ rfl; have hb2 := (hb1.up hu2).lt; have ha2 := (ha1.alloc _).up hu2; have hU2 := (hU1.alloc _).trans hu2; clear hb1 ha1 hU1 hu2) | (refine wpList_store_at rfl 91 _ _ rfl w.heap.size _ rfl rfl 91 _ (At.alloc (by assumption) _) (by exact Tryz.info91) (by rfl) (by simp [Value.oneCell']) w (Up.alloc (by assumption) _) (Nat.le_refl _) ?_; intro w3 hat hk hs hu1))
    exact bodyPost_ret (results_cell_at Tryz.results64 _ _ w.heap.size 91 _ _ (by rfl) (by assumption) Tryz.underlying91 rfl (by exact Tryz.info91)) rfl ⟨rfl, by assumption⟩
end Go.Proofs.YtnpcakeagpbgiaaGreat
