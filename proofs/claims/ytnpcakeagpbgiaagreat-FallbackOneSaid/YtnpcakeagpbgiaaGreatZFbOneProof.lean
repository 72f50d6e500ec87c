/-
  With one font, or none, all of a text is shown in the font 0; what needs no glyph stays in the font that is preferred; for every font of at most 100 mappings, any spans (at most 20) and every text of at most 30 code points (of others it says nothing); the arguments stay as they were.
-/
import Derived.Test.YtnpcakeagpbgiaaGreatAza
import Derived.Test.YtnpcakeagpbgiaaGreatZFont
import Derived.Test.YtnpcakeagpbgiaaGreatFya
import Derived.Test.YtnpcakeagpbgiaaGreatZFbq
import Derived.Test.YtnpcakeagpbgiaaGreatFyb
import Derived.Deep.RegionHeld3
set_option linter.unusedVariables false
namespace Go.Proofs.YtnpcakeagpbgiaaGreat.fallbackOne
open Go.ChangeShapes Go.WideShapes Go.ChangeAt Go.RowKit Go.Proofs.YtnpcakeagpbgiaaGreat
theorem own : ownKnob Tryz.prog.godebug = none := by kernel_rfl
theorem laidOut : laidOutB Tryz.prog = true := by kernel_rfl

open Go.Sort
set_option maxRecDepth 20000 in
set_option maxHeartbeats 8000000 in
theorem walk (x0 : Shp.Dat fontS) (A1 : Option Addr) (c1 : Nat) (z1 : List Int) (A2 : Option Addr) (c2 : Nat) (z2 : List (Shp.Dat S5.spanS)) (w : World) (h0 : Lies w w.heap.size fontS x0) (n1 : z1.length ≤ 9223372036854775807) (m1 : z1.length ≤ c1) (w1 : ∀ z ∈ z1, (Lit.int .i32 z).wf = true) (h1 : Has w w.heap.size A1 (z1.map (Value.int .i32))) (e1 : A1 = none → c1 = 0) (h2 : Lies w w.heap.size (.sl S5.spanS) ⟨A2, c2, z2⟩) :
    Calls Tryz.prog 5 #[.agg (Shp.row fontS x0).toArray, .slice A1 z1.length c1, .slice A2 z2.length c2] w fun e w' => e = .returned (.bool true) ∧ Below w.heap.size w w' := by
  obtain ⟨v0, v1, v3, v4, v5, A, c, hrow, ⟨g0, g1, g3, g4, g5⟩, hM, hl⟩ := font_row h0
  rw [hrow]
  have hs := S5.HasN.spans h2.2.1
  have hsl : z2.length = (z2.map S5.spOf).length := by simp
  generalize z2.map S5.spOf = sp at *
  have hn2 := h2.1.1
  generalize z2.length = np at *
  obtain ⟨m, hm⟩ : ∃ m, z1.length = m := ⟨_, rfl⟩
  obtain ⟨n, hn⟩ : ∃ n, (mapsOf x0).length = n := ⟨_, rfl⟩
  have hm' := hm.symm
  clear h2
  rw [hm, hn]
  rw [hn] at hl hrow
  by_cases hb1 : 100 < n
  · rw [hm] at n1
    clear h0 hrow hM hs hsl hm hn hm' h1 e1 w1 m1
    go_enter Tryz.func5, Tryz.ntmps5
    go_wp2
    go_ret
    exact ⟨rfl, ((Up.refl w).alloc _).1⟩
  by_cases hb2 : 30 < m
  · rw [hm] at n1
    clear h0 hrow hM hs hsl hm hn hm' h1 e1 w1 m1
    go_enter Tryz.func5, Tryz.ntmps5
    go_wp2
    go_ret
    exact ⟨rfl, ((Up.refl w).alloc _).1⟩
  by_cases hb3 : 20 < np
  · rw [hm] at n1
    clear h0 hrow hM hs hsl hm hn hm' h1 e1 w1 m1
    go_enter Tryz.func5, Tryz.ntmps5
    go_wp2
    go_ret
    exact ⟨rfl, ((Up.refl w).alloc _).1⟩
  have hML : ∀ k, ∀ x ∈ List.replicate k x0, (mapsOf x).length ≤ 1000000 := fun k x hx => by rw [List.eq_of_mem_replicate hx, hn]; omega
  have hcs : ∀ k, k = 1 ∨ k = 2 → ∀ i, i < k → ∀ q u, (fontS.row x0)[q]? = some u → (if k = 1 then #[v0, v1, .slice A n c, v3, v4, v5] else #[v0, v1, .slice A n c, v3, v4, v5, v0, v1, .slice A n c, v3, v4, v5])[i * 6 + q]? = some u := fun k hk i hi q u hq => by
    rw [hrow] at hq
    have hq6 : q < 6 := by simpa using (List.getElem?_eq_some_iff.1 hq).1
    rcases hk with rfl | rfl
    · obtain rfl : i = 0 := by omega
      match q, hq6 with
      | 0, _ | 1, _ | 2, _ | 3, _ | 4, _ | 5, _ => simpa using hq
    · rcases (by omega : i = 0 ∨ i = 1) with rfl | rfl
      all_goals
        match q, hq6 with
        | 0, _ | 1, _ | 2, _ | 3, _ | 4, _ | 5, _ => simpa using hq
  have HZ1 : Hid (ofF (allMaps (List.replicate 1 x0)) sp z1 = if 0 < m then [⟨0, m, 0⟩] else []) := Lib.hid (by rw [← hm]; exact ofF_zero _ sp z1 (fun p us a => pick_one _ p us a))
  have HZ0 : Hid (ofF (allMaps []) sp z1 = if 0 < m then [⟨0, m, 0⟩] else []) := Lib.hid (by rw [← hm]; exact ofF_zero _ sp z1 (fun p us a => pick_none p us a))
  have HP1 := Lib.hid (fun W g (hu : Below w.heap.size w W) (hg : At W g 43 #[v0, v1, .slice A n c, v3, v4, v5]) => hm ▸ HZ1.out ▸ pof_ok (some ⟨g, 0, none⟩) A1 A2 1 1 c1 z1.length c2 np (List.replicate 1 x0) z1 sp W rfl (by omega) (hML 1) rfl (by omega) m1 w1 hsl (by omega) (fonts_lit 1 _ hu hg h0 (hcs 1 (.inl rfl)) (by omega)) (h1.carry hu) (hs.carry hu))
  have HP0 := Lib.hid (fun W (hb : Below w.heap.size w W) => hm ▸ HZ0.out ▸ pof_ok none A1 A2 0 0 c1 z1.length c2 np [] z1 sp W rfl (by omega) (by simp) rfl (by omega) m1 w1 hsl (by omega) ⟨⟨by simp, by simp, fun _ => rfl⟩, HasN.nil_, by simp⟩ (h1.carry hb) (hs.carry hb))
  have HP2 := Lib.hid (fun W g g' (hu : Below w.heap.size w W) (hg : At W g 43 #[v0, v1, .slice A n c, v3, v4, v5, v0, v1, .slice A n c, v3, v4, v5]) (hg' : At W g' 21 #[.int .i32 8205, .int .i32 8234]) => (show pickF (allMaps (List.replicate 2 x0)) 1 [8205, 8234] 0 = 1 from pick_stay _ _ 0) ▸ ppick_ok (some ⟨g, 0, none⟩) (some ⟨g', 0, none⟩) 2 2 2 2 (List.replicate 2 x0) [8205, 8234] 1 0 W rfl (by omega) (hML 2) rfl (by omega) (by intro z hz; simp at hz; rcases hz with rfl | rfl <;> rfl) (fonts_lit 2 _ hu hg h0 (hcs 2 (.inr rfl)) (by omega)) (fun _ => ⟨g', 0, rfl, hg'.lt, fun j u hj => by
    rw [Nat.zero_add]
    match j, hj with
    | 0, hj => exact hg'.cell 0 _ (by simpa using hj)
    | 1, hj => exact hg'.cell 1 _ (by simpa using hj)⟩))
  by_cases hm0 : 0 < m
  case' pos =>
    rw [if_pos hm0] at HP1 HP0
    have hB2 : Below w.heap.size w (((w.alloc (.cells #[v0, v1, .slice A n c, v3, v4, v5] 43)).alloc (.cells #[.int .i64 0, .int .i64 (m : Int), .int .i64 0] 32)).alloc (.cells #[v0, v1, .slice A n c, v3, v4, v5] 43)) := ((((Up.refl w).alloc _).alloc _).alloc _).1
    have hA2 : At (((w.alloc (.cells #[v0, v1, .slice A n c, v3, v4, v5] 43)).alloc (.cells #[.int .i64 0, .int .i64 (m : Int), .int .i64 0] 32)).alloc (.cells #[v0, v1, .slice A n c, v3, v4, v5] 43)) (w.heap.size + 1 + 1) 43 #[v0, v1, .slice A n c, v3, v4, v5] := by
      have := at_new ((w.alloc (.cells #[v0, v1, .slice A n c, v3, v4, v5] 43)).alloc (.cells #[.int .i64 0, .int .i64 (m : Int), .int .i64 0] 32)) #[v0, v1, .slice A n c, v3, v4, v5] 43
      simpa using this
    have hX2 : At (((w.alloc (.cells #[v0, v1, .slice A n c, v3, v4, v5] 43)).alloc (.cells #[.int .i64 0, .int .i64 (m : Int), .int .i64 0] 32)).alloc (.cells #[v0, v1, .slice A n c, v3, v4, v5] 43)) w.heap.size 43 #[v0, v1, .slice A n c, v3, v4, v5] := ((at_new w _ _).alloc _).alloc _
    have HC1 := Lib.hid (HP1.out (((w.alloc (.cells #[v0, v1, .slice A n c, v3, v4, v5] 43)).alloc (.cells #[.int .i64 0, .int .i64 (m : Int), .int .i64 0] 32)).alloc (.cells #[v0, v1, .slice A n c, v3, v4, v5] 43)) ((w.heap.size + 1 + 1)) hB2 hA2)
    have HK := Lib.hid (fun W (hb : Below ((((w.alloc (.cells #[v0, v1, .slice A n c, v3, v4, v5] 43)).alloc (.cells #[.int .i64 0, .int .i64 (m : Int), .int .i64 0] 32)).alloc (.cells #[v0, v1, .slice A n c, v3, v4, v5] 43))).heap.size (((w.alloc (.cells #[v0, v1, .slice A n c, v3, v4, v5] 43)).alloc (.cells #[.int .i64 0, .int .i64 (m : Int), .int .i64 0] 32)).alloc (.cells #[v0, v1, .slice A n c, v3, v4, v5] 43)) W) => (⟨hB2.trans (hb.mono hB2.size), hX2.below hb⟩ : Below w.heap.size w W ∧ At W w.heap.size 43 #[v0, v1, .slice A n c, v3, v4, v5]))
    have hS2 : At (((w.alloc (.cells #[v0, v1, .slice A n c, v3, v4, v5] 43)).alloc (.cells #[.int .i64 0, .int .i64 (m : Int), .int .i64 0] 32)).alloc (.cells #[v0, v1, .slice A n c, v3, v4, v5] 43)) (w.heap.size + 1) 32 #[.int .i64 0, .int .i64 (m : Int), .int .i64 0] := by
      have := (at_new (w.alloc (.cells #[v0, v1, .slice A n c, v3, v4, v5] 43)) #[.int .i64 0, .int .i64 (m : Int), .int .i64 0] 32).alloc (.cells #[v0, v1, .slice A n c, v3, v4, v5] 43)
      simpa using this
    have HS := Lib.hid (fun W A3 c3 (hb : Below ((((w.alloc (.cells #[v0, v1, .slice A n c, v3, v4, v5] 43)).alloc (.cells #[.int .i64 0, .int .i64 (m : Int), .int .i64 0] 32)).alloc (.cells #[v0, v1, .slice A n c, v3, v4, v5] 43))).heap.size (((w.alloc (.cells #[v0, v1, .slice A n c, v3, v4, v5] 43)).alloc (.cells #[.int .i64 0, .int .i64 (m : Int), .int .i64 0] 32)).alloc (.cells #[v0, v1, .slice A n c, v3, v4, v5] 43)) W) (H3 : S5.HasS W W.heap.size A3 [⟨0, m, 0⟩]) => S5.sameS_ok A3 (some ⟨w.heap.size + 1, 0, none⟩) c3 1 _ 1 [⟨0, m, 0⟩] [⟨0, m, 0⟩] W rfl rfl (by simp) (by omega) H3 (fun _ => ⟨w.heap.size + 1, 0, rfl, (hS2.below hb).lt, fun i s hs => by
      have hi : i = 0 := by
        have := (List.getElem?_eq_some_iff.1 hs).1
        simpa using this
      subst hi
      simp at hs
      subst hs
      exact ⟨(hS2.below hb).cell 0 _ rfl, (hS2.below hb).cell 1 _ rfl, (hS2.below hb).cell 2 _ rfl⟩⟩))
    generalize ([⟨0, m, 0⟩] : List S5.Sp) = L at *
    rw [decide_eq_true rfl] at HS
    clear hS2
  case' neg =>
    rw [if_neg hm0] at HP1 HP0
    have hB2 : Below w.heap.size w ((w.alloc (.cells #[v0, v1, .slice A n c, v3, v4, v5] 43)).alloc (.cells #[v0, v1, .slice A n c, v3, v4, v5] 43)) := (((Up.refl w).alloc _).alloc _).1
    have hA2 : At ((w.alloc (.cells #[v0, v1, .slice A n c, v3, v4, v5] 43)).alloc (.cells #[v0, v1, .slice A n c, v3, v4, v5] 43)) (w.heap.size + 1) 43 #[v0, v1, .slice A n c, v3, v4, v5] := by
      have := at_new (w.alloc (.cells #[v0, v1, .slice A n c, v3, v4, v5] 43)) #[v0, v1, .slice A n c, v3, v4, v5] 43
      simpa using this
    have hX2 : At ((w.alloc (.cells #[v0, v1, .slice A n c, v3, v4, v5] 43)).alloc (.cells #[v0, v1, .slice A n c, v3, v4, v5] 43)) w.heap.size 43 #[v0, v1, .slice A n c, v3, v4, v5] := (at_new w _ _).alloc _
    have HC1 := Lib.hid (HP1.out ((w.alloc (.cells #[v0, v1, .slice A n c, v3, v4, v5] 43)).alloc (.cells #[v0, v1, .slice A n c, v3, v4, v5] 43)) ((w.heap.size + 1)) hB2 hA2)
    have HK := Lib.hid (fun W (hb : Below (((w.alloc (.cells #[v0, v1, .slice A n c, v3, v4, v5] 43)).alloc (.cells #[v0, v1, .slice A n c, v3, v4, v5] 43))).heap.size ((w.alloc (.cells #[v0, v1, .slice A n c, v3, v4, v5] 43)).alloc (.cells #[v0, v1, .slice A n c, v3, v4, v5] 43)) W) => (⟨hB2.trans (hb.mono hB2.size), hX2.below hb⟩ : Below w.heap.size w W ∧ At W w.heap.size 43 #[v0, v1, .slice A n c, v3, v4, v5]))
    have HS := Lib.hid (fun W A3 c3 (hb : Below (((w.alloc (.cells #[v0, v1, .slice A n c, v3, v4, v5] 43)).alloc (.cells #[v0, v1, .slice A n c, v3, v4, v5] 43))).heap.size ((w.alloc (.cells #[v0, v1, .slice A n c, v3, v4, v5] 43)).alloc (.cells #[v0, v1, .slice A n c, v3, v4, v5] 43)) W) (H3 : S5.HasS W W.heap.size A3 []) => S5.sameS_ok A3 none c3 0 _ 0 [] [] W rfl rfl (by simp) (by omega) H3 S5.HasS.nil_)
    generalize ([] : List S5.Sp) = L at *
    rw [decide_eq_true rfl] at HS
  all_goals
    clear hB2 hA2 hX2 HP1 HZ1 HZ0 hML hcs hrow hM h0 hs hsl h1 e1 w1 hm hn hm' n1 m1
    go_enter Tryz.func5, Tryz.ntmps5
    go_wp2_with (first
      | (go_at_call 8; first
        | ((with_reducible refine HC1.out.mono ?_); rintro e w3 ⟨v3', rfl, A3, c3, rfl, k3, H3, q3⟩; have HS3 := Lib.hid (HS.out w3 A3 c3 q3 H3); have z3 := (HK.out w3 q3).1)
        | ((with_reducible refine HD.out.mono ?_); rintro e w5 ⟨v5', rfl, A5, c5, rfl, k5, H5, q5⟩; have z5 := q4.trans (q5.mono q4.size); have HS5 := Lib.hid (HS.out w5 A5 c5 z5 H5)))
      | (go_at_call 7; first
        | ((with_reducible refine HS3.out.mono ?_); rintro e w4 ⟨rfl, hu4⟩; have q4 := q3.trans (hu4.1.mono q3.size); have HD := Lib.hid (HP0.out w4 (HK.out w4 q4).1))
        | ((with_reducible refine HS5.out.mono ?_); rintro e w6 ⟨rfl, hu6⟩; have q6 := z5.trans (hu6.1.mono z5.size); obtain ⟨z6, hx6⟩ := HK.out w6 q6; have x0 := hx6.cell 0 _ rfl; have x1 := hx6.cell 1 _ rfl; have x2 := hx6.cell 2 _ rfl; have x3 := hx6.cell 3 _ rfl; have x4 := hx6.cell 4 _ rfl; have x5 := hx6.cell 5 _ rfl
           have HE := Lib.hid (HP2.out ((w6.alloc (.cells #[v0, v1, .slice A n c, v3, v4, v5, v0, v1, .slice A n c, v3, v4, v5] 43)).alloc (.cells #[.int .i32 8205, .int .i32 8234] 21)) w6.heap.size (w6.heap.size + 1) (z6.trans (((((Up.refl w6).alloc _).alloc _).1).mono z6.size)) ((at_new w6 _ _).alloc _) (by have := at_new (w6.alloc (.cells #[v0, v1, .slice A n c, v3, v4, v5, v0, v1, .slice A n c, v3, v4, v5] 43)) #[.int .i32 8205, .int .i32 8234] 21; simpa using this))))
      | (go_at_call 15; (with_reducible refine HE.out.mono ?_); rintro e w7 ⟨rfl, hu7⟩))
    go_ret
    exact ⟨rfl, (z6.trans (((((Up.refl w6).alloc _).alloc _).1).mono z6.size)).trans (hu7.mono ((z6.trans (((((Up.refl w6).alloc _).alloc _).1).mono z6.size)).size))⟩

set_option maxRecDepth 100000 in
theorem lifted (os : Os) (started : os.Started) (H : Type) (enc : TypeId × Value → H) :
    ReturnsInHanded {} Tryz.checked os 5 .any (Rows.fallbackOneSpec.pre6 enc Tryz.prog Tryz.f5 Rows.fallbackOneRow.domain false) (Rows.fallbackOneSpec.post enc Tryz.prog Tryz.f5 false true false false) := by
  refine returnsInHanded_of_change (C := Tryz.checked) own started (by kernel_rfl) Tryz.func5
    (ChangeSpec.witness6 (enc := enc) (C := Tryz.checked) false ⟨#[], #[.agg #[.int .i64 0, .slice none 0 0, .slice none 0 0, .slice none 0 0, .slice none 0 0, .slice none 0 0], .slice none 0 0, .slice none 0 0], []⟩ 8 (by kernel_rfl) (by kernel_rfl) (by kernel_rfl) (by kernel_rfl)) ?_
  intro W base args ds gs before hval0 hW hcnd _
  have hval : ∀ (j : Nat) t v, Tryz.f5.params[j]? = some t → args[j]? = some v → Value.okWide Tryz.prog W .any base t v := hval0
  have hW' := hW
  obtain ⟨p, q, hA0, hV, rfl, hfz, hnd⟩ := hW
  have hA : DataW.TrodAll enc Tryz.prog W 0 (fun _ => true) true Tryz.f5.params.toList args.toList ds p := hA0
  rw [Tryz.params5] at hA hval
  obtain ⟨v0, vs0, d0, ds0, p0, q0, hargs, rfl, rfl, h0, r0⟩ := trodAll_cons hA
  obtain ⟨v1, vs1, d1, ds1, p1, q1, rfl, rfl, rfl, h1, r1⟩ := trodAll_cons r0
  obtain ⟨v2, vs2, d2, ds2, p2, q2, rfl, rfl, rfl, h2, r2⟩ := trodAll_cons r1
  obtain ⟨rfl, rfl, rfl⟩ := trodAll_nil r2
  obtain rfl : args = #[v0, v1, v2] := by cases args; simp_all
  obtain ⟨rfl, rfl⟩ := trodVars_none hV
  clear hA0 hval0
  have hlt : ∀ x ∈ p0 ++ (p1 ++ (p2 ++ [])), x.block < W.heap.size := fun x hx => by simpa using hW'.lt x (List.mem_append_left _ hx)
  have k0 := h0
  have k1 := h1
  have k2 := h2
  obtain ⟨x0, hv0, hh0⟩ := seen_any fontS Tryz.underlying43 (by kernel_rfl) (hval 0 43 v0 rfl rfl) h0 (fun x hx => hlt x (List.mem_append_left _ hx))
  subst hv0
  obtain ⟨A1, l1, c1, rfl⟩ := okWide_slice Tryz.underlying23 (hval 1 23 v1 rfl rfl)
  obtain ⟨z1, rfl, n1, m1, w1, hh1⟩ := has_ints Tryz.underlying23 Tryz.underlying21 (by kernel_rfl) h1 (fun x hx => hlt x (List.mem_append_right _ (List.mem_append_left _ hx)))
  have e1 := none_cap Tryz.underlying23 Tryz.underlying21 (by kernel_rfl) k1
  obtain ⟨A2, l2, c2, rfl⟩ := okWide_slice Tryz.underlying24 (hval 2 24 v2 rfl rfl)
  obtain ⟨z2, rfl, hh2⟩ := seen_list S5.spanS (by kernel_rfl) h2 (fun x hx => hlt x (List.mem_append_right _ (List.mem_append_right _ (List.mem_append_left _ hx))))
  refine (walk x0 A1 c1 z1 A2 c2 z2 W hh0 n1 m1 w1 hh1 e1 hh2).mono fun e W' ⟨he, hb⟩ => ?_
  subst he
  exact ⟨_, rfl, _, _, _, [], _, [], hW', (trodAll_cons_mk (shut_bool Tryz.underlying4 _) trodAll_mk0), (trodAll_cons_mk (Below.trod laidOut (by kernel_rfl) (of_decide_eq_true (by kernel_rfl)) k0 hb (fun x hx => hlt x (List.mem_append_left _ hx))) (trodAll_cons_mk (Below.trod laidOut (by kernel_rfl) (of_decide_eq_true (by kernel_rfl)) k1 hb (fun x hx => hlt x (List.mem_append_right _ (List.mem_append_left _ hx)))) (trodAll_cons_mk (Below.trod laidOut (by kernel_rfl) (of_decide_eq_true (by kernel_rfl)) k2 hb (fun x hx => hlt x (List.mem_append_right _ (List.mem_append_right _ (List.mem_append_left _ hx))))) trodAll_mk0))), rfl, hb.frame _, fun h => by cases h⟩

theorem over : Rows.fallbackOneRow.holds Tryz.pinned (OpenSpec.ofChange Rows.fallbackOneSpec) :=
  OpenClaim.holds_of_wide 5 Tryz.f5 rfl rfl rfl rfl rfl rfl rfl ⟨rfl, rfl, rfl, rfl, rfl⟩ rfl rfl rfl rfl rfl (by kernel_rfl) Tryz.func5 (by kernel_rfl)
    (of_decide_eq_true (by kernel_rfl)) (by unfold Func.isWrapper; first | (rw [if_pos (by decide +kernel)]; kernel_rfl) | (rw [if_neg (by decide +kernel)]; exact ⟨rfl, rfl⟩))
    (fun os started H enc _ => lifted os started H enc)

/-- the statement -/
theorem proved : Rows.FallbackOneSaid :=
  over
#print axioms proved
end Go.Proofs.YtnpcakeagpbgiaaGreat.fallbackOne
