/-
  The statement 'SpansMeetSaid': what Meet tells of any two, of one function. No condition.
-/
import Derived.Test.YtojplkkmpnaibaaHas
import Derived.Test.YtojplkkmpnaibaaHasStruct
import Derived.Test.YtojplkkmpnaibaaMeet
import Derived.Test.YtojplkkmpnaibaaArg
import Derived.Deep.RegionHeld3
set_option linter.unusedVariables false
namespace Go.Proofs.Ytojplkkmpnaibaa.spansMeet
open Go.ChangeShapes Go.WideShapes Go.ChangeAt Go.RowKit Go.Proofs.Ytojplkkmpnaibaa
theorem own : ownKnob Try.prog.godebug = none := by kernel_rfl
theorem laidOut : laidOutB Try.prog = true := by kernel_rfl
theorem pair41 : Go.WideMaps.ArrKey Try.prog 41 3 2 := ⟨Try.underlying41, by kernel_rfl, by kernel_rfl, by kernel_rfl⟩


theorem box_cell (w : World) (cs : Array Value) (t : TypeId) (j : Nat) (v : Value) (h : cs[j]? = some v) : (w.alloc (.cells cs t)).cell? ⟨w.heap.size, j, none⟩ = some v := (at_new w cs t).cell j v h
theorem meetK_succ (f : Int → Int → Int) (xs ys : List Int) (i : Nat) (h1 : i < xs.length) (h2 : i < ys.length) : meetK f xs ys (i + 1) = meetK f xs ys i ++ [f xs[i] ys[i]] := by
  unfold meetK
  rw [take_succ_ xs i h1, take_succ_ ys i h2, List.zipWith_append (by simp; omega)]
  rfl
set_option maxHeartbeats 8000000 in
theorem walk (A0 : Option Addr) (c0 : Nat) (z0 : List (List Int)) (A1 : Option Addr) (c1 : Nat) (z1 : List (List Int)) (a2 b2 : Int) (w : World) (n0 : z0.length ≤ 9223372036854775807) (m0 : z0.length ≤ c0) (w0 : ∀ z ∈ z0, z.length = 3 ∧ ∀ x ∈ z, (Lit.int .i64 x).wf = true) (h0 : HasRows w w.heap.size A0 3 (z0.map (·.map (Value.int .i64)))) (n1 : z1.length ≤ 9223372036854775807) (m1 : z1.length ≤ c1) (w1 : ∀ z ∈ z1, z.length = 3 ∧ ∀ x ∈ z, (Lit.int .i64 x).wf = true) (h1 : HasRows w w.heap.size A1 3 (z1.map (·.map (Value.int .i64)))) (w2 : (Lit.int .i64 a2).wf = true) (u2 : (Lit.int .i64 b2).wf = true) :
    Calls Try.prog 8 #[.slice A0 z0.length c0, .slice A1 z1.length c1, .agg #[.int .i64 a2, .int .i64 b2]] w fun e w' => e = .returned (.bool true) ∧ Below w.heap.size w w' := by
  obtain ⟨l, hl, hh, _⟩ := spans_of_rows w0 h0
  obtain ⟨lb, hlb, hhb, _⟩ := spans_of_rows w1 h1
  obtain ⟨n, hn⟩ : ∃ n, z0.length = n := ⟨_, rfl⟩
  obtain ⟨nb, hnb⟩ : ∃ n, z1.length = n := ⟨_, rfl⟩
  rw [hn] at hl n0 ⊢
  rw [hnb] at hlb n1 ⊢
  have hb0 : Below w.heap.size w (w.alloc (.cells #[.int .i64 a2, .int .i64 b2] 41)) := (Below.refl _ _).alloc (Nat.le_refl _) _
  have hmany := fun w1 => many_ok A0 c0 n w1
  have hmanyb := fun w1 => many_ok A1 c1 nb w1
  by_cases hm : 20 < n
  · have hd : decide (20 < (n : Int)) = true := decide_eq_true (by omega)
    rw [hd] at hmany
    clear hm hd h0 hh hmanyb h1 hhb
    go_enter Try.func8, Try.ntmps8
    go_wp2_with (go_at_call 11; (with_reducible refine (hmany _).mono ?_); rintro e w' ⟨rfl, rfl⟩)
    go_ret
    exact ⟨rfl, hb0⟩
  have hd : decide (20 < (n : Int)) = false := decide_eq_false (by omega)
  rw [hd] at hmany
  by_cases hmb : 20 < nb
  · have hd : decide (20 < (nb : Int)) = true := decide_eq_true (by omega)
    rw [hd] at hmanyb
    clear hm hmb hd h0 hh h1 hhb
    go_enter Try.func8, Try.ntmps8
    go_wp2_with (first
      | (go_at_call 11; (with_reducible refine (hmany _).mono ?_); rintro e w' ⟨rfl, rfl⟩)
      | (go_at_call 11; (with_reducible refine (hmanyb _).mono ?_); rintro e w' ⟨rfl, rfl⟩))
    go_ret
    exact ⟨rfl, hb0⟩
  have hdb : decide (20 < (nb : Int)) = false := decide_eq_false (by omega)
  rw [hdb] at hmanyb
  have H22a := Lib.hid (fun w1 (h : HasS w1 w1.heap.size A0 l) => wholeL_ok A0 c0 n l a2 w1 hl.symm (by omega) h)
  have H22b := Lib.hid (fun w1 (h : HasS w1 w1.heap.size A1 lb) => wholeL_ok A1 c1 nb lb b2 w1 hlb.symm (by omega) h)
  have hxl : (vals l (min a2 60)).length ≤ 100 := by rw [length_vals]; omega
  have hyl : (vals lb (min b2 60)).length ≤ 100 := by rw [length_vals]; omega
  generalize vals l (min a2 60) = xs at H22a hxl
  generalize vals lb (min b2 60) = ys at H22b hyl
  have hol := length_of xs
  have hob := length_of ys
  have H30a := Lib.hid (fun A c w1 (h : HasS w1 w1.heap.size A (of xs)) => End_ok A c (of xs).length (of xs) w1 w1.heap.size rfl (by omega) h)
  have H30b := Lib.hid (fun A c w1 (h : HasS w1 w1.heap.size A (of ys)) => End_ok A c (of ys).length (of ys) w1 w1.heap.size rfl (by omega) h)
  rw [endS_of] at H30a H30b
  have H29a := Lib.hid (fun A c w1 (h : HasS w1 w1.heap.size A (of xs)) => vals_ok A c (of xs).length (of xs) xs.length w1 rfl (by omega) (by omega) h)
  have H29b := Lib.hid (fun A c w1 (h : HasS w1 w1.heap.size A (of ys)) => vals_ok A c (of ys).length (of ys) ys.length w1 rfl (by omega) (by omega) h)
  rw [vals_of] at H29a H29b
  have H32 := Lib.hid (fun A A' c c' w1 hc hc' (h : HasS w1 w1.heap.size A (of xs)) (h' : HasS w1 w1.heap.size A' (of ys)) => (meet_ok A A' c c' (of xs).length (of ys).length xs ys w1 rfl rfl hc hc' (by omega) (by omega) h h').mono fun _ _ h => MineSOf.spans h)
  have hzl : (List.zipWith bothP xs ys).length ≤ 100 := by simp; omega
  have H33 := Lib.hid (fun A c w1 (h : Has w1 w1.heap.size A ((List.zipWith bothP xs ys).map (Value.int .i64))) => of_ok A c (List.zipWith bothP xs ys).length (List.zipWith bothP xs ys) w1 rfl (by omega) h)
  have HME := Lib.hid (fun (m : Nat) h h1 h2 => @meet_end bothP xs ys m h h1 h2)
  have HMS := Lib.hid (fun (i : Nat) h1 h2 => meetK_succ bothP xs ys i h1 h2)
  have HML := Lib.hid (fun (i : Nat) h1 h2 => meetK_length bothP xs ys i h1 h2)
  generalize List.zipWith bothP xs ys = zs at H32 H33 hzl HME
  have hrl : (of zs).length ≤ 100 := by have := length_of zs; omega
  have H12 := Lib.hid (fun A B c d w1 h1 h2 => sameS_ok A B c d (of zs).length (of zs).length (of zs) (of zs) w1 rfl rfl (by omega) (by omega) h1 h2)
  rw [show decide (of zs = of zs) = true by simp] at H12
  generalize of zs = R at H32 H33 H12
  generalize of xs = La at H22a H30a H29a H32
  generalize of ys = Lb at H22b H30b H29b H32
  simp only [SpansOf, SpansV, SliceOf, SliceV] at H22a H22b H29a H29b H32 H33
  obtain ⟨m, hm2⟩ : ∃ m, La.length = m := ⟨_, rfl⟩
  obtain ⟨mb, hm3⟩ : ∃ m, Lb.length = m := ⟨_, rfl⟩
  obtain ⟨r, hr⟩ : ∃ r, R.length = r := ⟨_, rfl⟩
  obtain ⟨p, hp⟩ : ∃ p, xs.length = p := ⟨_, rfl⟩
  obtain ⟨q, hq⟩ : ∃ p, ys.length = p := ⟨_, rfl⟩
  rw [hm2] at H22a H30a H29a H32
  rw [hm3] at H22b H30b H29b H32
  rw [hr] at H12 H32 H33
  obtain ⟨zl, hzl2⟩ : ∃ p, zs.length = p := ⟨_, rfl⟩
  have HP := Lib.hid hp
  have HQ := Lib.hid hq
  rw [hp] at H30a H29a hxl
  rw [hq] at H30b H29b hyl
  have hh0 := hh.carry hb0
  have hhb0 := hhb.carry hb0
  have k1 : (w.alloc (.cells #[.int .i64 a2, .int .i64 b2] 41)).cell? ⟨w.heap.size, 0, none⟩ = some (.int .i64 a2) := box_cell _ _ _ 0 _ rfl
  have k2 : (w.alloc (.cells #[.int .i64 a2, .int .i64 b2] 41)).cell? ⟨w.heap.size, 1, none⟩ = some (.int .i64 b2) := box_cell _ _ _ 1 _ rfl
  clear hm hmb hd hdb h0 n0 hl hn m0 w0 h1 n1 hlb hnb m1 w1 w2 u2 hol hob hrl hm2 hm3 hr hp hq hh hhb hzl hzl2
  go_enter Try.func8, Try.ntmps8
  go_wp2_with (first
    | (go_at_call 11; (with_reducible refine (hmany _).mono ?_); rintro e w' ⟨rfl, rfl⟩)
    | (go_at_call 11; (with_reducible refine (hmanyb _).mono ?_); rintro e w' ⟨rfl, rfl⟩))
  obtain ⟨W, hW⟩ : ∃ W, w.alloc (.cells #[.int .i64 a2, .int .i64 b2] 41) = W := ⟨_, rfl⟩
  have hgW : w.heap.size < W.heap.size := by rw [← hW]; simp
  rw [hW] at k1 k2 hh0 hhb0 hb0 ⊢
  clear hW
  have hbd : Below W.heap.size W W.drew := (Below.refl _ _).drew
  go_region_held3 (fun w' => w'.cell? ⟨w.heap.size, 0, none⟩ = some (.int .i64 a2) ∧ w'.cell? ⟨w.heap.size, 1, none⟩ = some (.int .i64 b2))
    (first
      | go_keep
      | exact ⟨(hbY.cell (p := ⟨w.heap.size, 0, none⟩) hgW).trans k1, (hbY.cell (p := ⟨w.heap.size, 1, none⟩) hgW).trans k2⟩
      | exact ⟨(hbX.cell (p := ⟨w.heap.size, 0, none⟩) hgW).trans k1, (hbX.cell (p := ⟨w.heap.size, 1, none⟩) hgW).trans k2⟩)
    (first
      | (go_at_call 22; (with_reducible refine (H22a.out _ (hh0.carry hbd)).mono ?_); rintro e wX ⟨vX, rfl, AX, cX, rfl, hcX, hsX, hbX0⟩; have hbX := below_trans hbd hbX0 hbd.size)
      | (go_at_call 22; (with_reducible refine (H22a.out _ (hh0.carry hbY)).mono ?_); rintro e wX ⟨vX, rfl, AX, cX, rfl, hcX, hsX, hbX0⟩; have hbX := below_trans hbY hbX0 hbY.size; have hsYn := hsY.carry hbX0; have hsXn := hsX; have hbN := hbX)
      | (go_at_call 22; (with_reducible refine (H22b.out _ (hhb0.carry hbd)).mono ?_); rintro e wY ⟨vY, rfl, AY, cY, rfl, hcY, hsY, hbY0⟩; have hbY := below_trans hbd hbY0 hbd.size)
      | (go_at_call 22; (with_reducible refine (H22b.out _ (hhb0.carry hbX)).mono ?_); rintro e wY ⟨vY, rfl, AY, cY, rfl, hcY, hsY, hbY0⟩; have hbY := below_trans hbX hbY0 hbX.size; have hsXn := hsX.carry hbY0; have hsYn := hsY; have hbN := hbY))
  all_goals (
    have hb1 := below_trans hb0 hbN hb0.size
    clear k1 k2 hh0 hhb0 hb0 hbd hbN hbX hbY hbX0 hbY0 hsX hsY hgW
    go_wp2_with (first
      | (go_at_call 30; (with_reducible refine (H30a.out AX cX _ hsXn).mono ?_); rintro e w' ⟨rfl, rfl⟩)
      | (go_at_call 29; (with_reducible refine (H29a.out AX cX _ hsXn).mono ?_); rintro e w5 ⟨v5, rfl, A5, c5, rfl, _, hs5, hb5⟩; have hsX5 := hsXn.carry hb5; have hsY5 := hsYn.carry hb5; have hb6 := below_trans hb1 hb5 hb1.size)
      | (go_at_call 30; (with_reducible refine (H30b.out AY cY _ hsY5).mono ?_); rintro e w' ⟨rfl, rfl⟩)
      | (go_at_call 29; (with_reducible refine (H29b.out AY cY _ hsY5).mono ?_); rintro e w6 ⟨v6, rfl, A6, c6, rfl, _, hs6, hb7⟩; have hsX6 := hsX5.carry hb7; have hsY6 := hsY5.carry hb7; have hs56 := hs5.carry hb7; have hb8 := below_trans hb6 hb7 hb6.size))
    clear hsXn hsYn hb1 hb5 hsX5 hsY5 hb6 hb7 hs5
    go_loopw [11, 12] (fun v j wr => ∃ i : Nat, i ≤ p ∧ i ≤ q ∧ j = .int .i64 i ∧ Mine .i64 3 wr w6.heap.size v (meetK bothP xs ys i) ∧ Below w6.heap.size w6 wr) (fun _ j _ => p - (intOf j).toNat)
    case atStart => exact ⟨0, by omega, by omega, rfl, by rw [meetK_zero]; exact Mine.nil_ _ _ _ _, Below.refl _ _⟩
    case round =>
      obtain ⟨i, hip, hiq, rfl, hown, hbl⟩ := hrel
      have hfin : (¬ i < p ∨ ¬ i < q) → Mine .i64 3 wr w6.heap.size u11 zs := fun h => by
        rw [HME.out i (by have := HP.out; have := HQ.out; omega) (by rw [HP.out]; omega) (by rw [HQ.out]; omega)] at hown
        exact hown
      by_cases hlt : i < p
      · by_cases hlt2 : i < q
        · have hsz := hbl.size
          have g1 : i < xs.length := by rw [HP.out]; exact hlt
          have g2 : i < ys.length := by rw [HQ.out]; exact hlt2
          obtain ⟨b, off, rfl, hb6, hw1⟩ := hs56.at_int g1
          obtain ⟨b', off', rfl, hb6', hw2⟩ := hs6.at_int g2
          have HT := HMS.out i g1 g2
          have hlen := HML.out i (by omega) (by omega)
          obtain ⟨X, hX⟩ : ∃ X, xs[i] = X := ⟨_, rfl⟩
          obtain ⟨Y, hY⟩ : ∃ X, ys[i] = X := ⟨_, rfl⟩
          rw [hX] at hw1 HT
          rw [hY] at hw2 HT
          have hc := (hbl.cell (p := ⟨b, off + i, none⟩) hb6).trans hw1
          have hc' := (hbl.cell (p := ⟨b', off' + i, none⟩) hb6').trans hw2
          obtain ⟨V, hV⟩ : ∃ V, bothP X Y = V := ⟨_, rfl⟩
          have H31 := Lib.hid (fun w1 => both_ok X Y w1)
          rw [hV] at H31 HT
          replace HT := Lib.hid HT
          have hlen2 : (meetK bothP xs ys i).length ≤ 1000000000 := by omega
          generalize meetK bothP xs ys i = zk at hown HT hlen2
          have kn : (0 : Int) ≤ (i : Int) := by omega
          have kt : ((i : Int)).toNat = i := by omega
          have kl : (i : Int) < (p : Int) := by omega
          have kl' : (i : Int) < (q : Int) := by omega
          clear hX hY hV hfin hlen g1 g2 hs56 hs6
          go_wp2
          go_region_held3 (fun w' => w'.cell? ⟨b, off + i, none⟩ = some (.int .i64 X) ∧ w'.cell? ⟨b', off' + i, none⟩ = some (.int .i64 Y))
            (first
              | go_keep
              | exact ⟨(hbl'.cell (p := ⟨b, off + i, none⟩) hb6).trans hw1, (hbl'.cell (p := ⟨b', off' + i, none⟩) hb6').trans hw2⟩)
            (first
              | (go_at_call 31; refine (H31.out _).mono ?_; rintro e w' ⟨rfl, rfl⟩)
              | (refine step_push (by rfl) _ _ 29 (by rfl) Try.underlying29 full3 (by omega) w6.heap.size _ zk V w6 wr.heap.size ((Mine.alloc hown _).drew) (by rfl) (by rfl) (push_here _ _ _) ((hbl.alloc hsz _).drew) (by simp; omega) hlen2 ?_; intro v' w7 hown' hbl'))
          go_wp2
          go_roundw
          case rel => exact ⟨i + 1, by omega, by omega, by go_num, by rw [HT.out]; exact hown', hbl'⟩
          case measure => simp [intOf]; omega
        · have hown2 := hfin (.inr hlt2)
          clear hown hfin
          obtain ⟨A7, c7, rfl, hs7⟩ := hown2.reads
          have hx7 := hsX6.carry hbl
          have hy7 := hsY6.carry hbl
          go_wp2_with (first
            | (go_at_call 32; refine (H32.out AX AY cX cY _ hcX hcY hx7 hy7).mono ?_; rintro e w8 ⟨v8, rfl, A8, c8, rfl, _, hs8, hb9⟩; have hs78 := hs7.carry hb9; have hb10 := below_trans hbl hb9 hbl.size)
            | (go_at_call 33; refine (H33.out A7 c7 _ hs78).mono ?_; rintro e w9 ⟨v9, rfl, A9, c9, rfl, _, hs9, hb11⟩; have hs89 := hs8.carry hb11; have hb12 := below_trans hb10 hb11 hb10.size)
            | (go_at_call 12; refine (H12.out A8 A9 c8 c9 _ hs89 hs9).mono ?_; rintro e w10 ⟨rfl, hb13⟩; have hb14 := below_trans hb12 hb13 hb12.size))
          go_ret
          exact ⟨rfl, below_trans hb8 hb14 hb8.size⟩
      · have hown2 := hfin (.inl hlt)
        clear hown hfin
        obtain ⟨A7, c7, rfl, hs7⟩ := hown2.reads
        have hx7 := hsX6.carry hbl
        have hy7 := hsY6.carry hbl
        go_wp2_with (first
          | (go_at_call 32; refine (H32.out AX AY cX cY _ hcX hcY hx7 hy7).mono ?_; rintro e w8 ⟨v8, rfl, A8, c8, rfl, _, hs8, hb9⟩; have hs78 := hs7.carry hb9; have hb10 := below_trans hbl hb9 hbl.size)
          | (go_at_call 33; refine (H33.out A7 c7 _ hs78).mono ?_; rintro e w9 ⟨v9, rfl, A9, c9, rfl, _, hs9, hb11⟩; have hs89 := hs8.carry hb11; have hb12 := below_trans hb10 hb11 hb10.size)
          | (go_at_call 12; refine (H12.out A8 A9 c8 c9 _ hs89 hs9).mono ?_; rintro e w10 ⟨rfl, hb13⟩; have hb14 := below_trans hb12 hb13 hb12.size))
        go_ret
        exact ⟨rfl, below_trans hb8 hb14 hb8.size⟩)

set_option maxRecDepth 100000 in
theorem lifted (os : Os) (started : os.Started) (H : Type) (enc : TypeId × Value → H) :
    ReturnsInHanded {} Try.checked os 8 .any (Rows.spansMeetSpec.pre6 enc Try.prog Try.f8 Rows.spansMeetRow.domain false) (Rows.spansMeetSpec.post enc Try.prog Try.f8 false true false false) := by
  refine returnsInHanded_of_change (C := Try.checked) own started (by kernel_rfl) Try.func8
    (ChangeSpec.witness6 (enc := enc) (C := Try.checked) false ⟨#[], #[.slice none 0 0, .slice none 0 0, .agg #[.int .i64 0, .int .i64 0]], []⟩ 8 (by kernel_rfl) (by kernel_rfl) (by kernel_rfl) (by kernel_rfl)) ?_
  intro W base args ds gs before hval0 hW hcnd _
  have hval : ∀ (j : Nat) t v, Try.f8.params[j]? = some t → args[j]? = some v → Value.okWide Try.prog W .any base t v := hval0
  have hW' := hW
  obtain ⟨p, q, hA0, hV, rfl, hfz, hnd⟩ := hW
  have hA : DataW.TrodAll enc Try.prog W 0 (fun _ => true) true Try.f8.params.toList args.toList ds p := hA0
  rw [Try.params8] at hA hval
  obtain ⟨v0, vs0, d0, ds0, p0, q0, hargs, rfl, rfl, h0, r0⟩ := trodAll_cons hA
  obtain ⟨v1, vs1, d1, ds1, p1, q1, rfl, rfl, rfl, h1, r1⟩ := trodAll_cons r0
  obtain ⟨v2, vs2, d2, ds2, p2, q2, rfl, rfl, rfl, h2, r2⟩ := trodAll_cons r1
  obtain ⟨rfl, rfl, rfl⟩ := trodAll_nil r2
  obtain rfl : args = #[v0, v1, v2] := by cases args; simp_all
  obtain ⟨rfl, rfl⟩ := trodVars_none hV
  clear hA0 hval0
  have hlt : ∀ x ∈ p0 ++ (p1 ++ (p2 ++ [])), x.block < W.heap.size := fun x hx => by simpa using hW'.lt x (List.mem_append_left _ hx)
  have k0 := h0
  have k1 := h1
  have k2 := h2
  obtain ⟨A0, l0, c0, rfl⟩ := okWide_slice Try.underlying22 (hval 0 22 v0 rfl rfl)
  obtain ⟨z0, rfl, n0, m0, w0, hh0⟩ := has_rows Try.underlying22 Try.underlying49 (by kernel_rfl) (by kernel_rfl) (by kernel_rfl) Try.underlying3 (by decide) h0 (fun x hx => hlt x (List.mem_append_left _ hx))
  obtain ⟨A1, l1, c1, rfl⟩ := okWide_slice Try.underlying22 (hval 1 22 v1 rfl rfl)
  obtain ⟨z1, rfl, n1, m1, w1, hh1⟩ := has_rows Try.underlying22 Try.underlying49 (by kernel_rfl) (by kernel_rfl) (by kernel_rfl) Try.underlying3 (by decide) h1 (fun x hx => hlt x (List.mem_append_right _ (List.mem_append_left _ hx)))
  obtain ⟨a2, b2, rfl, rfl, rfl, w2, u2⟩ := Go.WideMaps.open_pair pair41 Try.underlying3 (hval 2 41 v2 rfl rfl) h2
  refine (walk A0 c0 z0 A1 c1 z1 a2 b2 W n0 m0 w0 hh0 n1 m1 w1 hh1 w2 u2).mono fun e W' ⟨he, hb⟩ => ?_
  subst he
  exact ⟨_, rfl, _, _, _, [], _, [], hW', (trodAll_cons_mk (shut_bool Try.underlying4 _) trodAll_mk0), (trodAll_cons_mk (Below.trod laidOut (by kernel_rfl) (of_decide_eq_true (by kernel_rfl)) k0 hb (fun x hx => hlt x (List.mem_append_left _ hx))) (trodAll_cons_mk (Below.trod laidOut (by kernel_rfl) (of_decide_eq_true (by kernel_rfl)) k1 hb (fun x hx => hlt x (List.mem_append_right _ (List.mem_append_left _ hx)))) (trodAll_cons_mk (Below.trod laidOut (by kernel_rfl) (of_decide_eq_true (by kernel_rfl)) k2 hb (fun x hx => hlt x (List.mem_append_right _ (List.mem_append_right _ (List.mem_append_left _ hx))))) trodAll_mk0))), rfl, hb.frame _, fun h => by cases h⟩

theorem over : Rows.spansMeetRow.holds Try.pinned (OpenSpec.ofChange Rows.spansMeetSpec) :=
  OpenClaim.holds_of_wide 8 Try.f8 rfl rfl rfl rfl rfl rfl rfl ⟨rfl, rfl, rfl, rfl, rfl⟩ rfl rfl rfl rfl rfl (by kernel_rfl) Try.func8 (by kernel_rfl)
    (of_decide_eq_true (by kernel_rfl)) (by unfold Func.isWrapper; first | (rw [if_pos (by decide +kernel)]; kernel_rfl) | (rw [if_neg (by decide +kernel)]; exact ⟨rfl, rfl⟩))
    (fun os started H enc _ => lifted os started H enc)

/-- the statement -/
theorem proved : Rows.SpansMeetSaid :=
  over
#print axioms proved
end Go.Proofs.Ytojplkkmpnaibaa.spansMeet
