/-
  The statement 'SpansKeepsSaid': Set of what stands there changes nothing, two Sets of one stretch are the last one, and all parts are whole. No condition.
-/
import Derived.Test.YtojplkkmpnaibaaHas
import Derived.Test.YtojplkkmpnaibaaHasStruct
import Derived.Test.YtojplkkmpnaibaaNorm
import Derived.Test.YtojplkkmpnaibaaKeepMath
import Derived.Test.YtojplkkmpnaibaaArg
import Derived.Deep.RegionHeld3
set_option linter.unusedVariables false
namespace Go.Proofs.Ytojplkkmpnaibaa.spansKeeps
open Go.ChangeShapes Go.WideShapes Go.ChangeAt Go.RowKit Go.Proofs.Ytojplkkmpnaibaa
theorem own : ownKnob Try.prog.godebug = none := by kernel_rfl
theorem laidOut : laidOutB Try.prog = true := by kernel_rfl
theorem list_len4 (l : List Int) (h : l.length = 4) : ∃ x0 x1 x2 x3, l = [x0, x1, x2, x3] := by
  match l, h with
  | [x0, x1, x2, x3], _ => exact ⟨x0, x1, x2, x3, rfl⟩


theorem box_cell (w : World) (cs : Array Value) (t : TypeId) (j : Nat) (v : Value) (h : cs[j]? = some v) : (w.alloc (.cells cs t)).cell? ⟨w.heap.size, j, none⟩ = some v := (at_new w cs t).cell j v h
set_option maxHeartbeats 16000000 in
theorem walk (A0 : Option Addr) (c0 : Nat) (z0 : List (List Int)) (a1a a1b a1c a1d : Int) (w : World) (n0 : z0.length ≤ 9223372036854775807) (m0 : z0.length ≤ c0) (w0 : ∀ z ∈ z0, z.length = 3 ∧ ∀ x ∈ z, (Lit.int .i64 x).wf = true) (h0 : HasRows w w.heap.size A0 3 (z0.map (·.map (Value.int .i64)))) (w1 : ∀ z ∈ [a1a, a1b, a1c, a1d], (Lit.int .i64 z).wf = true) :
    Calls Try.prog 9 #[.slice A0 z0.length c0, .agg #[.int .i64 a1a, .int .i64 a1b, .int .i64 a1c, .int .i64 a1d]] w fun e w' => e = .returned (.bool true) ∧ Below w.heap.size w w' := by
  obtain ⟨l, hl, hh, _⟩ := spans_of_rows w0 h0
  obtain ⟨n, hn⟩ : ∃ n, z0.length = n := ⟨_, rfl⟩
  rw [hn] at hl n0 ⊢
  have hb0 : Below w.heap.size w (w.alloc (.cells #[.int .i64 a1a, .int .i64 a1b, .int .i64 a1c, .int .i64 a1d] 33)) := (Below.refl _ _).alloc (Nat.le_refl _) _
  have q0 := box_cell w #[.int .i64 a1a, .int .i64 a1b, .int .i64 a1c, .int .i64 a1d] 33 0 _ rfl
  have q1 := box_cell w #[.int .i64 a1a, .int .i64 a1b, .int .i64 a1c, .int .i64 a1d] 33 1 _ rfl
  have q2 := box_cell w #[.int .i64 a1a, .int .i64 a1b, .int .i64 a1c, .int .i64 a1d] 33 2 _ rfl
  have q3 := box_cell w #[.int .i64 a1a, .int .i64 a1b, .int .i64 a1c, .int .i64 a1d] 33 3 _ rfl
  have hmany := fun w1 => many_ok A0 c0 n w1
  by_cases hm : 20 < n
  · have hd : decide (20 < (n : Int)) = true := decide_eq_true (by omega)
    rw [hd] at hmany
    clear hm hd h0 hh
    go_enter Try.func9, Try.ntmps9
    go_wp2_with (go_at_call 11; refine (hmany _).mono ?_; rintro e w' ⟨rfl, rfl⟩)
    go_ret
    exact ⟨rfl, hb0⟩
  have hd : decide (20 < (n : Int)) = false := decide_eq_false (by omega)
  rw [hd] at hmany
  by_cases hp : 60 < a1a
  · clear hm hd h0 hh n0 hl hn m0 w0 w1
    go_enter Try.func9, Try.ntmps9
    go_wp2_with (go_at_call 11; refine (hmany _).mono ?_; rintro e w' ⟨rfl, rfl⟩)
    go_ret
    exact ⟨rfl, hb0⟩
  by_cases hp1 : a1a < 1
  · clear hm hd h0 hh n0 hl hn m0 w0 w1
    go_enter Try.func9, Try.ntmps9
    go_wp2_with (go_at_call 11; refine (hmany _).mono ?_; rintro e w' ⟨rfl, rfl⟩)
    go_ret
    exact ⟨rfl, hb0⟩
  have H13a := Lib.hid (fun w1 (h : HasS w1 w1.heap.size A0 l) => (norm_ok A0 c0 n l a1a w1 hl.symm (by omega) (by omega) h).mono fun _ _ h => MineSOf.spans h)
  have hxl : ((vals l a1a).length : Int) = a1a := by rw [length_vals]; omega
  generalize vals l a1a = xs at H13a hxl
  have hol := length_of xs
  have H16a := Lib.hid (fun A c w1 (h : HasS w1 w1.heap.size A (of xs)) => whole_ok A c (of xs).length (of xs) xs.length w1 rfl (by omega) h)
  rw [whole_of, hxl] at H16a
  have H13b := Lib.hid (fun A c w1 (h : HasS w1 w1.heap.size A (of xs)) => (norm_ok A c (of xs).length (of xs) xs.length w1 rfl (by omega) (by omega) h).mono fun _ _ h => MineSOf.spans h)
  rw [vals_of, hxl] at H13b
  have H25 := Lib.hid (fun A c w1 (h : HasS w1 w1.heap.size A (of xs)) => (show Calls Try.prog 25 #[.slice A (of xs).length c, .int .i64 0, .int .i64 a1a] w1 fun e w' => SpansOf w1 w' e (of xs) from (part_ok A c (of xs).length (of xs) 0 a1a w1 rfl (by omega) (fun s hs => by have := (parts_of xs).bounds s hs; omega) (by omega) h).mono fun _ _ h => by rw [partP_of, pick_full xs a1a hxl.symm] at h; exact MineSOf.spans h))
  have H23 := Lib.hid (fun A c w1 (h : HasS w1 w1.heap.size A (of xs)) => (set_ok A c (of xs).length xs a1b a1c a1d w1 rfl (by omega) h).mono fun _ _ h => MineSOf.spans h)
  obtain ⟨d2, hd2⟩ : ∃ d2, a1d.tmod 2 = d2 := ⟨_, rfl⟩
  have H23i := Lib.hid (fun A c w1 (h : HasS w1 w1.heap.size A (of xs)) => (set_ok A c (of xs).length xs a1b a1c d2 w1 rfl (by omega) h).mono fun _ _ h => MineSOf.spans h)
  have hsl := length_setP xs a1b a1c d2
  have H23o := Lib.hid (fun A c w1 (h : HasS w1 w1.heap.size A (of (setP xs a1b a1c d2))) => (set_ok A c (of (setP xs a1b a1c d2)).length (setP xs a1b a1c d2) a1b a1c a1d w1 rfl (by omega) h).mono fun _ _ h => MineSOf.spans h)
  rw [setP_setP] at H23o
  have H16b := Lib.hid (fun A c w1 (h : HasS w1 w1.heap.size A (of (setP xs a1b a1c a1d))) => whole_ok A c (of (setP xs a1b a1c a1d)).length (of (setP xs a1b a1c a1d)) (setP xs a1b a1c a1d).length w1 rfl (by have := length_of (setP xs a1b a1c a1d); rw [length_setP] at this; omega) h)
  rw [whole_of, length_setP, hxl] at H16b
  obtain ⟨i, hi⟩ : ∃ i : Nat, max 0 (min a1b (a1a - 1)) = i := ⟨(max 0 (min a1b (a1a - 1))).toNat, by omega⟩
  have hilt : i < xs.length := by omega
  have H17 := Lib.hid (fun A c w1 (h : HasS w1 w1.heap.size A (of xs)) => at_ok A c (of xs).length (of xs) i w1 rfl (by omega) h)
  rw [atP_of xs i hilt] at H17
  have H23t := Lib.hid (fun A c w1 (h : HasS w1 w1.heap.size A (of xs)) => (set_ok A c (of xs).length xs i ((i : Int) + 1) xs[i] w1 rfl (by omega) h).mono fun _ _ h => MineSOf.spans h)
  rw [setP_at xs i hilt] at H23t
  obtain ⟨T, hT⟩ : ∃ T, xs[i] = T := ⟨_, rfl⟩
  rw [hT] at H17 H23t
  have hrl : (of (setP xs a1b a1c a1d)).length ≤ 100 := by have := length_of (setP xs a1b a1c a1d); rw [length_setP] at this; omega
  have hrl2 : (of (setP xs a1b a1c d2)).length ≤ 100 := by have := length_of (setP xs a1b a1c d2); rw [length_setP] at this; omega
  have hi60 : i ≤ 60 := by omega
  generalize of (setP xs a1b a1c a1d) = R at H23 H23o H16b hrl
  generalize of (setP xs a1b a1c d2) = R2 at H23i H23o hrl2
  clear hT
  generalize of xs = L at H13a H13b H16a H23 H23i H23t H25 H17 hol
  have H12r := Lib.hid (fun A B c d w1 h1 h2 => sameS_ok A B c d R.length R.length R R w1 rfl rfl (by omega) (by omega) h1 h2)
  rw [show decide (R = R) = true by simp] at H12r
  have H12l := Lib.hid (fun A B c d w1 h1 h2 => sameS_ok A B c d L.length L.length L L w1 rfl rfl (by omega) (by omega) h1 h2)
  rw [show decide (L = L) = true by simp] at H12l
  simp only [SpansOf, SpansV] at H13a H13b H23 H23i H23o H23t H25
  obtain ⟨m, hm2⟩ : ∃ m, L.length = m := ⟨_, rfl⟩
  obtain ⟨r, hr⟩ : ∃ r, R.length = r := ⟨_, rfl⟩
  obtain ⟨r2, hr2⟩ : ∃ r, R2.length = r := ⟨_, rfl⟩
  rw [hm2] at H13a H13b H16a H23 H23i H23t H25 H17 H12l
  rw [hr] at H12r H23 H23o H16b
  rw [hr2] at H23i H23o
  have hh0 := hh.carry hb0
  obtain ⟨M, hM⟩ : ∃ M, min a1b (a1a - 1) = M := ⟨_, rfl⟩
  rw [hM] at hi
  replace hM := Lib.hid hM
  replace hi := Lib.hid hi
  clear hm hd h0 n0 hl hn m0 w0 w1 hxl hol hrl hrl2 hm2 hr hr2 hsl hilt
  go_enter Try.func9, Try.ntmps9
  go_wp2_with (first
    | (go_at_call 11; refine (hmany _).mono ?_; rintro e w' ⟨rfl, rfl⟩)
    | (go_at_call 13; (with_reducible refine (H13a.out _ hh0).mono ?_); rintro e w1 ⟨v, rfl, A1, c1, rfl, _, hs, hb1⟩;
        have k0 := (hb1.cell (p := ⟨w.heap.size, 0, none⟩) (by simp)).trans q0;
        have k1 := (hb1.cell (p := ⟨w.heap.size, 1, none⟩) (by simp)).trans q1;
        have k2 := (hb1.cell (p := ⟨w.heap.size, 2, none⟩) (by simp)).trans q2;
        have k3 := (hb1.cell (p := ⟨w.heap.size, 3, none⟩) (by simp)).trans q3;
        have hg : w.heap.size < w1.heap.size := (by have := hb1.size; simp at this; omega))
    | (go_at_call 16; (with_reducible refine (H16a.out A1 c1 _ hs).mono ?_); rintro e w2 ⟨rfl, hb2⟩; have hs2 := hs.carry hb2; have n0 := (hb2.cell (p := ⟨w.heap.size, 0, none⟩) hg).trans k0)
    | (go_at_call 13; (with_reducible refine (H13b.out A1 c1 _ hs2).mono ?_); rintro e w3 ⟨v3, rfl, A3, c3, rfl, _, hs3, hb3⟩; have hb13 := below_trans hb2 hb3 hb2.size)
    | (go_at_call 12; (with_reducible refine (H12l.out A3 A1 c3 c1 _ hs3 (hs.carry hb13)).mono ?_); rintro e w4 ⟨rfl, hb4⟩; have hb14 := below_trans hb13 hb4 hb13.size; have n1 := (hb14.cell (p := ⟨w.heap.size, 0, none⟩) hg).trans k0)
    | (go_at_call 25; refine (H25.out A1 c1 _ (hs.carry hb14)).mono ?_; rintro e w5 ⟨v5, rfl, A5, c5, rfl, _, hs5, hb5⟩; have hb15 := below_trans hb14 hb5 hb14.size)
    | (go_at_call 12; (with_reducible refine (H12l.out A5 A1 c5 c1 _ hs5 (hs.carry hb15)).mono ?_); rintro e w6 ⟨rfl, hb6⟩; have hb16 := below_trans hb15 hb6 hb15.size; have o1 := (hb16.cell (p := ⟨w.heap.size, 1, none⟩) hg).trans k1; have o2 := (hb16.cell (p := ⟨w.heap.size, 2, none⟩) hg).trans k2; have o3 := (hb16.cell (p := ⟨w.heap.size, 3, none⟩) hg).trans k3)
    | (go_at_call 23; (with_reducible refine (H23.out A1 c1 _ (hs.carry hb16)).mono ?_); rintro e w7 ⟨v7, rfl, A7, c7, rfl, _, hs7, hb7⟩; have hb17 := below_trans hb16 hb7 hb16.size; have p0 := (hb17.cell (p := ⟨w.heap.size, 0, none⟩) hg).trans k0; have p1 := (hb17.cell (p := ⟨w.heap.size, 1, none⟩) hg).trans k1)
    | (refine wpList_min rfl _ _ _ rfl a1b (a1a - 1) rfl rfl M hM.out ?_)
    | (refine wpList_max rfl _ _ _ rfl 0 M rfl rfl i hi.out ?_))
  have hbw := hb0.trans (hb1.mono (by simp))
  have hbw7 := below_trans hbw hb17 hbw.size
  have hg7 : w.heap.size < w7.heap.size := by have := hb17.size; omega
  have hsA := hs.carry hb17
  have y0 := (hb17.cell (p := ⟨w.heap.size, 0, none⟩) hg).trans k0
  have y1 := (hb17.cell (p := ⟨w.heap.size, 1, none⟩) hg).trans k1
  have y2 := (hb17.cell (p := ⟨w.heap.size, 2, none⟩) hg).trans k2
  have y3 := (hb17.cell (p := ⟨w.heap.size, 3, none⟩) hg).trans k3
  have hbd : Below w7.heap.size w7 w7.drew := (Below.refl _ _).drew
  clear hb1 hb0 hh0 hh q0 q1 q2 q3 k0 k1 k2 k3 n0 n1 o1 o2 o3 p0 p1 hb2 hb3 hb4 hb5 hb6 hb7 hb13 hb14 hb15 hb16 hb17 hs hs2 hs3 hs5 hg hbw
  have kw : IntKind.i64.wrap ((i : Int) + 1) = (i : Int) + 1 := IntWalk.i64_in _ (by omega)
  go_region_held3 (fun w' => w'.cell? ⟨w.heap.size, 0, none⟩ = some (.int .i64 a1a) ∧ w'.cell? ⟨w.heap.size, 1, none⟩ = some (.int .i64 a1b) ∧ w'.cell? ⟨w.heap.size, 2, none⟩ = some (.int .i64 a1c) ∧ w'.cell? ⟨w.heap.size, 3, none⟩ = some (.int .i64 a1d))
    (first
      | go_keep
      | exact ⟨(hbQ.cell (p := ⟨w.heap.size, 0, none⟩) hg7).trans y0, (hbQ.cell (p := ⟨w.heap.size, 1, none⟩) hg7).trans y1, (hbQ.cell (p := ⟨w.heap.size, 2, none⟩) hg7).trans y2, (hbQ.cell (p := ⟨w.heap.size, 3, none⟩) hg7).trans y3⟩
      | exact ⟨(hbU.cell (p := ⟨w.heap.size, 0, none⟩) hg7).trans y0, (hbU.cell (p := ⟨w.heap.size, 1, none⟩) hg7).trans y1, (hbU.cell (p := ⟨w.heap.size, 2, none⟩) hg7).trans y2, (hbU.cell (p := ⟨w.heap.size, 3, none⟩) hg7).trans y3⟩
      | exact ⟨(hbV.cell (p := ⟨w.heap.size, 0, none⟩) hg7).trans y0, (hbV.cell (p := ⟨w.heap.size, 1, none⟩) hg7).trans y1, (hbV.cell (p := ⟨w.heap.size, 2, none⟩) hg7).trans y2, (hbV.cell (p := ⟨w.heap.size, 3, none⟩) hg7).trans y3⟩
      | exact ⟨(hbZ.cell (p := ⟨w.heap.size, 0, none⟩) hg7).trans y0, (hbZ.cell (p := ⟨w.heap.size, 1, none⟩) hg7).trans y1, (hbZ.cell (p := ⟨w.heap.size, 2, none⟩) hg7).trans y2, (hbZ.cell (p := ⟨w.heap.size, 3, none⟩) hg7).trans y3⟩
      | exact ⟨(hbY.cell (p := ⟨w.heap.size, 0, none⟩) hg7).trans y0, (hbY.cell (p := ⟨w.heap.size, 1, none⟩) hg7).trans y1, (hbY.cell (p := ⟨w.heap.size, 2, none⟩) hg7).trans y2, (hbY.cell (p := ⟨w.heap.size, 3, none⟩) hg7).trans y3⟩
      | exact ⟨(hbX.cell (p := ⟨w.heap.size, 0, none⟩) hg7).trans y0, (hbX.cell (p := ⟨w.heap.size, 1, none⟩) hg7).trans y1, (hbX.cell (p := ⟨w.heap.size, 2, none⟩) hg7).trans y2, (hbX.cell (p := ⟨w.heap.size, 3, none⟩) hg7).trans y3⟩
      | exact ⟨(hbW.cell (p := ⟨w.heap.size, 0, none⟩) hg7).trans y0, (hbW.cell (p := ⟨w.heap.size, 1, none⟩) hg7).trans y1, (hbW.cell (p := ⟨w.heap.size, 2, none⟩) hg7).trans y2, (hbW.cell (p := ⟨w.heap.size, 3, none⟩) hg7).trans y3⟩)
    (first
      | (go_at_call 16; (with_reducible refine (H16b.out A7 c7 _ (hs7.carry hbd)).mono ?_); rintro e wW ⟨rfl, hbW0⟩; have hbW := below_trans hbd hbW0 hbd.size)
      | (go_at_call 23; (with_reducible refine (H23i.out A1 c1 _ (hsA.carry hbW)).mono ?_); rintro e wX ⟨vX, rfl, AX, cX, rfl, _, hsX, hbX0⟩; have hbX := below_trans hbW hbX0 hbW.size)
      | (go_at_call 23; (with_reducible refine (H23o.out AX cX _ hsX).mono ?_); rintro e wY ⟨vY, rfl, AY, cY, rfl, _, hsY, hbY0⟩; have hbY := below_trans hbX hbY0 hbX.size)
      | (go_at_call 12; (with_reducible refine (H12r.out AY A7 cY c7 _ hsY (hs7.carry hbY)).mono ?_); rintro e wZ ⟨rfl, hbZ0⟩; have hbZ := below_trans hbY hbZ0 hbY.size)
      | (go_at_call 17; (with_reducible refine (H17.out A1 c1 _ (hsA.carry hbZ)).mono ?_); rintro e wV ⟨rfl, hbV0⟩; have hbV := below_trans hbZ hbV0 hbZ.size)
      | (go_at_call 23; (with_reducible refine (H23t.out A1 c1 _ (hsA.carry hbV)).mono ?_); rintro e wU ⟨vU, rfl, AU, cU, rfl, _, hsU, hbU0⟩; have hbU := below_trans hbV hbU0 hbV.size)
      | (go_at_call 12; (with_reducible refine (H12l.out AU A1 cU c1 _ hsU (hsA.carry hbU)).mono ?_); rintro e wQ ⟨rfl, hbQ0⟩; have hbQ := below_trans hbU hbQ0 hbU.size))
  all_goals go_wp2
  all_goals go_ret
  all_goals exact ⟨rfl, below_trans hbw7 hbQ hbw7.size⟩

set_option maxRecDepth 100000 in
theorem lifted (os : Os) (started : os.Started) (H : Type) (enc : TypeId × Value → H) :
    ReturnsInHanded {} Try.checked os 9 .any (Rows.spansKeepsSpec.pre6 enc Try.prog Try.f9 Rows.spansKeepsRow.domain false) (Rows.spansKeepsSpec.post enc Try.prog Try.f9 false true false false) := by
  refine returnsInHanded_of_change (C := Try.checked) own started (by kernel_rfl) Try.func9
    (ChangeSpec.witness6 (enc := enc) (C := Try.checked) false ⟨#[], #[.slice none 0 0, .agg #[.int .i64 0, .int .i64 0, .int .i64 0, .int .i64 0]], []⟩ 8 (by kernel_rfl) (by kernel_rfl) (by kernel_rfl) (by kernel_rfl)) ?_
  intro W base args ds gs before hval0 hW hcnd _
  have hval : ∀ (j : Nat) t v, Try.f9.params[j]? = some t → args[j]? = some v → Value.okWide Try.prog W .any base t v := hval0
  have hW' := hW
  obtain ⟨p, q, hA0, hV, rfl, hfz, hnd⟩ := hW
  have hA : DataW.TrodAll enc Try.prog W 0 (fun _ => true) true Try.f9.params.toList args.toList ds p := hA0
  rw [Try.params9] at hA hval
  obtain ⟨v0, vs0, d0, ds0, p0, q0, hargs, rfl, rfl, h0, r0⟩ := trodAll_cons hA
  obtain ⟨v1, vs1, d1, ds1, p1, q1, rfl, rfl, rfl, h1, r1⟩ := trodAll_cons r0
  obtain ⟨rfl, rfl, rfl⟩ := trodAll_nil r1
  obtain rfl : args = #[v0, v1] := by cases args; simp_all
  obtain ⟨rfl, rfl⟩ := trodVars_none hV
  clear hA0 hval0
  have hlt : ∀ x ∈ p0 ++ (p1 ++ []), x.block < W.heap.size := fun x hx => by simpa using hW'.lt x (List.mem_append_left _ hx)
  have k0 := h0
  have k1 := h1
  obtain ⟨A0, l0, c0, rfl⟩ := okWide_slice Try.underlying22 (hval 0 22 v0 rfl rfl)
  obtain ⟨z0, rfl, n0, m0, w0, hh0⟩ := has_rows Try.underlying22 Try.underlying49 (by kernel_rfl) (by kernel_rfl) (by kernel_rfl) Try.underlying3 (by decide) h0 (fun x hx => hlt x (List.mem_append_left _ hx))
  obtain ⟨zz1, hv1, ln1, w1⟩ := struct_ints Try.underlying33 (by kernel_rfl) (by kernel_rfl) (by kernel_rfl) Try.underlying3 (hval 1 33 v1 rfl rfl) h1
  obtain ⟨a1a, a1b, a1c, a1d, rfl⟩ := list_len4 zz1 ln1
  subst hv1
  refine (walk A0 c0 z0 a1a a1b a1c a1d W n0 m0 w0 hh0 w1).mono fun e W' ⟨he, hb⟩ => ?_
  subst he
  exact ⟨_, rfl, _, _, _, [], _, [], hW', (trodAll_cons_mk (shut_bool Try.underlying4 _) trodAll_mk0), (trodAll_cons_mk (Below.trod laidOut (by kernel_rfl) (of_decide_eq_true (by kernel_rfl)) k0 hb (fun x hx => hlt x (List.mem_append_left _ hx))) (trodAll_cons_mk (Below.trod laidOut (by kernel_rfl) (of_decide_eq_true (by kernel_rfl)) k1 hb (fun x hx => hlt x (List.mem_append_right _ (List.mem_append_left _ hx)))) trodAll_mk0)), rfl, hb.frame _, fun h => by cases h⟩

theorem over : Rows.spansKeepsRow.holds Try.pinned (OpenSpec.ofChange Rows.spansKeepsSpec) :=
  OpenClaim.holds_of_wide 9 Try.f9 rfl rfl rfl rfl rfl rfl rfl ⟨rfl, rfl, rfl, rfl, rfl⟩ rfl rfl rfl rfl rfl (by kernel_rfl) Try.func9 (by kernel_rfl)
    (of_decide_eq_true (by kernel_rfl)) (by unfold Func.isWrapper; first | (rw [if_pos (by decide +kernel)]; kernel_rfl) | (rw [if_neg (by decide +kernel)]; exact ⟨rfl, rfl⟩))
    (fun os started H enc _ => lifted os started H enc)

/-- the statement -/
theorem proved : Rows.SpansKeepsSaid :=
  over
#print axioms proved
end Go.Proofs.Ytojplkkmpnaibaa.spansKeeps
