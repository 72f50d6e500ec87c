/-
  The statement 'SpansSwapsSaid': an Edit that puts as many as it takes is Set; one of nothing for nothing changes nothing. No condition.
-/
import Derived.Test.YtojplkkmpnaibaaHas
import Derived.Test.YtojplkkmpnaibaaHasStruct
import Derived.Test.YtojplkkmpnaibaaNorm
import Derived.Test.YtojplkkmpnaibaaKeepMath
import Derived.Test.YtojplkkmpnaibaaArg
import Derived.Deep.RegionHeld3
set_option linter.unusedVariables false
namespace Go.Proofs.Ytojplkkmpnaibaa.spansSwaps
open Go.ChangeShapes Go.WideShapes Go.ChangeAt Go.RowKit Go.Proofs.Ytojplkkmpnaibaa
theorem own : ownKnob Try.prog.godebug = none := by kernel_rfl
theorem laidOut : laidOutB Try.prog = true := by kernel_rfl
theorem list_len4 (l : List Int) (h : l.length = 4) : ∃ x0 x1 x2 x3, l = [x0, x1, x2, x3] := by
  match l, h with
  | [x0, x1, x2, x3], _ => exact ⟨x0, x1, x2, x3, rfl⟩


theorem box_cell (w : World) (cs : Array Value) (t : TypeId) (j : Nat) (v : Value) (h : cs[j]? = some v) : (w.alloc (.cells cs t)).cell? ⟨w.heap.size, j, none⟩ = some v := (at_new w cs t).cell j v h
set_option maxHeartbeats 8000000 in
theorem walk (A0 : Option Addr) (c0 : Nat) (z0 : List (List Int)) (a1a a1b a1c a1d : Int) (w : World) (n0 : z0.length ≤ 9223372036854775807) (m0 : z0.length ≤ c0) (w0 : ∀ z ∈ z0, z.length = 3 ∧ ∀ x ∈ z, (Lit.int .i64 x).wf = true) (h0 : HasRows w w.heap.size A0 3 (z0.map (·.map (Value.int .i64)))) (w1 : ∀ z ∈ [a1a, a1b, a1c, a1d], (Lit.int .i64 z).wf = true) :
    Calls Try.prog 10 #[.slice A0 z0.length c0, .agg #[.int .i64 a1a, .int .i64 a1b, .int .i64 a1c, .int .i64 a1d]] w fun e w' => e = .returned (.bool true) ∧ Below w.heap.size w w' := by
  obtain ⟨l, hl, hh, _⟩ := spans_of_rows w0 h0
  obtain ⟨n, hn⟩ : ∃ n, z0.length = n := ⟨_, rfl⟩
  rw [hn] at hl n0 ⊢
  have hb0 : Below w.heap.size w (w.alloc (.cells #[.int .i64 a1a, .int .i64 a1b, .int .i64 a1c, .int .i64 a1d] 33)) := (Below.refl _ _).alloc (Nat.le_refl _) _
  have q0 := box_cell w #[.int .i64 a1a, .int .i64 a1b, .int .i64 a1c, .int .i64 a1d] 33 0 _ rfl
  have q1 := box_cell w #[.int .i64 a1a, .int .i64 a1b, .int .i64 a1c, .int .i64 a1d] 33 1 _ rfl
  have q2 := box_cell w #[.int .i64 a1a, .int .i64 a1b, .int .i64 a1c, .int .i64 a1d] 33 2 _ rfl
  have q3 := box_cell w #[.int .i64 a1a, .int .i64 a1b, .int .i64 a1c, .int .i64 a1d] 33 3 _ rfl
  have hmany := fun w1 => many_ok A0 c0 n w1
  by_cases hm : 20 < n
  · have hd : decide (20 < (n : Int)) = true := decide_eq_true (by omega)
    rw [hd] at hmany
    clear hm hd h0 hh
    go_enter Try.func10, Try.ntmps10
    go_wp2_with (go_at_call 11; refine (hmany _).mono ?_; rintro e w' ⟨rfl, rfl⟩)
    go_ret
    exact ⟨rfl, hb0⟩
  have hd : decide (20 < (n : Int)) = false := decide_eq_false (by omega)
  rw [hd] at hmany
  by_cases hp : 60 < a1a
  · clear hm hd h0 hh n0 hl hn m0 w0 w1
    go_enter Try.func10, Try.ntmps10
    go_wp2_with (go_at_call 11; refine (hmany _).mono ?_; rintro e w' ⟨rfl, rfl⟩)
    go_ret
    exact ⟨rfl, hb0⟩
  by_cases hp1 : a1a < 1
  · clear hm hd h0 hh n0 hl hn m0 w0 w1
    go_enter Try.func10, Try.ntmps10
    go_wp2_with (go_at_call 11; refine (hmany _).mono ?_; rintro e w' ⟨rfl, rfl⟩)
    go_ret
    exact ⟨rfl, hb0⟩
  by_cases hp2 : a1b < 0
  · clear hm hd h0 hh n0 hl hn m0 w0 w1
    go_enter Try.func10, Try.ntmps10
    go_wp2_with (go_at_call 11; refine (hmany _).mono ?_; rintro e w' ⟨rfl, rfl⟩)
    go_ret
    exact ⟨rfl, hb0⟩
  by_cases hp3 : a1c < a1b
  · clear hm hd h0 hh n0 hl hn m0 w0 w1
    go_enter Try.func10, Try.ntmps10
    go_wp2_with (go_at_call 11; refine (hmany _).mono ?_; rintro e w' ⟨rfl, rfl⟩)
    go_ret
    exact ⟨rfl, hb0⟩
  by_cases hp4 : a1a < a1c
  · clear hm hd h0 hh n0 hl hn m0 w0 w1
    go_enter Try.func10, Try.ntmps10
    go_wp2_with (go_at_call 11; refine (hmany _).mono ?_; rintro e w' ⟨rfl, rfl⟩)
    go_ret
    exact ⟨rfl, hb0⟩
  have H13 := Lib.hid (fun w1 (h : HasS w1 w1.heap.size A0 l) => (norm_ok A0 c0 n l a1a w1 hl.symm (by omega) (by omega) h).mono fun _ _ h => MineSOf.spans h)
  have hxl : ((vals l a1a).length : Int) = a1a := by rw [length_vals]; omega
  generalize vals l a1a = xs at H13 hxl
  have hol := length_of xs
  have H16 := Lib.hid (fun A c w1 (h : HasS w1 w1.heap.size A (of xs)) => whole_ok A c (of xs).length (of xs) xs.length w1 rfl (by omega) h)
  rw [whole_of, hxl] at H16
  have H27a := Lib.hid (fun A c w1 (h : HasS w1 w1.heap.size A (of xs)) => (edit_ok A c (of xs).length xs a1b (a1c - a1b) (a1c - a1b) a1d w1 rfl (by omega) (by omega) h).mono fun _ _ h => MineSOf.spans h)
  rw [edit_swap xs a1b a1c a1d (by omega) (by omega) (by omega)] at H27a
  have H27b := Lib.hid (fun A c w1 (h : HasS w1 w1.heap.size A (of xs)) => (edit_ok A c (of xs).length xs a1b 0 0 a1d w1 rfl (by omega) (by omega) h).mono fun _ _ h => MineSOf.spans h)
  rw [edit_none] at H27b
  have H23 := Lib.hid (fun A c w1 (h : HasS w1 w1.heap.size A (of xs)) => (set_ok A c (of xs).length xs a1b a1c a1d w1 rfl (by omega) h).mono fun _ _ h => MineSOf.spans h)
  have hrl : (of (setP xs a1b a1c a1d)).length ≤ 100 := by have := length_of (setP xs a1b a1c a1d); simp only [setP, List.length_mapIdx] at this; simp only [setP]; omega
  generalize of (setP xs a1b a1c a1d) = R at H23 H27a hrl
  generalize of xs = L at H13 H16 H23 H27a H27b hol
  have H12a := Lib.hid (fun A B c d w1 h1 h2 => sameS_ok A B c d R.length R.length R R w1 rfl rfl (by omega) (by omega) h1 h2)
  rw [show decide (R = R) = true by simp] at H12a
  have H12b := Lib.hid (fun A B c d w1 h1 h2 => sameS_ok A B c d L.length L.length L L w1 rfl rfl (by omega) (by omega) h1 h2)
  rw [show decide (L = L) = true by simp] at H12b
  simp only [SpansOf, SpansV] at H13 H23 H27a H27b
  obtain ⟨m, hm2⟩ : ∃ m, L.length = m := ⟨_, rfl⟩
  obtain ⟨r, hr⟩ : ∃ r, R.length = r := ⟨_, rfl⟩
  rw [hm2] at H13 H16 H23 H27a H27b H12b
  rw [hr] at H12a H23 H27a
  have hh0 := hh.carry hb0
  obtain ⟨D, hD⟩ : ∃ D, a1c - a1b = D := ⟨_, rfl⟩
  rw [hD] at H27a
  clear hm hd h0 n0 hl hn m0 w0 w1 hxl hol hrl hm2 hr
  go_enter Try.func10, Try.ntmps10
  go_wp2_with (first
    | (go_at_call 11; refine (hmany _).mono ?_; rintro e w' ⟨rfl, rfl⟩)
    | (go_at_call 13; refine (H13.out _ hh0).mono ?_; rintro e w1 ⟨v, rfl, A1, c1, rfl, _, hs, hb1⟩;
        have k0 := (hb1.cell (p := ⟨w.heap.size, 0, none⟩) (by simp)).trans q0;
        have k1 := (hb1.cell (p := ⟨w.heap.size, 1, none⟩) (by simp)).trans q1;
        have k2 := (hb1.cell (p := ⟨w.heap.size, 2, none⟩) (by simp)).trans q2;
        have k3 := (hb1.cell (p := ⟨w.heap.size, 3, none⟩) (by simp)).trans q3))
  have hbw := hb0.trans (hb1.mono (by simp))
  have hg : w.heap.size < w1.heap.size := by have := hb1.size; simp at this; omega
  have hbd : Below w1.heap.size w1 w1.drew := (Below.refl _ _).drew
  clear hb1 hb0 hh0 hh q0 q1 q2 q3
  go_region_held3 (fun w' => w'.cell? ⟨w.heap.size, 0, none⟩ = some (.int .i64 a1a) ∧ w'.cell? ⟨w.heap.size, 1, none⟩ = some (.int .i64 a1b) ∧ w'.cell? ⟨w.heap.size, 2, none⟩ = some (.int .i64 a1c) ∧ w'.cell? ⟨w.heap.size, 3, none⟩ = some (.int .i64 a1d))
    (first
      | go_keep
      | exact ⟨(hbU.cell (p := ⟨w.heap.size, 0, none⟩) hg).trans k0, (hbU.cell (p := ⟨w.heap.size, 1, none⟩) hg).trans k1, (hbU.cell (p := ⟨w.heap.size, 2, none⟩) hg).trans k2, (hbU.cell (p := ⟨w.heap.size, 3, none⟩) hg).trans k3⟩
      | exact ⟨(hbV.cell (p := ⟨w.heap.size, 0, none⟩) hg).trans k0, (hbV.cell (p := ⟨w.heap.size, 1, none⟩) hg).trans k1, (hbV.cell (p := ⟨w.heap.size, 2, none⟩) hg).trans k2, (hbV.cell (p := ⟨w.heap.size, 3, none⟩) hg).trans k3⟩
      | exact ⟨(hbZ.cell (p := ⟨w.heap.size, 0, none⟩) hg).trans k0, (hbZ.cell (p := ⟨w.heap.size, 1, none⟩) hg).trans k1, (hbZ.cell (p := ⟨w.heap.size, 2, none⟩) hg).trans k2, (hbZ.cell (p := ⟨w.heap.size, 3, none⟩) hg).trans k3⟩
      | exact ⟨(hbY.cell (p := ⟨w.heap.size, 0, none⟩) hg).trans k0, (hbY.cell (p := ⟨w.heap.size, 1, none⟩) hg).trans k1, (hbY.cell (p := ⟨w.heap.size, 2, none⟩) hg).trans k2, (hbY.cell (p := ⟨w.heap.size, 3, none⟩) hg).trans k3⟩
      | exact ⟨(hbX.cell (p := ⟨w.heap.size, 0, none⟩) hg).trans k0, (hbX.cell (p := ⟨w.heap.size, 1, none⟩) hg).trans k1, (hbX.cell (p := ⟨w.heap.size, 2, none⟩) hg).trans k2, (hbX.cell (p := ⟨w.heap.size, 3, none⟩) hg).trans k3⟩
      | exact ⟨(hbW.cell (p := ⟨w.heap.size, 0, none⟩) hg).trans k0, (hbW.cell (p := ⟨w.heap.size, 1, none⟩) hg).trans k1, (hbW.cell (p := ⟨w.heap.size, 2, none⟩) hg).trans k2, (hbW.cell (p := ⟨w.heap.size, 3, none⟩) hg).trans k3⟩)
    (first
      | (go_at_call 16; refine (H16.out A1 c1 _ (hs.carry hbd)).mono ?_; rintro e wW ⟨rfl, hbW0⟩; have hbW := below_trans hbd hbW0 hbd.size)
      | (go_at_call 27; (with_reducible refine (H27a.out A1 c1 _ (hs.carry hbW)).mono ?_); rintro e wX ⟨vX, rfl, AX, cX, rfl, _, hsX, hbX0⟩; have hbX := below_trans hbW hbX0 hbW.size)
      | (go_at_call 27; (with_reducible refine (H27a.out A1 c1 _ (hs.carry hbY)).mono ?_); rintro e wX ⟨vX, rfl, AX, cX, rfl, _, hsX, hbX0⟩; have hbX := below_trans hbY hbX0 hbY.size; have hsY2 := hsY.carry hbX0)
      | (go_at_call 23; refine (H23.out A1 c1 _ (hs.carry hbW)).mono ?_; rintro e wY ⟨vY, rfl, AY, cY, rfl, _, hsY, hbY0⟩; have hbY := below_trans hbW hbY0 hbW.size)
      | (go_at_call 23; refine (H23.out A1 c1 _ (hs.carry hbX)).mono ?_; rintro e wY ⟨vY, rfl, AY, cY, rfl, _, hsY, hbY0⟩; have hbY := below_trans hbX hbY0 hbX.size; have hsX2 := hsX.carry hbY0)
      | (go_at_call 12; (with_reducible refine (H12a.out AX AY cX cY _ hsX2 hsY).mono ?_); rintro e wZ ⟨rfl, hbZ0⟩; have hbZ := below_trans hbY hbZ0 hbY.size)
      | (go_at_call 12; (with_reducible refine (H12a.out AX AY cX cY _ hsX hsY2).mono ?_); rintro e wZ ⟨rfl, hbZ0⟩; have hbZ := below_trans hbX hbZ0 hbX.size)
      | (go_at_call 27; (with_reducible refine (H27b.out A1 c1 _ (hs.carry hbZ)).mono ?_); rintro e wV ⟨vV, rfl, AV, cV, rfl, _, hsV, hbV0⟩; have hbV := below_trans hbZ hbV0 hbZ.size)
      | (go_at_call 12; (with_reducible refine (H12b.out AV A1 cV c1 _ hsV (hs.carry hbV)).mono ?_); rintro e wU ⟨rfl, hbU0⟩; have hbU := below_trans hbV hbU0 hbV.size))
  all_goals go_wp2
  all_goals go_ret
  all_goals exact ⟨rfl, below_trans hbw hbU hbw.size⟩

set_option maxRecDepth 100000 in
theorem lifted (os : Os) (started : os.Started) (H : Type) (enc : TypeId × Value → H) :
    ReturnsInHanded {} Try.checked os 10 .any (Rows.spansSwapsSpec.pre6 enc Try.prog Try.f10 Rows.spansSwapsRow.domain false) (Rows.spansSwapsSpec.post enc Try.prog Try.f10 false true false false) := by
  refine returnsInHanded_of_change (C := Try.checked) own started (by kernel_rfl) Try.func10
    (ChangeSpec.witness6 (enc := enc) (C := Try.checked) false ⟨#[], #[.slice none 0 0, .agg #[.int .i64 0, .int .i64 0, .int .i64 0, .int .i64 0]], []⟩ 8 (by kernel_rfl) (by kernel_rfl) (by kernel_rfl) (by kernel_rfl)) ?_
  intro W base args ds gs before hval0 hW hcnd _
  have hval : ∀ (j : Nat) t v, Try.f10.params[j]? = some t → args[j]? = some v → Value.okWide Try.prog W .any base t v := hval0
  have hW' := hW
  obtain ⟨p, q, hA0, hV, rfl, hfz, hnd⟩ := hW
  have hA : DataW.TrodAll enc Try.prog W 0 (fun _ => true) true Try.f10.params.toList args.toList ds p := hA0
  rw [Try.params10] at hA hval
  obtain ⟨v0, vs0, d0, ds0, p0, q0, hargs, rfl, rfl, h0, r0⟩ := trodAll_cons hA
  obtain ⟨v1, vs1, d1, ds1, p1, q1, rfl, rfl, rfl, h1, r1⟩ := trodAll_cons r0
  obtain ⟨rfl, rfl, rfl⟩ := trodAll_nil r1
  obtain rfl : args = #[v0, v1] := by cases args; simp_all
  obtain ⟨rfl, rfl⟩ := trodVars_none hV
  clear hA0 hval0
  have hlt : ∀ x ∈ p0 ++ (p1 ++ []), x.block < W.heap.size := fun x hx => by simpa using hW'.lt x (List.mem_append_left _ hx)
  have k0 := h0
  have k1 := h1
  obtain ⟨A0, l0, c0, rfl⟩ := okWide_slice Try.underlying22 (hval 0 22 v0 rfl rfl)
  obtain ⟨z0, rfl, n0, m0, w0, hh0⟩ := has_rows Try.underlying22 Try.underlying49 (by kernel_rfl) (by kernel_rfl) (by kernel_rfl) Try.underlying3 (by decide) h0 (fun x hx => hlt x (List.mem_append_left _ hx))
  obtain ⟨zz1, hv1, ln1, w1⟩ := struct_ints Try.underlying33 (by kernel_rfl) (by kernel_rfl) (by kernel_rfl) Try.underlying3 (hval 1 33 v1 rfl rfl) h1
  obtain ⟨a1a, a1b, a1c, a1d, rfl⟩ := list_len4 zz1 ln1
  subst hv1
  refine (walk A0 c0 z0 a1a a1b a1c a1d W n0 m0 w0 hh0 w1).mono fun e W' ⟨he, hb⟩ => ?_
  subst he
  exact ⟨_, rfl, _, _, _, [], _, [], hW', (trodAll_cons_mk (shut_bool Try.underlying4 _) trodAll_mk0), (trodAll_cons_mk (Below.trod laidOut (by kernel_rfl) (of_decide_eq_true (by kernel_rfl)) k0 hb (fun x hx => hlt x (List.mem_append_left _ hx))) (trodAll_cons_mk (Below.trod laidOut (by kernel_rfl) (of_decide_eq_true (by kernel_rfl)) k1 hb (fun x hx => hlt x (List.mem_append_right _ (List.mem_append_left _ hx)))) trodAll_mk0)), rfl, hb.frame _, fun h => by cases h⟩

theorem over : Rows.spansSwapsRow.holds Try.pinned (OpenSpec.ofChange Rows.spansSwapsSpec) :=
  OpenClaim.holds_of_wide 10 Try.f10 rfl rfl rfl rfl rfl rfl rfl ⟨rfl, rfl, rfl, rfl, rfl⟩ rfl rfl rfl rfl rfl (by kernel_rfl) Try.func10 (by kernel_rfl)
    (of_decide_eq_true (by kernel_rfl)) (by unfold Func.isWrapper; first | (rw [if_pos (by decide +kernel)]; kernel_rfl) | (rw [if_neg (by decide +kernel)]; exact ⟨rfl, rfl⟩))
    (fun os started H enc _ => lifted os started H enc)

/-- the statement -/
theorem proved : Rows.SpansSwapsSaid :=
  over
#print axioms proved
end Go.Proofs.Ytojplkkmpnaibaa.spansSwaps
