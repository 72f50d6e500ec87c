/-
  The statement 'SpansEditsSaid': what Edit tells, of any places. No condition.
-/
import Derived.Test.YtojplkkmpnaibaaHas
import Derived.Test.YtojplkkmpnaibaaHasStruct
import Derived.Test.YtojplkkmpnaibaaEdit
import Derived.Test.YtojplkkmpnaibaaArg
import Derived.Deep.RegionHeld3
set_option linter.unusedVariables false
namespace Go.Proofs.Ytojplkkmpnaibaa.spansEdits
open Go.ChangeShapes Go.WideShapes Go.ChangeAt Go.RowKit Go.Proofs.Ytojplkkmpnaibaa
theorem own : ownKnob Try.prog.godebug = none := by kernel_rfl
theorem laidOut : laidOutB Try.prog = true := by kernel_rfl
theorem list_len5 (l : List Int) (h : l.length = 5) : ∃ x0 x1 x2 x3 x4, l = [x0, x1, x2, x3, x4] := by
  match l, h with
  | [x0, x1, x2, x3, x4], _ => exact ⟨x0, x1, x2, x3, x4, rfl⟩


theorem box_cell (w : World) (cs : Array Value) (t : TypeId) (j : Nat) (v : Value) (h : cs[j]? = some v) : (w.alloc (.cells cs t)).cell? ⟨w.heap.size, j, none⟩ = some v := (at_new w cs t).cell j v h
set_option maxHeartbeats 4000000 in
theorem walk (A0 : Option Addr) (c0 : Nat) (z0 : List (List Int)) (a1a a1b a1c a1d a1e : Int) (w : World) (n0 : z0.length ≤ 9223372036854775807) (m0 : z0.length ≤ c0) (w0 : ∀ z ∈ z0, z.length = 3 ∧ ∀ x ∈ z, (Lit.int .i64 x).wf = true) (h0 : HasRows w w.heap.size A0 3 (z0.map (·.map (Value.int .i64)))) (w1 : ∀ z ∈ [a1a, a1b, a1c, a1d, a1e], (Lit.int .i64 z).wf = true) :
    Calls Try.prog 7 #[.slice A0 z0.length c0, .agg #[.int .i64 a1a, .int .i64 a1b, .int .i64 a1c, .int .i64 a1d, .int .i64 a1e]] w fun e w' => e = .returned (.bool true) ∧ Below w.heap.size w w' := by
  obtain ⟨l, hl, hh, _⟩ := spans_of_rows w0 h0
  obtain ⟨n, hn⟩ : ∃ n, z0.length = n := ⟨_, rfl⟩
  rw [hn] at hl n0 ⊢
  have hb0 : Below w.heap.size w (w.alloc (.cells #[.int .i64 a1a, .int .i64 a1b, .int .i64 a1c, .int .i64 a1d, .int .i64 a1e] 38)) := (Below.refl _ _).alloc (Nat.le_refl _) _
  by_cases hm : 20 < n
  · have hd : decide (20 < (n : Int)) = true := decide_eq_true (by omega)
    have hmany := fun w1 => many_ok A0 c0 n w1
    rw [hd] at hmany
    clear hm hd h0 hh
    go_enter Try.func7, Try.ntmps7
    go_wp2_with (go_at_call 11; refine (hmany _).mono ?_; rintro e w' ⟨rfl, rfl⟩)
    go_ret
    exact ⟨rfl, hb0⟩
  · have hd : decide (20 < (n : Int)) = false := decide_eq_false (by omega)
    have hmany := fun w1 => many_ok A0 c0 n w1
    rw [hd] at hmany
    have hbx : (w.alloc (.cells #[.int .i64 a1a, .int .i64 a1b, .int .i64 a1c, .int .i64 a1d, .int .i64 a1e] 38)).cell? ⟨w.heap.size, 3, none⟩ = some (.int .i64 a1d) := box_cell _ _ _ 3 _ rfl
    by_cases hp : 100 < a1d
    · clear hm hd h0 hh n0 hl hn m0 w0 w1
      go_enter Try.func7, Try.ntmps7
      go_wp2_with (go_at_call 11; refine (hmany _).mono ?_; rintro e w' ⟨rfl, rfl⟩)
      go_ret
      exact ⟨rfl, hb0⟩
    have H22 := Lib.hid (fun w1 (h : HasS w1 w1.heap.size A0 l) => wholeL_ok A0 c0 n l a1a w1 hl.symm (by omega) h)
    have hxl : (vals l (min a1a 60)).length ≤ 100 := by rw [length_vals]; omega
    generalize vals l (min a1a 60) = xs at H22 hxl
    have hol := length_of xs
    have H23 := Lib.hid (fun A c w1 (h : HasS w1 w1.heap.size A (of xs)) => (edit_ok A c (of xs).length xs a1b a1c a1d a1e w1 rfl (by omega) (by omega) h).mono fun _ _ h => MineSOf.spans h)
    have H24 := Lib.hid (fun A c w1 (h : HasS w1 w1.heap.size A (of xs)) => redit_ok A c (of xs).length xs a1b a1c a1d a1e w1 rfl (by omega) (by omega) h)
    have hrl : (of (editX xs (atN xs.length a1b) (atN (xs.length - atN xs.length a1b) a1c) a1d a1e)).length ≤ 1000 := by have := length_of (editX xs (atN xs.length a1b) (atN (xs.length - atN xs.length a1b) a1c) a1d a1e); have h2 : (editX xs (atN xs.length a1b) (atN (xs.length - atN xs.length a1b) a1c) a1d a1e).length ≤ 1000 := (by unfold editX; simp; omega); omega
    generalize of (editX xs (atN xs.length a1b) (atN (xs.length - atN xs.length a1b) a1c) a1d a1e) = R at H23 H24 hrl
    have H12 := Lib.hid (fun A B c d w1 h1 h2 => sameS_ok A B c d R.length R.length R R w1 rfl rfl (by omega) (by omega) h1 h2)
    rw [show decide (R = R) = true by simp] at H12
    generalize of xs = L at H22 H23 H24 hol
    simp only [SpansOf, SpansV] at H22 H23 H24
    obtain ⟨m, hm2⟩ : ∃ m, L.length = m := ⟨_, rfl⟩
    obtain ⟨r, hr⟩ : ∃ r, R.length = r := ⟨_, rfl⟩
    rw [hm2] at H22 H23 H24
    rw [hr] at H12 H23 H24
    have hh0 := hh.carry hb0
    clear hm hd h0 n0 hl hn m0 w0 w1 hxl hol hrl hm2 hr
    go_enter Try.func7, Try.ntmps7
    go_wp2_with (first
      | (go_at_call 11; refine (hmany _).mono ?_; rintro e w' ⟨rfl, rfl⟩)
      | (go_at_call 22; refine (H22.out _ hh0).mono ?_; rintro e w1 ⟨v, rfl, A1, c1, rfl, _, hs, hb1⟩))
    have hbw := hb0.trans (hb1.mono (by simp))
    have k1 : w1.cell? ⟨w.heap.size, 1, none⟩ = some (.int .i64 a1b) := (hb1.cell (p := ⟨w.heap.size, 1, none⟩) (by simp)).trans (box_cell _ _ _ 1 _ rfl)
    have k2 : w1.cell? ⟨w.heap.size, 2, none⟩ = some (.int .i64 a1c) := (hb1.cell (p := ⟨w.heap.size, 2, none⟩) (by simp)).trans (box_cell _ _ _ 2 _ rfl)
    have k3 : w1.cell? ⟨w.heap.size, 3, none⟩ = some (.int .i64 a1d) := (hb1.cell (p := ⟨w.heap.size, 3, none⟩) (by simp)).trans (box_cell _ _ _ 3 _ rfl)
    have k4 : w1.cell? ⟨w.heap.size, 4, none⟩ = some (.int .i64 a1e) := (hb1.cell (p := ⟨w.heap.size, 4, none⟩) (by simp)).trans (box_cell _ _ _ 4 _ rfl)
    have hg : w.heap.size < w1.heap.size := by have := hb1.size; simp at this; omega
    have hbd : Below w1.heap.size w1 w1.drew := (Below.refl _ _).drew
    clear hb1 hb0 hh0 hh
    go_region_held3 (fun w' => w'.cell? ⟨w.heap.size, 1, none⟩ = some (.int .i64 a1b) ∧ w'.cell? ⟨w.heap.size, 2, none⟩ = some (.int .i64 a1c) ∧ w'.cell? ⟨w.heap.size, 3, none⟩ = some (.int .i64 a1d) ∧ w'.cell? ⟨w.heap.size, 4, none⟩ = some (.int .i64 a1e))
      (first
        | go_keep
        | exact ⟨(hbZ.cell (p := ⟨w.heap.size, 1, none⟩) hg).trans k1, (hbZ.cell (p := ⟨w.heap.size, 2, none⟩) hg).trans k2, (hbZ.cell (p := ⟨w.heap.size, 3, none⟩) hg).trans k3, (hbZ.cell (p := ⟨w.heap.size, 4, none⟩) hg).trans k4⟩
        | exact ⟨(hbY.cell (p := ⟨w.heap.size, 1, none⟩) hg).trans k1, (hbY.cell (p := ⟨w.heap.size, 2, none⟩) hg).trans k2, (hbY.cell (p := ⟨w.heap.size, 3, none⟩) hg).trans k3, (hbY.cell (p := ⟨w.heap.size, 4, none⟩) hg).trans k4⟩
        | exact ⟨(hbX.cell (p := ⟨w.heap.size, 1, none⟩) hg).trans k1, (hbX.cell (p := ⟨w.heap.size, 2, none⟩) hg).trans k2, (hbX.cell (p := ⟨w.heap.size, 3, none⟩) hg).trans k3, (hbX.cell (p := ⟨w.heap.size, 4, none⟩) hg).trans k4⟩)
      (first
        | (go_at_call 27; refine (H23.out A1 c1 _ (hs.carry hbd)).mono ?_; rintro e wX ⟨vX, rfl, AX, cX, rfl, _, hsX, hbX0⟩; have hbX := below_trans hbd hbX0 hbd.size)
        | (go_at_call 27; refine (H23.out A1 c1 _ (hs.carry hbY)).mono ?_; rintro e wX ⟨vX, rfl, AX, cX, rfl, _, hsX, hbX0⟩; have hbX := below_trans hbY hbX0 hbY.size; have hsY2 := hsY.carry hbX0)
        | (go_at_call 28; refine (H24.out A1 c1 _ (hs.carry hbd)).mono ?_; rintro e wY ⟨vY, rfl, AY, cY, rfl, _, hsY, hbY0⟩; have hbY := below_trans hbd hbY0 hbd.size)
        | (go_at_call 28; refine (H24.out A1 c1 _ (hs.carry hbX)).mono ?_; rintro e wY ⟨vY, rfl, AY, cY, rfl, _, hsY, hbY0⟩; have hbY := below_trans hbX hbY0 hbX.size; have hsX2 := hsX.carry hbY0)
        | (go_at_call 12; refine (H12.out AX AY cX cY _ hsX2 hsY).mono ?_; rintro e wZ ⟨rfl, hbZ0⟩; have hbZ := below_trans hbY hbZ0 hbY.size)
        | (go_at_call 12; refine (H12.out AX AY cX cY _ hsX hsY2).mono ?_; rintro e wZ ⟨rfl, hbZ0⟩; have hbZ := below_trans hbX hbZ0 hbX.size))
    all_goals go_wp2
    all_goals go_ret
    all_goals exact ⟨rfl, below_trans hbw hbZ hbw.size⟩

set_option maxRecDepth 100000 in
theorem lifted (os : Os) (started : os.Started) (H : Type) (enc : TypeId × Value → H) :
    ReturnsInHanded {} Try.checked os 7 .any (Rows.spansEditsSpec.pre6 enc Try.prog Try.f7 Rows.spansEditsRow.domain false) (Rows.spansEditsSpec.post enc Try.prog Try.f7 false true false false) := by
  refine returnsInHanded_of_change (C := Try.checked) own started (by kernel_rfl) Try.func7
    (ChangeSpec.witness6 (enc := enc) (C := Try.checked) false ⟨#[], #[.slice none 0 0, .agg #[.int .i64 0, .int .i64 0, .int .i64 0, .int .i64 0, .int .i64 0]], []⟩ 8 (by kernel_rfl) (by kernel_rfl) (by kernel_rfl) (by kernel_rfl)) ?_
  intro W base args ds gs before hval0 hW hcnd _
  have hval : ∀ (j : Nat) t v, Try.f7.params[j]? = some t → args[j]? = some v → Value.okWide Try.prog W .any base t v := hval0
  have hW' := hW
  obtain ⟨p, q, hA0, hV, rfl, hfz, hnd⟩ := hW
  have hA : DataW.TrodAll enc Try.prog W 0 (fun _ => true) true Try.f7.params.toList args.toList ds p := hA0
  rw [Try.params7] at hA hval
  obtain ⟨v0, vs0, d0, ds0, p0, q0, hargs, rfl, rfl, h0, r0⟩ := trodAll_cons hA
  obtain ⟨v1, vs1, d1, ds1, p1, q1, rfl, rfl, rfl, h1, r1⟩ := trodAll_cons r0
  obtain ⟨rfl, rfl, rfl⟩ := trodAll_nil r1
  obtain rfl : args = #[v0, v1] := by cases args; simp_all
  obtain ⟨rfl, rfl⟩ := trodVars_none hV
  clear hA0 hval0
  have hlt : ∀ x ∈ p0 ++ (p1 ++ []), x.block < W.heap.size := fun x hx => by simpa using hW'.lt x (List.mem_append_left _ hx)
  have k0 := h0
  have k1 := h1
  obtain ⟨A0, l0, c0, rfl⟩ := okWide_slice Try.underlying22 (hval 0 22 v0 rfl rfl)
  obtain ⟨z0, rfl, n0, m0, w0, hh0⟩ := has_rows Try.underlying22 Try.underlying49 (by kernel_rfl) (by kernel_rfl) (by kernel_rfl) Try.underlying3 (by decide) h0 (fun x hx => hlt x (List.mem_append_left _ hx))
  obtain ⟨zz1, hv1, ln1, w1⟩ := struct_ints Try.underlying38 (by kernel_rfl) (by kernel_rfl) (by kernel_rfl) Try.underlying3 (hval 1 38 v1 rfl rfl) h1
  obtain ⟨a1a, a1b, a1c, a1d, a1e, rfl⟩ := list_len5 zz1 ln1
  subst hv1
  refine (walk A0 c0 z0 a1a a1b a1c a1d a1e W n0 m0 w0 hh0 w1).mono fun e W' ⟨he, hb⟩ => ?_
  subst he
  exact ⟨_, rfl, _, _, _, [], _, [], hW', (trodAll_cons_mk (shut_bool Try.underlying4 _) trodAll_mk0), (trodAll_cons_mk (Below.trod laidOut (by kernel_rfl) (of_decide_eq_true (by kernel_rfl)) k0 hb (fun x hx => hlt x (List.mem_append_left _ hx))) (trodAll_cons_mk (Below.trod laidOut (by kernel_rfl) (of_decide_eq_true (by kernel_rfl)) k1 hb (fun x hx => hlt x (List.mem_append_right _ (List.mem_append_left _ hx)))) trodAll_mk0)), rfl, hb.frame _, fun h => by cases h⟩

theorem over : Rows.spansEditsRow.holds Try.pinned (OpenSpec.ofChange Rows.spansEditsSpec) :=
  OpenClaim.holds_of_wide 7 Try.f7 rfl rfl rfl rfl rfl rfl rfl ⟨rfl, rfl, rfl, rfl, rfl⟩ rfl rfl rfl rfl rfl (by kernel_rfl) Try.func7 (by kernel_rfl)
    (of_decide_eq_true (by kernel_rfl)) (by unfold Func.isWrapper; first | (rw [if_pos (by decide +kernel)]; kernel_rfl) | (rw [if_neg (by decide +kernel)]; exact ⟨rfl, rfl⟩))
    (fun os started H enc _ => lifted os started H enc)

/-- the statement -/
theorem proved : Rows.SpansEditsSaid :=
  over
#print axioms proved
end Go.Proofs.Ytojplkkmpnaibaa.spansEdits
