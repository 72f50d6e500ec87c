/-
  Which font a cluster is shown in: the program's answer is the document's, for any numbers, at most four fonts of at most 100 mappings each and every cluster of at most 20 code points (of others it says nothing); the arguments stay as they were.
-/
import Derived.Test.YtllmafbpjmclbaaHas
import Derived.Test.YtllmafbpjmclbaaFont
import Derived.Test.YtllmafbpjmclbaaZFbs
import Derived.Test.YtllmafbpjmclbaaFby
import Derived.Deep.RegionHeld3
set_option linter.unusedVariables false
namespace Go.Proofs.Ytllmafbpjmclbaa.fallbackPick
open Go.ChangeShapes Go.WideShapes Go.ChangeAt Go.RowKit Go.Proofs.Ytllmafbpjmclbaa
theorem own : ownKnob Try.prog.godebug = none := by kernel_rfl
theorem laidOut : laidOutB Try.prog = true := by kernel_rfl
theorem pair33 : Go.WideMaps.ArrKey Try.prog 33 3 2 := ⟨Try.underlying33, by kernel_rfl, by kernel_rfl, by kernel_rfl⟩

open Go.Sort
theorem walk (A0 : Option Addr) (c0 : Nat) (z0 : List (Shp.Dat fontS)) (A1 : Option Addr) (c1 : Nat) (z1 : List Int) (a2 b2 : Int) (w : World) (h0 : Lies w w.heap.size (.sl fontS) ⟨A0, c0, z0⟩) (n1 : z1.length ≤ 9223372036854775807) (m1 : z1.length ≤ c1) (w1 : ∀ z ∈ z1, (Lit.int .i32 z).wf = true) (h1 : Has w w.heap.size A1 (z1.map (Value.int .i32))) (e1 : A1 = none → c1 = 0) (w2 : (Lit.int .i64 a2).wf = true) (u2 : (Lit.int .i64 b2).wf = true) :
    Calls Try.prog 5 #[.slice A0 z0.length c0, .slice A1 z1.length c1, .agg #[.int .i64 a2, .int .i64 b2]] w fun e w' => e = .returned (.bool true) ∧ Below w.heap.size w w' := by
  have mixed : Try.prog.follows .mixedOrders = true := by kernel_rfl
  have HMany := Lib.hid (fun W (hu : Up w W) => many_ok A0 c0 z0.length z0 W rfl h0.1.1 (h0.up hu))
  generalize hm : z1.length = m at *
  have hm' := hm.symm
  cases hb : manyB z0 with
  | true =>
    rw [hb] at HMany
    generalize z0.length = n at *
    clear hb hm hm' h0 h1 e1 w1
    go_enter Try.func5, Try.ntmps5
    go_wp2_with (go_at_call 10; (with_reducible refine (HMany.out _ ((Up.refl w).alloc _)).mono ?_); rintro e w1 ⟨rfl, hu1⟩)
    go_ret
    exact ⟨rfl, (((Up.refl w).alloc _).trans hu1).1⟩
  | false =>
    rw [hb] at HMany
    obtain ⟨hn4, hML⟩ := many_no hb
    by_cases hb2 : 20 < m
    · generalize z0.length = n at *
      clear hb hm hm' h0 h1 e1 w1 hML
      go_enter Try.func5, Try.ntmps5
      go_wp2_with (go_at_call 10; (with_reducible refine (HMany.out _ ((Up.refl w).alloc _)).mono ?_); rintro e w1 ⟨rfl, hu1⟩)
      go_ret
      exact ⟨rfl, (((Up.refl w).alloc _).trans hu1).1⟩
    · have HP := Lib.hid (fun W (hb : Below w.heap.size w W) => ppick_ok A0 A1 c0 z0.length c1 m z0 z1 a2 b2 W rfl (by omega) hML hm' (by omega) w1 (h0.carry hb) (h1.carry hb))
      have HR := Lib.hid (fun W (hb : Below w.heap.size w W) => rpick_ok A0 A1 c0 z0.length c1 m z0 z1 a2 b2 W rfl (by omega) hML hm' (by omega) (h0.carry hb) (h1.carry hb))
      generalize pickF (allMaps z0) a2 z1 b2 = V at *
      generalize z0.length = n at *
      clear hb hm hm' h0 h1 e1 w1 hML
      go_enter Try.func5, Try.ntmps5
      go_wp2_with (go_at_call 10; (with_reducible refine (HMany.out _ ((Up.refl w).alloc _)).mono ?_); rintro e w1 ⟨rfl, hu1⟩)
      have hat : At w1 w.heap.size 33 #[.int .i64 a2, .int .i64 b2] := (at_new w _ _).up hu1
      have hup : Up w w1 := ((Up.refl w).alloc _).trans hu1
      have gF := hat.lt
      have b0 := hat.cell 0 _ rfl
      have b1 := hat.cell 1 _ rfl
      have hc : Below w1.heap.size w1 w1.drew := (Below.refl _ _).drew
      have HC := Lib.hid (fun W (hc : Below w1.heap.size w1 W) => (hup.1.trans (hc.mono hup.1.size) : Below w.heap.size w W))
      have HCE := Lib.hid (fun W (hc : Below w1.heap.size w1 W) => (⟨(hc.cell (p := ⟨w.heap.size, 0, none⟩) gF).trans b0, (hc.cell (p := ⟨w.heap.size, 1, none⟩) gF).trans b1⟩ :
        W.cell? ⟨w.heap.size, 0, none⟩ = some (.int .i64 a2) ∧ W.cell? ⟨w.heap.size, 1, none⟩ = some (.int .i64 b2)))
      clear hat hup gF hu1 HMany
      go_region_held3 (fun w' => w'.cell? ⟨w.heap.size, 0, none⟩ = some (.int .i64 a2) ∧ w'.cell? ⟨w.heap.size, 1, none⟩ = some (.int .i64 b2))
        (first | go_keep | exact HCE.out _ hc)
        (first
          | (go_at_call 11; (with_reducible refine (HP.out _ (HC.out _ hc)).mono ?_); rintro e u ⟨rfl, hu⟩; have hc := below_trans hc hu hc.size)
          | (go_at_call 12; (with_reducible refine (HR.out _ (HC.out _ hc)).mono ?_); rintro e u ⟨rfl, hu⟩; have hc := below_trans hc hu.1 hc.size))
      all_goals go_wp2
      all_goals go_ret
      all_goals exact ⟨by simp, HC.out _ hc⟩

set_option maxRecDepth 100000 in
theorem lifted (os : Os) (started : os.Started) (H : Type) (enc : TypeId × Value → H) :
    ReturnsInHanded {} Try.checked os 5 .any (Rows.fallbackPickSpec.pre6 enc Try.prog Try.f5 Rows.fallbackPickRow.domain false) (Rows.fallbackPickSpec.post enc Try.prog Try.f5 false true false false) := by
  refine returnsInHanded_of_change (C := Try.checked) own started (by kernel_rfl) Try.func5
    (ChangeSpec.witness6 (enc := enc) (C := Try.checked) false ⟨#[], #[.slice none 0 0, .slice none 0 0, .agg #[.int .i64 0, .int .i64 0]], []⟩ 8 (by kernel_rfl) (by kernel_rfl) (by kernel_rfl) (by kernel_rfl)) ?_
  intro W base args ds gs before hval0 hW hcnd _
  have hval : ∀ (j : Nat) t v, Try.f5.params[j]? = some t → args[j]? = some v → Value.okWide Try.prog W .any base t v := hval0
  have hW' := hW
  obtain ⟨p, q, hA0, hV, rfl, hfz, hnd⟩ := hW
  have hA : DataW.TrodAll enc Try.prog W 0 (fun _ => true) true Try.f5.params.toList args.toList ds p := hA0
  rw [Try.params5] at hA hval
  obtain ⟨v0, vs0, d0, ds0, p0, q0, hargs, rfl, rfl, h0, r0⟩ := trodAll_cons hA
  obtain ⟨v1, vs1, d1, ds1, p1, q1, rfl, rfl, rfl, h1, r1⟩ := trodAll_cons r0
  obtain ⟨v2, vs2, d2, ds2, p2, q2, rfl, rfl, rfl, h2, r2⟩ := trodAll_cons r1
  obtain ⟨rfl, rfl, rfl⟩ := trodAll_nil r2
  obtain rfl : args = #[v0, v1, v2] := by cases args; simp_all
  obtain ⟨rfl, rfl⟩ := trodVars_none hV
  clear hA0 hval0
  have hlt : ∀ x ∈ p0 ++ (p1 ++ (p2 ++ [])), x.block < W.heap.size := fun x hx => by simpa using hW'.lt x (List.mem_append_left _ hx)
  have k0 := h0
  have k1 := h1
  have k2 := h2
  obtain ⟨A0, l0, c0, rfl⟩ := okWide_slice Try.underlying32 (hval 0 32 v0 rfl rfl)
  obtain ⟨z0, rfl, hh0⟩ := seen_list fontS (by kernel_rfl) h0 (fun x hx => hlt x (List.mem_append_left _ hx))
  obtain ⟨A1, l1, c1, rfl⟩ := okWide_slice Try.underlying30 (hval 1 30 v1 rfl rfl)
  obtain ⟨z1, rfl, n1, m1, w1, hh1⟩ := has_ints Try.underlying30 Try.underlying21 (by kernel_rfl) h1 (fun x hx => hlt x (List.mem_append_right _ (List.mem_append_left _ hx)))
  have e1 := none_cap Try.underlying30 Try.underlying21 (by kernel_rfl) k1
  obtain ⟨a2, b2, rfl, rfl, rfl, w2, u2⟩ := Go.WideMaps.open_pair pair33 Try.underlying3 (hval 2 33 v2 rfl rfl) h2
  refine (walk A0 c0 z0 A1 c1 z1 a2 b2 W hh0 n1 m1 w1 hh1 e1 w2 u2).mono fun e W' ⟨he, hb⟩ => ?_
  subst he
  exact ⟨_, rfl, _, _, _, [], _, [], hW', (trodAll_cons_mk (shut_bool Try.underlying4 _) trodAll_mk0), (trodAll_cons_mk (Below.trod laidOut (by kernel_rfl) (of_decide_eq_true (by kernel_rfl)) k0 hb (fun x hx => hlt x (List.mem_append_left _ hx))) (trodAll_cons_mk (Below.trod laidOut (by kernel_rfl) (of_decide_eq_true (by kernel_rfl)) k1 hb (fun x hx => hlt x (List.mem_append_right _ (List.mem_append_left _ hx)))) (trodAll_cons_mk (Below.trod laidOut (by kernel_rfl) (of_decide_eq_true (by kernel_rfl)) k2 hb (fun x hx => hlt x (List.mem_append_right _ (List.mem_append_right _ (List.mem_append_left _ hx))))) trodAll_mk0))), rfl, hb.frame _, fun h => by cases h⟩

theorem over : Rows.fallbackPickRow.holds Try.pinned (OpenSpec.ofChange Rows.fallbackPickSpec) :=
  OpenClaim.holds_of_wide 5 Try.f5 rfl rfl rfl rfl rfl rfl rfl ⟨rfl, rfl, rfl, rfl, rfl⟩ rfl rfl rfl rfl rfl (by kernel_rfl) Try.func5 (by kernel_rfl)
    (of_decide_eq_true (by kernel_rfl)) (by unfold Func.isWrapper; first | (rw [if_pos (by decide +kernel)]; kernel_rfl) | (rw [if_neg (by decide +kernel)]; exact ⟨rfl, rfl⟩))
    (fun os started H enc _ => lifted os started H enc)

/-- the statement -/
theorem proved : Rows.FallbackPickSaid :=
  over
#print axioms proved
end Go.Proofs.Ytllmafbpjmclbaa.fallbackPick
