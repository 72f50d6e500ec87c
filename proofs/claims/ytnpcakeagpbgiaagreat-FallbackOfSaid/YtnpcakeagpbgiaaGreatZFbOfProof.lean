/-
  Which fonts a text is shown in: the program's answer is the document's, for any spans (at most 20), at most four fonts of at most 100 mappings each and every text of at most 30 code points (of others it says nothing); the arguments stay as they were.
-/
import Derived.Test.YtnpcakeagpbgiaaGreatAza
import Derived.Test.YtnpcakeagpbgiaaGreatZFont
import Derived.Test.YtnpcakeagpbgiaaGreatFya
import Derived.Test.YtnpcakeagpbgiaaGreatFyb
import Derived.Deep.RegionHeld3
set_option linter.unusedVariables false
namespace Go.Proofs.YtnpcakeagpbgiaaGreat.fallbackOf
open Go.ChangeShapes Go.WideShapes Go.ChangeAt Go.RowKit Go.Proofs.YtnpcakeagpbgiaaGreat
theorem own : ownKnob Tryz.prog.godebug = none := by kernel_rfl
theorem laidOut : laidOutB Tryz.prog = true := by kernel_rfl

theorem walk (A0 : Option Addr) (c0 : Nat) (z0 : List (Shp.Dat fontS)) (A1 : Option Addr) (c1 : Nat) (z1 : List Int) (A2 : Option Addr) (c2 : Nat) (z2 : List (Shp.Dat S5.spanS)) (w : World) (h0 : Lies w w.heap.size (.sl fontS) ⟨A0, c0, z0⟩) (n1 : z1.length ≤ 9223372036854775807) (m1 : z1.length ≤ c1) (w1 : ∀ z ∈ z1, (Lit.int .i32 z).wf = true) (h1 : Has w w.heap.size A1 (z1.map (Value.int .i32))) (e1 : A1 = none → c1 = 0) (h2 : Lies w w.heap.size (.sl S5.spanS) ⟨A2, c2, z2⟩) :
    Calls Tryz.prog 3 #[.slice A0 z0.length c0, .slice A1 z1.length c1, .slice A2 z2.length c2] w fun e w' => e = .returned (.bool true) ∧ Below w.heap.size w w' := by
  have HMany := Lib.hid (many_ok A0 c0 z0.length z0 w rfl h0.1.1 h0)
  generalize hm : z1.length = m at *
  have hm' := hm.symm
  have hs := S5.HasN.spans h2.2.1
  have hsl : z2.length = (z2.map S5.spOf).length := by simp
  generalize z2.map S5.spOf = sp at *
  have hn2 := h2.1.1
  generalize z2.length = np at *
  clear h2
  cases hb : manyB z0 with
  | true =>
    rw [hb] at HMany
    generalize z0.length = n at *
    clear hb hm hm' h0 h1 e1 w1 hs hsl
    go_enter Tryz.func3, Tryz.ntmps3
    go_wp2_with (go_at_call 6; (with_reducible refine HMany.out.mono ?_); rintro e w1 ⟨rfl, hu1⟩)
    go_ret
    exact ⟨rfl, hu1.1⟩
  | false =>
    rw [hb] at HMany
    obtain ⟨hn4, hML⟩ := many_no hb
    by_cases hb2 : 30 < m
    · generalize z0.length = n at *
      clear hb hm hm' h0 h1 e1 w1 hML hs hsl
      go_enter Tryz.func3, Tryz.ntmps3
      go_wp2_with (go_at_call 6; (with_reducible refine HMany.out.mono ?_); rintro e w1 ⟨rfl, hu1⟩)
      go_ret
      exact ⟨rfl, hu1.1⟩
    · by_cases hb3 : 20 < np
      · generalize z0.length = n at *
        clear hb hm hm' h0 h1 e1 w1 hML hs hsl
        go_enter Tryz.func3, Tryz.ntmps3
        go_wp2_with (go_at_call 6; (with_reducible refine HMany.out.mono ?_); rintro e w1 ⟨rfl, hu1⟩)
        go_ret
        exact ⟨rfl, hu1.1⟩
      · have HP := Lib.hid (fun W (hu : Below w.heap.size w W) => pof_ok A0 A1 A2 c0 z0.length c1 m c2 np z0 z1 sp W rfl (by omega) hML hm' (by omega) m1 w1 hsl (by omega) (h0.carry hu) (h1.carry hu) (hs.carry hu))
        have HR := Lib.hid (fun W (hu : Below w.heap.size w W) => rof23_ok A0 A1 A2 c0 z0.length c1 m c2 np z0 z1 sp W rfl (by omega) hML hm' (by omega) m1 hsl (by omega) (h0.carry hu) (h1.carry hu) (hs.carry hu))
        have HLO := Lib.hid (ofF_len (allMaps z0) sp z1 1000000 (by omega))
        generalize ofF (allMaps z0) sp z1 = V at *
        generalize z0.length = n at *
        clear hb hm hm' h0 h1 e1 w1 hML hs hsl
        go_enter Tryz.func3, Tryz.ntmps3
        go_wp2_with (first
          | (go_at_call 6; (with_reducible refine HMany.out.mono ?_); rintro e w1 ⟨rfl, hu1⟩; have q1 := hu1.1)
          | (go_at_call 8; (with_reducible refine (HP.out _ q1).mono ?_); rintro e w2 ⟨v2, rfl, A3, c3, rfl, k2, H2, hq2⟩; have hs2 := q1.trans (hq2.mono q1.size))
          | (go_at_call 9; (with_reducible refine (HR.out _ hs2).mono ?_); rintro e w3 ⟨v3, rfl, A4, c4, rfl, k3, H3, hb3'⟩; have hs3 := hs2.trans (hb3'.mono hs2.size))
          | (go_at_call 7; (refine (S5.sameS_ok A3 A4 c3 c4 _ _ V V _ rfl rfl HLO.out HLO.out (H2.carry hb3') H3).mono ?_); rintro e w4 ⟨rfl, hu4⟩))
        go_ret
        exact ⟨by simp, hs3.trans (hu4.1.mono hs3.size)⟩

set_option maxRecDepth 100000 in
theorem lifted (os : Os) (started : os.Started) (H : Type) (enc : TypeId × Value → H) :
    ReturnsInHanded {} Tryz.checked os 3 .any (Rows.fallbackOfSpec.pre6 enc Tryz.prog Tryz.f3 Rows.fallbackOfRow.domain false) (Rows.fallbackOfSpec.post enc Tryz.prog Tryz.f3 false true false false) := by
  refine returnsInHanded_of_change (C := Tryz.checked) own started (by kernel_rfl) Tryz.func3
    (ChangeSpec.witness6 (enc := enc) (C := Tryz.checked) false ⟨#[], #[.slice none 0 0, .slice none 0 0, .slice none 0 0], []⟩ 8 (by kernel_rfl) (by kernel_rfl) (by kernel_rfl) (by kernel_rfl)) ?_
  intro W base args ds gs before hval0 hW hcnd _
  have hval : ∀ (j : Nat) t v, Tryz.f3.params[j]? = some t → args[j]? = some v → Value.okWide Tryz.prog W .any base t v := hval0
  have hW' := hW
  obtain ⟨p, q, hA0, hV, rfl, hfz, hnd⟩ := hW
  have hA : DataW.TrodAll enc Tryz.prog W 0 (fun _ => true) true Tryz.f3.params.toList args.toList ds p := hA0
  rw [Tryz.params3] at hA hval
  obtain ⟨v0, vs0, d0, ds0, p0, q0, hargs, rfl, rfl, h0, r0⟩ := trodAll_cons hA
  obtain ⟨v1, vs1, d1, ds1, p1, q1, rfl, rfl, rfl, h1, r1⟩ := trodAll_cons r0
  obtain ⟨v2, vs2, d2, ds2, p2, q2, rfl, rfl, rfl, h2, r2⟩ := trodAll_cons r1
  obtain ⟨rfl, rfl, rfl⟩ := trodAll_nil r2
  obtain rfl : args = #[v0, v1, v2] := by cases args; simp_all
  obtain ⟨rfl, rfl⟩ := trodVars_none hV
  clear hA0 hval0
  have hlt : ∀ x ∈ p0 ++ (p1 ++ (p2 ++ [])), x.block < W.heap.size := fun x hx => by simpa using hW'.lt x (List.mem_append_left _ hx)
  have k0 := h0
  have k1 := h1
  have k2 := h2
  obtain ⟨A0, l0, c0, rfl⟩ := okWide_slice Tryz.underlying22 (hval 0 22 v0 rfl rfl)
  obtain ⟨z0, rfl, hh0⟩ := seen_list fontS (by kernel_rfl) h0 (fun x hx => hlt x (List.mem_append_left _ hx))
  obtain ⟨A1, l1, c1, rfl⟩ := okWide_slice Tryz.underlying23 (hval 1 23 v1 rfl rfl)
  obtain ⟨z1, rfl, n1, m1, w1, hh1⟩ := has_ints Tryz.underlying23 Tryz.underlying21 (by kernel_rfl) h1 (fun x hx => hlt x (List.mem_append_right _ (List.mem_append_left _ hx)))
  have e1 := none_cap Tryz.underlying23 Tryz.underlying21 (by kernel_rfl) k1
  obtain ⟨A2, l2, c2, rfl⟩ := okWide_slice Tryz.underlying24 (hval 2 24 v2 rfl rfl)
  obtain ⟨z2, rfl, hh2⟩ := seen_list S5.spanS (by kernel_rfl) h2 (fun x hx => hlt x (List.mem_append_right _ (List.mem_append_right _ (List.mem_append_left _ hx))))
  refine (walk A0 c0 z0 A1 c1 z1 A2 c2 z2 W hh0 n1 m1 w1 hh1 e1 hh2).mono fun e W' ⟨he, hb⟩ => ?_
  subst he
  exact ⟨_, rfl, _, _, _, [], _, [], hW', (trodAll_cons_mk (shut_bool Tryz.underlying4 _) trodAll_mk0), (trodAll_cons_mk (Below.trod laidOut (by kernel_rfl) (of_decide_eq_true (by kernel_rfl)) k0 hb (fun x hx => hlt x (List.mem_append_left _ hx))) (trodAll_cons_mk (Below.trod laidOut (by kernel_rfl) (of_decide_eq_true (by kernel_rfl)) k1 hb (fun x hx => hlt x (List.mem_append_right _ (List.mem_append_left _ hx)))) (trodAll_cons_mk (Below.trod laidOut (by kernel_rfl) (of_decide_eq_true (by kernel_rfl)) k2 hb (fun x hx => hlt x (List.mem_append_right _ (List.mem_append_right _ (List.mem_append_left _ hx))))) trodAll_mk0))), rfl, hb.frame _, fun h => by cases h⟩

theorem over : Rows.fallbackOfRow.holds Tryz.pinned (OpenSpec.ofChange Rows.fallbackOfSpec) :=
  OpenClaim.holds_of_wide 3 Tryz.f3 rfl rfl rfl rfl rfl rfl rfl ⟨rfl, rfl, rfl, rfl, rfl⟩ rfl rfl rfl rfl rfl (by kernel_rfl) Tryz.func3 (by kernel_rfl)
    (of_decide_eq_true (by kernel_rfl)) (by unfold Func.isWrapper; first | (rw [if_pos (by decide +kernel)]; kernel_rfl) | (rw [if_neg (by decide +kernel)]; exact ⟨rfl, rfl⟩))
    (fun os started H enc _ => lifted os started H enc)

/-- the statement -/
theorem proved : Rows.FallbackOfSaid :=
  over
#print axioms proved
end Go.Proofs.YtnpcakeagpbgiaaGreat.fallbackOf
