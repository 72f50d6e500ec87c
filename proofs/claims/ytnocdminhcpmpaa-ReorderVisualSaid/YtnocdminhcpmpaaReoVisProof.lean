/-
  For every []int the statement ReorderVisual returns true: Visual and Logical answer as the document's do. No condition.
-/
import Derived.Test.YtnocdminhcpmpaaHas
import Derived.Test.YtnocdminhcpmpaaRol
set_option linter.unusedVariables false
namespace Go.Proofs.Ytnocdminhcpmpaa.reorderVisual
open Go.ChangeShapes Go.WideShapes Go.ChangeAt Go.RowKit Go.Proofs.Ytnocdminhcpmpaa
theorem own : ownKnob Try.prog.godebug = none := by kernel_rfl
theorem laidOut : laidOutB Try.prog = true := by kernel_rfl

theorem walk (A0 : Option Addr) (c0 : Nat) (z0 : List Int) (w : World) (n0 : z0.length ≤ 9223372036854775807) (m0 : z0.length ≤ c0) (w0 : ∀ z ∈ z0, (Lit.int .i64 z).wf = true) (h0 : Has w w.heap.size A0 (z0.map (Value.int .i64))) :
    Calls Try.prog 3 #[.slice A0 z0.length c0] w fun e w' => e = .returned (.bool true) ∧ Below w.heap.size w w' := by
  have HLG := Lib.hid (fun W => long_ok A0 z0.length c0 W)
  by_cases hl : 30 < z0.length
  · rw [decide_eq_true hl] at HLG
    clear w0 m0 h0
    go_enter Try.func3, Try.ntmps3
    go_wp2_with (go_at_call 9; (with_reducible refine (HLG.out _).mono ?_); rintro e u ⟨rfl, rfl⟩)
    go_ret
    exact ⟨rfl, Below.refl _ _⟩
  · rw [decide_eq_false hl] at HLG
    have H1 := Lib.hid (visual_ok A0 z0.length c0 z0 w rfl (by omega) h0)
    have H2 := Lib.hid (fun (W : World) (hb : Below w.heap.size w W) => rvisual_ok A0 z0.length c0 z0 W rfl (by omega) (h0.carry hb))
    have H3 := Lib.hid (fun (W : World) (hb : Below w.heap.size w W) => logical_ok A0 z0.length c0 z0 W rfl (by omega) (h0.carry hb))
    have H4 := Lib.hid (fun (W : World) (hb : Below w.heap.size w W) => rlogical_ok A0 z0.length c0 z0 W rfl (by omega) (h0.carry hb))
    have HOL := Lib.hid (ord_len (lvX z0) z0.length)
    have HPL := Lib.hid (put_len z0.length (ordX (lvX z0) z0.length) z0.length)
    generalize putK z0.length (ordX (lvX z0) z0.length) z0.length = P at *
    generalize ordX (lvX z0) z0.length = O at *
    have hn2 : z0.length ≤ 30 := by omega
    obtain ⟨n, hn⟩ : ∃ n, z0.length = n := ⟨_, rfl⟩
    rw [hn] at HLG H1 H2 H3 H4 HOL HPL hn2
    rw [hn]
    have HOI : Hid ((inN O).length = n) := Lib.hid (by rw [inN_len]; exact HOL.out)
    have HS := Lib.hid (fun A B c d W h1 h2 => same1_ok A B c d n (inN O) W HOI.out.symm (by omega) h1 h2)
    have HS2 := Lib.hid (fun A B c d W h1 h2 => same1_ok A B c d n P W HPL.out.symm (by omega) h1 h2)
    clear w0 m0 h0 hn hl n0
    go_enter Try.func3, Try.ntmps3
    go_wp2_with (first
      | (go_at_call 9; (with_reducible refine (HLG.out _).mono ?_); rintro e u ⟨rfl, rfl⟩)
      | (go_at_call 11; (with_reducible refine H1.out.mono ?_); rintro e z1 ⟨v, rfl, m1, b1⟩; obtain ⟨A1, c1, rfl, _, _, s1⟩ := m1.size; rw [HOI.out])
      | (go_at_call 12; (with_reducible refine (H2.out _ b1).mono ?_); rintro e z2 ⟨v, rfl, m2, b2⟩; obtain ⟨A2, c2, rfl, _, _, s2⟩ := m2.size; rw [HOI.out]; have s1' := s1.carry b2; have b12 := below_trans b1 b2 b1.size)
      | (go_at_call 10; (with_reducible refine (HS.out A1 A2 c1 c2 _ s1' s2).mono ?_); rintro e z3 ⟨rfl, q, rfl⟩; have b13 := below_drewN b12 q)
      | (go_at_call 13; (with_reducible refine (H3.out _ b13).mono ?_); rintro e z4 ⟨v, rfl, m4, b4⟩; obtain ⟨A4, c4, rfl, _, _, s4⟩ := m4.size; rw [HPL.out]; have b14 := below_trans b13 b4 b13.size)
      | (go_at_call 14; (with_reducible refine (H4.out _ b14).mono ?_); rintro e z5 ⟨v, rfl, m5, b5⟩; obtain ⟨A5, c5, rfl, _, _, s5⟩ := m5.size; rw [HPL.out]; have s4' := s4.carry b5; have b15 := below_trans b14 b5 b14.size)
      | (go_at_call 10; (with_reducible refine (HS2.out A4 A5 c4 c5 _ s4' s5).mono ?_); rintro e z6 ⟨rfl, q2, rfl⟩; have b16 := below_drewN b15 q2))
    go_ret
    exact ⟨rfl, b16⟩

set_option maxRecDepth 100000 in
theorem lifted (os : Os) (started : os.Started) (H : Type) (enc : TypeId × Value → H) :
    ReturnsInHanded {} Try.checked os 3 .any (Rows.reorderVisualSpec.pre6 enc Try.prog Try.f3 Rows.reorderVisualRow.domain false) (Rows.reorderVisualSpec.post enc Try.prog Try.f3 false true false false) := by
  refine returnsInHanded_of_change (C := Try.checked) own started (by kernel_rfl) Try.func3
    (ChangeSpec.witness6 (enc := enc) (C := Try.checked) false ⟨#[], #[.slice none 0 0], []⟩ 8 (by kernel_rfl) (by kernel_rfl) (by kernel_rfl) (by kernel_rfl)) ?_
  intro W base args ds gs before hval0 hW hcnd _
  have hval : ∀ (j : Nat) t v, Try.f3.params[j]? = some t → args[j]? = some v → Value.okWide Try.prog W .any base t v := hval0
  have hW' := hW
  obtain ⟨p, q, hA0, hV, rfl, hfz, hnd⟩ := hW
  have hA : DataW.TrodAll enc Try.prog W 0 (fun _ => true) true Try.f3.params.toList args.toList ds p := hA0
  rw [Try.params3] at hA hval
  obtain ⟨v0, vs0, d0, ds0, p0, q0, hargs, rfl, rfl, h0, r0⟩ := trodAll_cons hA
  obtain ⟨rfl, rfl, rfl⟩ := trodAll_nil r0
  obtain rfl : args = #[v0] := by cases args; simp_all
  obtain ⟨rfl, rfl⟩ := trodVars_none hV
  clear hA0 hval0
  have hlt : ∀ x ∈ p0 ++ [], x.block < W.heap.size := fun x hx => by simpa using hW'.lt x (List.mem_append_left _ hx)
  have k0 := h0
  obtain ⟨A0, l0, c0, rfl⟩ := okWide_slice Try.underlying22 (hval 0 22 v0 rfl rfl)
  obtain ⟨z0, rfl, n0, m0, w0, hh0⟩ := has_ints Try.underlying22 Try.underlying3 (by kernel_rfl) h0 (fun x hx => hlt x (List.mem_append_left _ hx))
  refine (walk A0 c0 z0 W n0 m0 w0 hh0).mono fun e W' ⟨he, hb⟩ => ?_
  subst he
  exact ⟨_, rfl, _, _, _, [], _, [], hW', (trodAll_cons_mk (shut_bool Try.underlying4 _) trodAll_mk0), (trodAll_cons_mk (Below.trod laidOut (by kernel_rfl) (of_decide_eq_true (by kernel_rfl)) k0 hb (fun x hx => hlt x (List.mem_append_left _ hx))) trodAll_mk0), rfl, hb.frame _, fun h => by cases h⟩

theorem over : Rows.reorderVisualRow.holds Try.pinned (OpenSpec.ofChange Rows.reorderVisualSpec) :=
  OpenClaim.holds_of_wide 3 Try.f3 rfl rfl rfl rfl rfl rfl rfl ⟨rfl, rfl, rfl, rfl, rfl⟩ rfl rfl rfl rfl rfl (by kernel_rfl) Try.func3 (by kernel_rfl)
    (of_decide_eq_true (by kernel_rfl)) (by unfold Func.isWrapper; first | (rw [if_pos (by decide +kernel)]; kernel_rfl) | (rw [if_neg (by decide +kernel)]; exact ⟨rfl, rfl⟩))
    (fun os started H enc _ => lifted os started H enc)

/-- the statement -/
theorem proved : Rows.ReorderVisualSaid :=
  over
#print axioms proved
end Go.Proofs.Ytnocdminhcpmpaa.reorderVisual
