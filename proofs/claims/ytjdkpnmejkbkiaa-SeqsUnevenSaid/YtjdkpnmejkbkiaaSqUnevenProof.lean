/-
  For every two []int and both bases the statement SeqsUneven returns true: of lists that are not as long as one another there is no sequence and no run. No condition.
-/
import Derived.Test.YtjdkpnmejkbkiaaHas
import Derived.Test.YtjdkpnmejkbkiaaSqv
set_option linter.unusedVariables false
namespace Go.Proofs.Ytjdkpnmejkbkiaa.seqsUneven
open Go.ChangeShapes Go.WideShapes Go.ChangeAt Go.RowKit Go.Proofs.Ytjdkpnmejkbkiaa
theorem own : ownKnob Try.prog.godebug = none := by kernel_rfl
theorem laidOut : laidOutB Try.prog = true := by kernel_rfl

set_option maxRecDepth 20000 in
set_option maxHeartbeats 8000000 in
theorem walk (A0 : Option Addr) (c0 : Nat) (z0 : List Int) (A1 : Option Addr) (c1 : Nat) (z1 : List Int) (a2 : Bool) (w : World) (n0 : z0.length ≤ 9223372036854775807) (m0 : z0.length ≤ c0) (w0 : ∀ z ∈ z0, (Lit.int .i64 z).wf = true) (h0 : Has w w.heap.size A0 (z0.map (Value.int .i64))) (n1 : z1.length ≤ 9223372036854775807) (m1 : z1.length ≤ c1) (w1 : ∀ z ∈ z1, (Lit.int .i64 z).wf = true) (h1 : Has w w.heap.size A1 (z1.map (Value.int .i64))) :
    Calls Try.prog 6 #[.slice A0 z0.length c0, .slice A1 z1.length c1, .bool a2] w fun e w' => e = .returned (.bool true) ∧ Below w.heap.size w w' := by
  have HAL := Lib.hid (fun w => alive_ok w)
  by_cases hl : 200 < z0.length
  · have d0 : decide ((200 : Int) < (z0.length : Int)) = true := decide_eq_true (by omega)
    clear w0 m0 h0 w1 m1 h1
    go_enter Try.func6, Try.ntmps6
    go_wp2_with (go_at_call 7; (refine (HAL.out _).mono ?_); rintro e u ⟨rfl, hb⟩)
    go_ret
    exact ⟨rfl, hb⟩
  have d0 : decide ((200 : Int) < (z0.length : Int)) = false := decide_eq_false (by omega)
  by_cases hm : 200 < z1.length
  · have d1 : decide ((200 : Int) < (z1.length : Int)) = true := decide_eq_true (by omega)
    clear w0 m0 h0 w1 m1 h1
    go_enter Try.func6, Try.ntmps6
    go_wp2_with (go_at_call 7; (refine (HAL.out _).mono ?_); rintro e u ⟨rfl, hb⟩)
    go_ret
    exact ⟨rfl, hb⟩
  have d1 : decide ((200 : Int) < (z1.length : Int)) = false := decide_eq_false (by omega)
  by_cases he : z0.length = z1.length
  · rw [← he] at d1 ⊢
    clear w0 m0 h0 w1 m1 h1
    go_enter Try.func6, Try.ntmps6
    go_wp2_with (go_at_call 7; (refine (HAL.out _).mono ?_); rintro e u ⟨rfl, hb⟩)
    go_ret
    exact ⟨rfl, hb⟩
  have d2 : (z0.length == z1.length) = false := by simpa using he
  have HLV := Lib.hid (fun o w => level_ok o w)
  have HO := Lib.hid (fun b => sof_uneven A0 A1 z0.length z1.length c0 c1 b z0 w rfl (by omega) he h0)
  have HR := Lib.hid (fun W => sruns_uneven A0 A1 z0.length z1.length c0 c1 W he)
  clear w0 m0 h0 w1 m1 h1
  generalize z0.length = n at *
  generalize z1.length = m at *
  go_enter Try.func6, Try.ntmps6
  go_wp2_with (first
    | (go_at_call 9; (refine (HLV.out _ _).mono ?_); rintro e u ⟨rfl, rfl⟩)
    | (go_at_call 10; (refine (HO.out _).mono ?_); rintro e u1 ⟨rfl, hb1⟩)
    | (go_at_call 13; (refine (HR.out _).mono ?_); rintro e u ⟨rfl, rfl⟩)
    | (go_at_call 7; (refine (HAL.out _).mono ?_); rintro e u2 ⟨rfl, hb2⟩))
  all_goals
    go_ret
    exact ⟨rfl, hb1.trans (hb2.mono hb1.size)⟩

set_option maxRecDepth 100000 in
theorem lifted (os : Os) (started : os.Started) (H : Type) (enc : TypeId × Value → H) :
    ReturnsInHanded {} Try.checked os 6 .any (Rows.seqsUnevenSpec.pre6 enc Try.prog Try.f6 Rows.seqsUnevenRow.domain false) (Rows.seqsUnevenSpec.post enc Try.prog Try.f6 false true false false) := by
  refine returnsInHanded_of_change (C := Try.checked) own started (by kernel_rfl) Try.func6
    (ChangeSpec.witness6 (enc := enc) (C := Try.checked) false ⟨#[], #[.slice none 0 0, .slice none 0 0, .bool false], []⟩ 8 (by kernel_rfl) (by kernel_rfl) (by kernel_rfl) (by kernel_rfl)) ?_
  intro W base args ds gs before hval0 hW hcnd _
  have hval : ∀ (j : Nat) t v, Try.f6.params[j]? = some t → args[j]? = some v → Value.okWide Try.prog W .any base t v := hval0
  have hW' := hW
  obtain ⟨p, q, hA0, hV, rfl, hfz, hnd⟩ := hW
  have hA : DataW.TrodAll enc Try.prog W 0 (fun _ => true) true Try.f6.params.toList args.toList ds p := hA0
  rw [Try.params6] at hA hval
  obtain ⟨v0, vs0, d0, ds0, p0, q0, hargs, rfl, rfl, h0, r0⟩ := trodAll_cons hA
  obtain ⟨v1, vs1, d1, ds1, p1, q1, rfl, rfl, rfl, h1, r1⟩ := trodAll_cons r0
  obtain ⟨v2, vs2, d2, ds2, p2, q2, rfl, rfl, rfl, h2, r2⟩ := trodAll_cons r1
  obtain ⟨rfl, rfl, rfl⟩ := trodAll_nil r2
  obtain rfl : args = #[v0, v1, v2] := by cases args; simp_all
  obtain ⟨rfl, rfl⟩ := trodVars_none hV
  clear hA0 hval0
  have hlt : ∀ x ∈ p0 ++ (p1 ++ (p2 ++ [])), x.block < W.heap.size := fun x hx => by simpa using hW'.lt x (List.mem_append_left _ hx)
  have k0 := h0
  have k1 := h1
  have k2 := h2
  obtain ⟨A0, l0, c0, rfl⟩ := okWide_slice Try.underlying22 (hval 0 22 v0 rfl rfl)
  obtain ⟨z0, rfl, n0, m0, w0, hh0⟩ := has_ints Try.underlying22 Try.underlying3 (by kernel_rfl) h0 (fun x hx => hlt x (List.mem_append_left _ hx))
  obtain ⟨A1, l1, c1, rfl⟩ := okWide_slice Try.underlying22 (hval 1 22 v1 rfl rfl)
  obtain ⟨z1, rfl, n1, m1, w1, hh1⟩ := has_ints Try.underlying22 Try.underlying3 (by kernel_rfl) h1 (fun x hx => hlt x (List.mem_append_right _ (List.mem_append_left _ hx)))
  obtain ⟨a2, rfl, rfl, rfl⟩ := open_bool Try.underlying4 (hval 2 4 v2 rfl rfl) h2
  refine (walk A0 c0 z0 A1 c1 z1 a2 W n0 m0 w0 hh0 n1 m1 w1 hh1).mono fun e W' ⟨he, hb⟩ => ?_
  subst he
  exact ⟨_, rfl, _, _, _, [], _, [], hW', (trodAll_cons_mk (shut_bool Try.underlying4 _) trodAll_mk0), (trodAll_cons_mk (Below.trod laidOut (by kernel_rfl) (of_decide_eq_true (by kernel_rfl)) k0 hb (fun x hx => hlt x (List.mem_append_left _ hx))) (trodAll_cons_mk (Below.trod laidOut (by kernel_rfl) (of_decide_eq_true (by kernel_rfl)) k1 hb (fun x hx => hlt x (List.mem_append_right _ (List.mem_append_left _ hx)))) (trodAll_cons_mk (Below.trod laidOut (by kernel_rfl) (of_decide_eq_true (by kernel_rfl)) k2 hb (fun x hx => hlt x (List.mem_append_right _ (List.mem_append_right _ (List.mem_append_left _ hx))))) trodAll_mk0))), rfl, hb.frame _, fun h => by cases h⟩

theorem over : Rows.seqsUnevenRow.holds Try.pinned (OpenSpec.ofChange Rows.seqsUnevenSpec) :=
  OpenClaim.holds_of_wide 6 Try.f6 rfl rfl rfl rfl rfl rfl rfl ⟨rfl, rfl, rfl, rfl, rfl⟩ rfl rfl rfl rfl rfl (by kernel_rfl) Try.func6 (by kernel_rfl)
    (of_decide_eq_true (by kernel_rfl)) (by unfold Func.isWrapper; first | (rw [if_pos (by decide +kernel)]; kernel_rfl) | (rw [if_neg (by decide +kernel)]; exact ⟨rfl, rfl⟩))
    (fun os started H enc _ => lifted os started H enc)

/-- the statement -/
theorem proved : Rows.SeqsUnevenSaid :=
  over
#print axioms proved
end Go.Proofs.Ytjdkpnmejkbkiaa.seqsUneven
