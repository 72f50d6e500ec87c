/-
  HyphenNil: a nil trie has no patterns: In tells what the document's definition tells without patterns, Points nothing, Len 0, for every text of at most 60 code points (of a longer one the statement says nothing). No condition.
-/
import Derived.Test.YtekjejbcdnghjaaZa
import Derived.Test.YtekjejbcdnghjaaZj
import Derived.Test.YtekjejbcdnghjaaZHls
set_option linter.unusedVariables false
namespace Go.Proofs.Ytekjejbcdnghjaa.hyphenNil
open Go.ChangeShapes Go.WideShapes Go.ChangeAt Go.RowKit Go.Proofs.Ytekjejbcdnghjaa
theorem own : ownKnob Try.prog.godebug = none := by kernel_rfl
theorem laidOut : laidOutB Try.prog = true := by kernel_rfl

set_option maxRecDepth 20000 in
set_option maxHeartbeats 4000000 in
theorem walk (A0 : Option Addr) (c0 : Nat) (z0 : List Int) (w : World) (n0 : z0.length ≤ 9223372036854775807) (m0 : z0.length ≤ c0) (w0 : ∀ z ∈ z0, (Lit.int .i32 z).wf = true) (h0 : Has w w.heap.size A0 (z0.map (Value.int .i32))) :
    Calls Try.prog 3 #[.slice A0 z0.length c0] w fun e w' => e = .returned (.bool true) ∧ Below w.heap.size w w' := by
  by_cases h60 : 60 < z0.length
  · have h60' : (z0.length : Int) > 60 := by omega
    go_enter Try.func3, Try.ntmps3
    go_wp2
    go_ret
    exact ⟨rfl, Below.refl _ _⟩
  have h60' : ¬ (z0.length : Int) > 60 := by omega
  go_enter Try.func3, Try.ntmps3
  go_wp2_with (first
    | (go_at_call 5; refine (pin_nil A0 c0 z0 _ (by omega) m0 w0 h0).mono ?_; rintro e W1 ⟨r1, ⟨u, rfl, Au, cu, rfl, _, hu, hb1⟩, hp1⟩; have h01 := h0.carry hb1)
    | (go_at_call 6; refine (rin_ok none A0 0 c0 [] z0 _ (by simp) (by omega) m0 (by simp) (readsP_nil _) h01).mono ?_; rintro e W2 ⟨r2, ⟨u2, rfl, Au2, cu2, rfl, _, hu2, hb2⟩, hp2⟩; have e12 := hp1.one hp2; subst e12; have hu4 := hu.carry hb2; have h02 := h01.carry hb2; have hrl := hp1.length (by omega))
    | (go_at_call 4; refine (eqs_ok Au Au2 cu cu2 r1.length r1 _ rfl (by omega) hu4 hu2).mono ?_; rintro e W3 ⟨rfl, hb3⟩; have h03 := h02.carry hb3)
    | (go_at_call 7; refine (ppoints_nil A0 c0 z0 _ (by omega) m0 w0 h03).mono ?_; rintro e W4 ⟨u4, rfl, Au4, cu4, rfl, _, _, hb4⟩)
    | (go_at_call 8; refine (plen_nil _).mono ?_; rintro e W5 ⟨rfl, rfl⟩))
  go_ret
  have b2 := below_trans hb1 hb2 hb1.size
  have b3 := below_trans b2 hb3 b2.size
  exact ⟨rfl, below_trans b3 hb4 b3.size⟩

set_option maxRecDepth 100000 in
theorem lifted (os : Os) (started : os.Started) (H : Type) (enc : TypeId × Value → H) :
    ReturnsInHanded {} Try.checked os 3 .any (Rows.hyphenNilSpec.pre6 enc Try.prog Try.f3 Rows.hyphenNilRow.domain false) (Rows.hyphenNilSpec.post enc Try.prog Try.f3 false true false false) := by
  refine returnsInHanded_of_change (C := Try.checked) own started (by kernel_rfl) Try.func3
    (ChangeSpec.witness6 (enc := enc) (C := Try.checked) false ⟨#[], #[.slice none 0 0], []⟩ 8 (by kernel_rfl) (by kernel_rfl) (by kernel_rfl) (by kernel_rfl)) ?_
  intro W base args ds gs before hval0 hW hcnd _
  have hval : ∀ (j : Nat) t v, Try.f3.params[j]? = some t → args[j]? = some v → Value.okWide Try.prog W .any base t v := hval0
  have hW' := hW
  obtain ⟨p, q, hA0, hV, rfl, hfz, hnd⟩ := hW
  have hA : DataW.TrodAll enc Try.prog W 0 (fun _ => true) true Try.f3.params.toList args.toList ds p := hA0
  rw [Try.params3] at hA hval
  obtain ⟨v0, vs0, d0, ds0, p0, q0, hargs, rfl, rfl, h0, r0⟩ := trodAll_cons hA
  obtain ⟨rfl, rfl, rfl⟩ := trodAll_nil r0
  obtain rfl : args = #[v0] := by cases args; simp_all
  obtain ⟨rfl, rfl⟩ := trodVars_none hV
  clear hA0 hval0
  have hlt : ∀ x ∈ p0 ++ [], x.block < W.heap.size := fun x hx => by simpa using hW'.lt x (List.mem_append_left _ hx)
  have k0 := h0
  obtain ⟨A0, l0, c0, rfl⟩ := okWide_slice Try.underlying22 (hval 0 22 v0 rfl rfl)
  obtain ⟨z0, rfl, n0, m0, w0, hh0⟩ := has_ints Try.underlying22 Try.underlying21 (by kernel_rfl) h0 (fun x hx => hlt x (List.mem_append_left _ hx))
  refine (walk A0 c0 z0 W n0 m0 w0 hh0).mono fun e W' ⟨he, hb⟩ => ?_
  subst he
  exact ⟨_, rfl, _, _, _, [], _, [], hW', (trodAll_cons_mk (shut_bool Try.underlying4 _) trodAll_mk0), (trodAll_cons_mk (Below.trod laidOut (by kernel_rfl) (of_decide_eq_true (by kernel_rfl)) k0 hb (fun x hx => hlt x (List.mem_append_left _ hx))) trodAll_mk0), rfl, hb.frame _, fun h => by cases h⟩

theorem over : Rows.hyphenNilRow.holds Try.pinned (OpenSpec.ofChange Rows.hyphenNilSpec) :=
  OpenClaim.holds_of_wide 3 Try.f3 rfl rfl rfl rfl rfl rfl rfl ⟨rfl, rfl, rfl, rfl, rfl⟩ rfl rfl rfl rfl rfl (by kernel_rfl) Try.func3 (by kernel_rfl)
    (of_decide_eq_true (by kernel_rfl)) (by unfold Func.isWrapper; first | (rw [if_pos (by decide +kernel)]; kernel_rfl) | (rw [if_neg (by decide +kernel)]; exact ⟨rfl, rfl⟩))
    (fun os started H enc _ => lifted os started H enc)

/-- the statement -/
theorem proved : Rows.HyphenNilSaid :=
  over
#print axioms proved
end Go.Proofs.Ytekjejbcdnghjaa.hyphenNil
