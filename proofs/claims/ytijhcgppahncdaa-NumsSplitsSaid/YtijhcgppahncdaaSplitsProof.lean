/-
  For every two ints total and parts the statement NumsSplits returns true: where parts is at most 200 or above 65536, nums.Split answers what the document's Split answers. No condition.
-/
import Derived.Test.YtijhcgppahncdaaHas
import Derived.Test.YtijhcgppahncdaaSplit
set_option linter.unusedVariables false
namespace Go.Proofs.Ytijhcgppahncdaa.numsSplits
open Go.ChangeShapes Go.WideShapes Go.ChangeAt Go.RowKit Go.Proofs.Ytijhcgppahncdaa
theorem own : ownKnob Try.prog.godebug = none := by kernel_rfl
theorem laidOut : laidOutB Try.prog = true := by kernel_rfl

theorem same_ones (t : Int) (p : Nat) (A A' : Option Addr) (c c' : Nat) (w : World) (h : Has w w.heap.size A ((parts t (ones p) p).map (Value.int .i64))) (h' : Has w w.heap.size A' ((parts t (ones p) p).map (Value.int .i64))) (hn : p ≤ 9223372036854775807) :
    Calls Try.prog 17 #[.slice A p c, .slice A' p c'] w fun e w' => e = .returned (.bool true) ∧ Below w.heap.size w w' := by
  have e := same_yes A A' c c' (parts t (ones p) p) w h h' (by rw [parts_length]; exact hn)
  rwa [parts_length] at e
theorem split_no (t p : Int) (h : p < 1 ∨ 65536 < p) (w : World) :
    Calls Try.prog 20 #[.int .i64 t, .int .i64 p] w fun e w' => e = .returned (.slice none 0 0) ∧ w = w' := by
  rcases h with h | h
  · go_enter Try.func20, Try.ntmps20
    go_wp2
    go_ret
    exact ⟨rfl, rfl⟩
  · go_enter Try.func20, Try.ntmps20
    go_wp2
    go_ret
    exact ⟨rfl, rfl⟩
theorem refSplit_no (t p : Int) (h : p < 1 ∨ 65536 < p) (w : World) :
    Calls Try.prog 21 #[.int .i64 t, .int .i64 p] w fun e w' => e = .returned (.slice none 0 0) ∧ w = w' := by
  rcases h with h | h
  · go_enter Try.func21, Try.ntmps21
    go_wp2
    go_ret
    exact ⟨rfl, rfl⟩
  · go_enter Try.func21, Try.ntmps21
    go_wp2
    go_ret
    exact ⟨rfl, rfl⟩
set_option maxHeartbeats 1000000 in
theorem walk (a0 : Int) (a1 : Int) (w : World) (w0 : (Lit.int .i64 a0).wf = true) (w1 : (Lit.int .i64 a1).wf = true) :
    Calls Try.prog 7 #[.int .i64 a0, .int .i64 a1] w fun e w' => e = .returned (.bool true) ∧ Below w.heap.size w w' := by
  have hb0 := wf64 w0
  by_cases h1 : a1 < 1
  · have hm := same_yes none none 0 0 [] w Has.nil_ Has.nil_ (by simp)
    have e1 := split_no a0 a1 (Or.inl h1) w
    have e2 := refSplit_no a0 a1 (Or.inl h1) w
    go_enter Try.func7, Try.ntmps7
    go_wp2_with (first | (go_at_call 20; refine e1.mono ?_; rintro e w' ⟨rfl, rfl⟩) | (go_at_call 21; refine e2.mono ?_; rintro e w' ⟨rfl, rfl⟩) | (go_at_call 17; refine hm.mono ?_; rintro e w' ⟨rfl, hb⟩))
    go_ret
    exact ⟨rfl, hb⟩
  · by_cases h2 : 65536 < a1
    · have hm := same_yes none none 0 0 [] w Has.nil_ Has.nil_ (by simp)
      have e1 := split_no a0 a1 (Or.inr h2) w
      have e2 := refSplit_no a0 a1 (Or.inr h2) w
      go_enter Try.func7, Try.ntmps7
      go_wp2_with (first | (go_at_call 20; refine e1.mono ?_; rintro e w' ⟨rfl, rfl⟩) | (go_at_call 21; refine e2.mono ?_; rintro e w' ⟨rfl, rfl⟩) | (go_at_call 17; refine hm.mono ?_; rintro e w' ⟨rfl, hb⟩))
      go_ret
      exact ⟨rfl, hb⟩
    · by_cases h3 : 200 < a1
      · go_enter Try.func7, Try.ntmps7
        go_wp2
        go_ret
        exact ⟨rfl, Below.refl _ _⟩
      · obtain ⟨p, rfl⟩ : ∃ p : Nat, a1 = (p : Int) := ⟨a1.toNat, by omega⟩
        have e1 := split_any a0 hb0.1 hb0.2 p (by omega) (by omega) w
        have e2 := fun (W : World) => refSplit_any a0 hb0.1 hb0.2 p (by omega) (by omega) W
        have HN : Hid (p ≤ 9223372036854775807) := Lib.hid (by omega)
        go_enter Try.func7, Try.ntmps7
        go_wp2_with (first | (go_at_call 20; refine e1.mono ?_; rintro e W1 ⟨A1, c1, rfl, hh1, hb1⟩) | (go_at_call 21; refine (e2 _).mono ?_; rintro e W2 ⟨A2, c2, rfl, hh2, hb2⟩; have hS := same_ones a0 p A1 A2 c1 c2 W2 (hh1.carry hb2) hh2 HN.out) | (go_at_call 17; refine hS.mono ?_; rintro e W3 ⟨rfl, hb3⟩))
        go_ret
        exact ⟨rfl, below_trans hb1 (below_trans hb2 (hb3) hb2.size) hb1.size⟩

set_option maxRecDepth 100000 in
theorem lifted (os : Os) (started : os.Started) (H : Type) (enc : TypeId × Value → H) :
    ReturnsInHanded {} Try.checked os 7 .any (Rows.numsSplitsSpec.pre6 enc Try.prog Try.f7 Rows.numsSplitsRow.domain false) (Rows.numsSplitsSpec.post enc Try.prog Try.f7 false true false false) := by
  refine returnsInHanded_of_change (C := Try.checked) own started (by kernel_rfl) Try.func7
    (ChangeSpec.witness6 (enc := enc) (C := Try.checked) false ⟨#[], #[.int .i64 0, .int .i64 0], []⟩ 8 (by kernel_rfl) (by kernel_rfl) (by kernel_rfl) (by kernel_rfl)) ?_
  intro W base args ds gs before hval0 hW hcnd _
  have hval : ∀ (j : Nat) t v, Try.f7.params[j]? = some t → args[j]? = some v → Value.okWide Try.prog W .any base t v := hval0
  have hW' := hW
  obtain ⟨p, q, hA0, hV, rfl, hfz, hnd⟩ := hW
  have hA : DataW.TrodAll enc Try.prog W 0 (fun _ => true) true Try.f7.params.toList args.toList ds p := hA0
  rw [Try.params7] at hA hval
  obtain ⟨v0, vs0, d0, ds0, p0, q0, hargs, rfl, rfl, h0, r0⟩ := trodAll_cons hA
  obtain ⟨v1, vs1, d1, ds1, p1, q1, rfl, rfl, rfl, h1, r1⟩ := trodAll_cons r0
  obtain ⟨rfl, rfl, rfl⟩ := trodAll_nil r1
  obtain rfl : args = #[v0, v1] := by cases args; simp_all
  obtain ⟨rfl, rfl⟩ := trodVars_none hV
  clear hA0 hval0
  have hlt : ∀ x ∈ p0 ++ (p1 ++ []), x.block < W.heap.size := fun x hx => by simpa using hW'.lt x (List.mem_append_left _ hx)
  have k0 := h0
  have k1 := h1
  obtain ⟨a0, rfl, rfl, rfl, w0⟩ := open_int Try.underlying3 (hval 0 3 v0 rfl rfl) h0
  obtain ⟨a1, rfl, rfl, rfl, w1⟩ := open_int Try.underlying3 (hval 1 3 v1 rfl rfl) h1
  refine (walk a0 a1 W w0 w1).mono fun e W' ⟨he, hb⟩ => ?_
  subst he
  exact ⟨_, rfl, _, _, _, [], _, [], hW', (trodAll_cons_mk (shut_bool Try.underlying4 _) trodAll_mk0), (trodAll_cons_mk (Below.trod laidOut (by kernel_rfl) (of_decide_eq_true (by kernel_rfl)) k0 hb (fun x hx => hlt x (List.mem_append_left _ hx))) (trodAll_cons_mk (Below.trod laidOut (by kernel_rfl) (of_decide_eq_true (by kernel_rfl)) k1 hb (fun x hx => hlt x (List.mem_append_right _ (List.mem_append_left _ hx)))) trodAll_mk0)), rfl, hb.frame _, fun h => by cases h⟩

theorem over : Rows.numsSplitsRow.holds Try.pinned (OpenSpec.ofChange Rows.numsSplitsSpec) :=
  OpenClaim.holds_of_wide 7 Try.f7 rfl rfl rfl rfl rfl rfl rfl ⟨rfl, rfl, rfl, rfl, rfl⟩ rfl rfl rfl rfl rfl (by kernel_rfl) Try.func7 (by kernel_rfl)
    (of_decide_eq_true (by kernel_rfl)) (by unfold Func.isWrapper; first | (rw [if_pos (by decide +kernel)]; kernel_rfl) | (rw [if_neg (by decide +kernel)]; exact ⟨rfl, rfl⟩))
    (fun os started H enc _ => lifted os started H enc)

/-- the statement -/
theorem proved : Rows.NumsSplitsSaid :=
  over
#print axioms proved
end Go.Proofs.Ytijhcgppahncdaa.numsSplits
