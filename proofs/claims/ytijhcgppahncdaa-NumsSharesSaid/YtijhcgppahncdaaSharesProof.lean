/-
  For every int total and every slice w of ints the statement NumsShares returns true: where w has at most 40 weights whose sum is an int, nums.Share answers what the document's Share answers. No condition.
-/
import Derived.Test.YtijhcgppahncdaaHas
import Derived.Test.YtijhcgppahncdaaShare
set_option linter.unusedVariables false
namespace Go.Proofs.Ytijhcgppahncdaa.numsShares
open Go.ChangeShapes Go.WideShapes Go.ChangeAt Go.RowKit Go.Proofs.Ytijhcgppahncdaa
theorem own : ownKnob Try.prog.godebug = none := by kernel_rfl
theorem laidOut : laidOutB Try.prog = true := by kernel_rfl

theorem refShare_form (t : Int) (t0 : -9223372036854775808 ≤ t) (t1 : t ≤ 9223372036854775807) (A : Option Addr) (c : Nat) (zs : List Int) (w : World) (h : Has w w.heap.size A (zs.map (Value.int .i64))) (hn : zs.length ≤ 65536)
    (hwf : ∀ z ∈ zs, -9223372036854775808 ≤ z ∧ z ≤ 9223372036854775807) (hs : 0 < psum zs) (hs' : psum zs ≤ 9223372036854775807) :
    Calls Try.prog 19 #[.int .i64 t, .slice A zs.length c] w fun e w' => ∃ A' c', e = .returned (.slice A' zs.length c') ∧ Has w' w'.heap.size A' ((parts t zs zs.length).map (Value.int .i64)) ∧ Below w.heap.size w w' := by
  refine (refShare_any t t0 t1 A c zs w h hn hwf hs hs').mono ?_
  rintro e w' ⟨v, rfl, hm, hb⟩
  obtain ⟨A2, c2, rfl, hh⟩ := hm.reads
  rw [parts_length]
  exact ⟨A2, c2, rfl, hh, hb⟩
theorem same_parts (t : Int) (zs : List Int) (A A' : Option Addr) (c c' : Nat) (w : World) (h : Has w w.heap.size A ((parts t zs zs.length).map (Value.int .i64))) (h' : Has w w.heap.size A' ((parts t zs zs.length).map (Value.int .i64))) (hn : zs.length ≤ 9223372036854775807) :
    Calls Try.prog 17 #[.slice A zs.length c, .slice A' zs.length c'] w fun e w' => e = .returned (.bool true) ∧ Below w.heap.size w w' := by
  have e := same_yes A A' c c' (parts t zs zs.length) w h h' (by rw [parts_length]; exact hn)
  rwa [parts_length] at e
set_option maxHeartbeats 1000000 in
theorem walk (a0 : Int) (A1 : Option Addr) (c1 : Nat) (z1 : List Int) (w : World) (w0 : (Lit.int .i64 a0).wf = true) (n1 : z1.length ≤ 9223372036854775807) (w1 : ∀ z ∈ z1, (Lit.int .i64 z).wf = true) (h1 : Has w w.heap.size A1 (z1.map (Value.int .i64))) :
    Calls Try.prog 6 #[.int .i64 a0, .slice A1 z1.length c1] w fun e w' => e = .returned (.bool true) ∧ Below w.heap.size w w' := by
  have hb0 := wf64 w0
  have hwf : ∀ z ∈ z1, -9223372036854775808 ≤ z ∧ z ≤ 9223372036854775807 := fun z hz => wf64 (w1 z hz)
  have hbig := psum_nonneg z1
  have HN := Lib.hid n1
  by_cases hl : 40 < z1.length
  · go_enter Try.func6, Try.ntmps6
    go_wp2
    go_ret
    exact ⟨rfl, Below.refl _ _⟩
  · rcases Int.lt_or_le 9223372036854775807 (psum z1) with hp | hp
    · have hr := room_no A1 c1 z1 w h1 n1 hwf hp
      go_enter Try.func6, Try.ntmps6
      go_wp2_with (go_at_call 16; refine hr.mono ?_; rintro e w' ⟨rfl, rfl⟩)
      go_ret
      exact ⟨rfl, Below.refl _ _⟩
    · have hr := room_yes A1 c1 z1 w h1 n1 hwf hp
      by_cases h0 : psum z1 = 0
      · have hs := share_nil a0 A1 c1 z1 w h1 (by omega) hwf h0
        have hq := fun (W : World) (hb : Below w.heap.size w W) => refShare_nil a0 A1 c1 z1 W (h1.carry hb) (by omega) hwf h0
        have hm := fun (W : World) => same_yes none none 0 0 [] W Has.nil_ Has.nil_ (by simp)
        clear h0 hp hbig
        go_enter Try.func6, Try.ntmps6
        go_wp2_with (first | (go_at_call 16; refine hr.mono ?_; rintro e w' ⟨rfl, rfl⟩) | (go_at_call 18; refine hs.mono ?_; rintro e W1 ⟨rfl, hb1⟩) | (go_at_call 19; refine (hq _ hb1).mono ?_; rintro e W2 ⟨rfl, hb2⟩) | (go_at_call 17; refine (hm _).mono ?_; rintro e W3 ⟨rfl, hb3⟩))
        go_ret
        exact ⟨rfl, below_trans hb1 (below_trans hb2 (hb3) hb2.size) hb1.size⟩
      · have hs := share_any a0 hb0.1 hb0.2 A1 c1 z1 w h1 (by omega) hwf (by omega) hp
        have hq := fun (W : World) (hb : Below w.heap.size w W) => refShare_form a0 hb0.1 hb0.2 A1 c1 z1 W (h1.carry hb) (by omega) hwf (by omega) hp
        clear h0 hp hbig
        go_enter Try.func6, Try.ntmps6
        go_wp2_with (first | (go_at_call 16; refine hr.mono ?_; rintro e w' ⟨rfl, rfl⟩) | (go_at_call 18; refine hs.mono ?_; rintro e W1 ⟨g, rfl, hg, hrow, hb1⟩) | (go_at_call 19; refine (hq _ hb1).mono ?_; rintro e W2 ⟨A2, c2, rfl, hhas, hb2⟩; have hS := same_parts a0 z1 (some ⟨g, 0, none⟩) A2 z1.length c2 W2 ((filled_has hrow).carry hb2) hhas HN.out) | (go_at_call 17; refine hS.mono ?_; rintro e W3 ⟨rfl, hb3⟩))
        go_ret
        exact ⟨rfl, below_trans hb1 (below_trans hb2 (hb3) hb2.size) hb1.size⟩

set_option maxRecDepth 100000 in
theorem lifted (os : Os) (started : os.Started) (H : Type) (enc : TypeId × Value → H) :
    ReturnsInHanded {} Try.checked os 6 .any (Rows.numsSharesSpec.pre6 enc Try.prog Try.f6 Rows.numsSharesRow.domain false) (Rows.numsSharesSpec.post enc Try.prog Try.f6 false true false false) := by
  refine returnsInHanded_of_change (C := Try.checked) own started (by kernel_rfl) Try.func6
    (ChangeSpec.witness6 (enc := enc) (C := Try.checked) false ⟨#[], #[.int .i64 0, .slice none 0 0], []⟩ 8 (by kernel_rfl) (by kernel_rfl) (by kernel_rfl) (by kernel_rfl)) ?_
  intro W base args ds gs before hval0 hW hcnd _
  have hval : ∀ (j : Nat) t v, Try.f6.params[j]? = some t → args[j]? = some v → Value.okWide Try.prog W .any base t v := hval0
  have hW' := hW
  obtain ⟨p, q, hA0, hV, rfl, hfz, hnd⟩ := hW
  have hA : DataW.TrodAll enc Try.prog W 0 (fun _ => true) true Try.f6.params.toList args.toList ds p := hA0
  rw [Try.params6] at hA hval
  obtain ⟨v0, vs0, d0, ds0, p0, q0, hargs, rfl, rfl, h0, r0⟩ := trodAll_cons hA
  obtain ⟨v1, vs1, d1, ds1, p1, q1, rfl, rfl, rfl, h1, r1⟩ := trodAll_cons r0
  obtain ⟨rfl, rfl, rfl⟩ := trodAll_nil r1
  obtain rfl : args = #[v0, v1] := by cases args; simp_all
  obtain ⟨rfl, rfl⟩ := trodVars_none hV
  clear hA0 hval0
  have hlt : ∀ x ∈ p0 ++ (p1 ++ []), x.block < W.heap.size := fun x hx => by simpa using hW'.lt x (List.mem_append_left _ hx)
  have k0 := h0
  have k1 := h1
  obtain ⟨a0, rfl, rfl, rfl, w0⟩ := open_int Try.underlying3 (hval 0 3 v0 rfl rfl) h0
  obtain ⟨A1, l1, c1, rfl⟩ := okWide_slice Try.underlying27 (hval 1 27 v1 rfl rfl)
  obtain ⟨z1, rfl, n1, w1, hh1⟩ := has_ints Try.underlying27 Try.underlying3 (by kernel_rfl) h1 (fun x hx => hlt x (List.mem_append_right _ (List.mem_append_left _ hx)))
  refine (walk a0 A1 c1 z1 W w0 n1 w1 hh1).mono fun e W' ⟨he, hb⟩ => ?_
  subst he
  exact ⟨_, rfl, _, _, _, [], _, [], hW', (trodAll_cons_mk (shut_bool Try.underlying4 _) trodAll_mk0), (trodAll_cons_mk (Below.trod laidOut (by kernel_rfl) (of_decide_eq_true (by kernel_rfl)) k0 hb (fun x hx => hlt x (List.mem_append_left _ hx))) (trodAll_cons_mk (Below.trod laidOut (by kernel_rfl) (of_decide_eq_true (by kernel_rfl)) k1 hb (fun x hx => hlt x (List.mem_append_right _ (List.mem_append_left _ hx)))) trodAll_mk0)), rfl, hb.frame _, fun h => by cases h⟩

theorem over : Rows.numsSharesRow.holds Try.pinned (OpenSpec.ofChange Rows.numsSharesSpec) :=
  OpenClaim.holds_of_wide 6 Try.f6 rfl rfl rfl rfl rfl rfl rfl ⟨rfl, rfl, rfl, rfl, rfl⟩ rfl rfl rfl rfl rfl (by kernel_rfl) Try.func6 (by kernel_rfl)
    (of_decide_eq_true (by kernel_rfl)) (by unfold Func.isWrapper; first | (rw [if_pos (by decide +kernel)]; kernel_rfl) | (rw [if_neg (by decide +kernel)]; exact ⟨rfl, rfl⟩))
    (fun os started H enc _ => lifted os started H enc)

/-- the statement -/
theorem proved : Rows.NumsSharesSaid :=
  over
#print axioms proved
end Go.Proofs.Ytijhcgppahncdaa.numsShares
