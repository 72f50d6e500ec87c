/-
  UtfReads: Decode and Lossy agree with the document's definition for all bytes, up to 600. The tied card: the library's two tables read as its text lays them.
-/
import Derived.Test.YtcegaelpbeefaaaDoorHas
import Derived.Test.YtcegaelpbeefaaaDoorLaws
import Derived.Test.YtcegaelpbeefaaaDoorTabs
set_option linter.unusedVariables false
namespace Go.Proofs.YtcegaelpbeefaaaDoor.utfReads
open Go.ChangeShapes Go.WideShapes Go.ChangeAt Go.RowKit Go.Proofs.YtcegaelpbeefaaaDoor
theorem own : ownKnob Tryd.prog.godebug = none := by kernel_rfl
theorem laidOut : laidOutB Tryd.prog = true := by kernel_rfl

theorem byteZ {t : List Int} (w : ∀ z ∈ t, (Lit.int .u8 z).wf = true) : ByteZ t := fun z hz => by
  have := w z hz
  simpa [Lit.wf, IntKind.bits, IntKind.signed, IntKind.min, IntKind.max] using this
set_option maxHeartbeats 2000000 in
set_option maxRecDepth 100000 in
theorem walk (A0 : Option Addr) (c0 : Nat) (z0 : List Int) (w : World) (hT : Lib.Utf8Tabs 0 1 w) (n0 : z0.length ≤ 9223372036854775807) (m0 : z0.length ≤ c0) (w0 : ∀ z ∈ z0, (Lit.int .u8 z).wf = true) (h0 : Has w w.heap.size A0 (z0.map (Value.int .u8))) :
    Calls Tryd.prog 4 #[.slice A0 z0.length c0] w fun e w' => e = .returned (.bool true) ∧ Below w.heap.size w w' := by
  by_cases hb : z0.length > 600
  · have hb' : (z0.length : Int) > 600 := by omega
    go_enter Tryd.func4, Tryd.ntmps4
    go_wp2_with (go_at_call 9; refine (alive_ok _ hT).mono ?_; rintro e w' ⟨rfl, hbl⟩)
    go_ret
    exact ⟨rfl, hbl⟩
  · have hb' : ¬ (z0.length : Int) > 600 := by omega
    have hl : z0.length ≤ 1000000 := by omega
    have hz := byteZ w0
    have c1 := decode_ok A0 c0 z0 w hl m0 hz hT h0
    have c2 := fun w' (hb : Below _ _ w') => refDecode_ok A0 c0 z0 w' hl m0 hz (h0.carry hb)
    have c3 := fun w' (hb : Below w.heap.size w w') => lossy_ok A0 c0 z0 w' hl m0 hz (tabs_below hT hb) (h0.carry hb)
    have c4 := fun w' (hb : Below w.heap.size w w') => refLossy_ok A0 c0 z0 w' hl m0 hz (h0.carry hb)
    have HT := Lib.hid hT
    have hxl := decP_len z0
    have hll := losP_len' z0 hz
    obtain ⟨X, hX⟩ : ∃ X, decP z0 = X := ⟨_, rfl⟩
    obtain ⟨xs, N, E⟩ := X
    obtain ⟨ls, hL⟩ : ∃ ls, losP z0 = ls := ⟨_, rfl⟩
    simp only [hX] at c1 c2
    simp only [hL] at c3 c4
    rw [hX] at hxl
    rw [hL] at hll
    clear hX hT w0 hz hL
    go_enter Tryd.func4, Tryd.ntmps4
    go_wp2_with (first
      | (go_at_call 17; refine c1.mono ?_; rintro e w1 ⟨v1, rfl, A1, cc1, rfl, hc1, hh1, hb1⟩)
      | (go_at_call 18; refine (c2 _ hb1).mono ?_; rintro e w2 ⟨v2, rfl, A2, cc2, rfl, hc2, hh2, hb2⟩)
      | (go_at_call 19; with_reducible refine (same_ok A1 A2 cc1 cc2 xs xs _ (by omega) (by omega) (hh1.carry hb2) hh2).mono ?_; rintro e w3 ⟨he, hb3⟩; rw [decide_eq_true (rfl : xs = xs)] at he; subst he; have hs3 := below_trans (below_trans hb1 hb2 hb1.size) hb3 (Nat.le_trans hb1.size hb2.size))
      | (go_at_call 20; refine (c3 _ hs3).mono ?_; rintro e w4 ⟨v4, rfl, A4, cc4, rfl, hc4, hh4, hb4⟩; have hs4 := below_trans hs3 hb4 hs3.size)
      | (go_at_call 21; refine (c4 _ hs4).mono ?_; rintro e w6 ⟨v6, rfl, A6, cc6, rfl, hc6, hh6, hb6⟩; have hs6 := below_trans hs4 hb6 hs4.size)
      | (go_at_call 19; refine (same_ok A4 A6 cc4 cc6 ls ls _ (by omega) (by omega) (hh4.carry hb6) hh6).mono ?_; rintro e w7 ⟨he, hb7⟩; rw [decide_eq_true (rfl : ls = ls)] at he; subst he; have hs7 := below_trans hs6 hb7 hs6.size)
      | (go_at_call 9; refine (alive_ok _ (tabs_below HT.out hs7)).mono ?_; rintro e w5 ⟨rfl, hb5⟩))
    go_ret
    exact ⟨rfl, below_trans hs7 hb5 hs7.size⟩

theorem laid_met (os : Os) : laidMet Tryd.prog Rows.utfReadsRow.laid ((world8 os).forCall (fun _ _ => 0) ⟨#[], #[.slice none 0 0], []⟩).memory :=
  world8_met os
theorem reads (os : Os) {H : Type} (enc : TypeId × Value → H) : ∃ places, DataW.whole enc Tryd.prog ((world8 os).forCall (fun _ _ => 0) ⟨#[], #[.slice none 0 0], []⟩).memory Tryd.f4.params.toList Rows.utfReadsSpec.vars false (#[.slice none 0 0] : Array Value).toList 8 = some ([.nil], [], places) :=
  ⟨[], by kernel_rfl⟩

set_option maxRecDepth 100000 in
theorem lifted (os : Os) (started : os.Started) (H : Type) (enc : TypeId × Value → H) (F : Stop.Interp) :
    ReturnsInHanded {} Tryd.checked os 4 .any ((OpenSpec.ofChange Rows.utfReadsSpec).preRow enc Tryd.prog Tryd.f4 Rows.utfReadsRow.domain false Rows.utfReadsRow.laid) (((OpenSpec.ofChange Rows.utfReadsSpec).at F).post enc Tryd.prog Tryd.f4 false true false false) := by
  obtain ⟨places, hx⟩ := reads os enc
  refine returnsInHanded_of_row (C := Tryd.checked) (s := OpenSpec.ofChange Rows.utfReadsSpec) own started (by kernel_rfl) Tryd.func4
    (witness_row_at (enc := enc) (C := Tryd.checked) false (world8 os) #[.slice none 0 0] rfl (by kernel_rfl) (by kernel_rfl) (by kernel_rfl)
      (OpenSpec.preRow_of_cond 8 hx (by kernel_rfl) (fun k hk => by cases hk) (by kernel_rfl) (laid_met os))) ?_
  intro W base args ds gs before hval0 hW _ _ _ hL _ _
  have hval : ∀ (j : Nat) t v, Tryd.f4.params[j]? = some t → args[j]? = some v → Value.okWide Tryd.prog W .any base t v := hval0
  have hW' := hW
  obtain ⟨p, q, hA0, hV, rfl, hfz, hnd⟩ := hW
  have hA : DataW.TrodAll enc Tryd.prog W 0 (fun _ => true) true Tryd.f4.params.toList args.toList ds p := hA0
  have hT := tabs8 hL
  rw [Tryd.params4] at hA hval
  obtain ⟨v0, vs0, d0, ds0, p0, q0, hargs, rfl, rfl, h0, r0⟩ := trodAll_cons hA
  obtain ⟨rfl, rfl, rfl⟩ := trodAll_nil r0
  obtain rfl : args = #[v0] := by cases args; simp_all
  obtain ⟨rfl, rfl⟩ := trodVars_none hV
  clear hA0 hval0
  have hlt : ∀ x ∈ p0 ++ [], x.block < W.heap.size := fun x hx => by simpa using hW'.lt x (List.mem_append_left _ hx)
  have k0 := h0
  obtain ⟨A0, l0, c0, rfl⟩ := okWide_slice Tryd.underlying24 (hval 0 24 v0 rfl rfl)
  obtain ⟨z0, rfl, n0, m0, w0, hh0⟩ := has_ints Tryd.underlying24 Tryd.underlying5 (by kernel_rfl) h0 (fun x hx => hlt x (List.mem_append_left _ hx))
  refine (walk A0 c0 z0 W hT n0 m0 w0 hh0).mono fun e W' ⟨he, hb⟩ => ?_
  subst he
  exact ⟨_, rfl, _, _, _, [], _, [], hW', (trodAll_cons_mk (shut_bool Tryd.underlying4 _) trodAll_mk0), (trodAll_cons_mk (Below.trod laidOut (by kernel_rfl) (of_decide_eq_true (by kernel_rfl)) k0 hb (fun x hx => hlt x (List.mem_append_left _ hx))) trodAll_mk0), rfl, hb.frame _, fun h => by cases h⟩

theorem over : Rows.UtfReadsSaid :=
  OpenClaim.holds_of_cond 4 Tryd.f4 rfl rfl rfl rfl rfl rfl rfl ⟨rfl, rfl, rfl, rfl, rfl⟩ rfl rfl rfl rfl rfl (by kernel_rfl) Tryd.func4 (by kernel_rfl)
    (of_decide_eq_true (by kernel_rfl)) (by unfold Func.isWrapper; first | (rw [if_pos (by decide +kernel)]; kernel_rfl) | (rw [if_neg (by decide +kernel)]; exact ⟨rfl, rfl⟩))
    (fun os started H enc _ F => by rw [OpenClaim.pre_eq_preRow]; exact lifted os started H enc F)

theorem plain (f : FuncId) (fn : Func) (hf : Tryd.pinned.checked.prog.funcNamed "typecase/typecaselaw02.UtfReads" = some f) (hfn : Tryd.pinned.checked.prog.funcs[f]? = some fn) :
    false = Tryd.pinned.checked.prog.looks [] ∧ ∀ (j : Nat) t, fn.params[j]? = some t → Tryd.pinned.checked.prog.wantsStandIn t = false := by
  obtain rfl : f = 4 := Option.some.inj ((show Tryd.prog.funcNamed "typecase/typecaselaw02.UtfReads" = some 4 by kernel_rfl).symm.trans hf) |>.symm
  obtain rfl : fn = Tryd.f4 := (Option.some.inj (Tryd.func4.symm.trans hfn)).symm
  refine ⟨by kernel_rfl, fun j t ht => ?_⟩
  rw [Tryd.params4] at ht
  have hm := Array.mem_of_getElem? ht
  simp only [List.mem_toArray, List.mem_cons, List.not_mem_nil, or_false] at hm
  rcases hm with rfl
  · exact (show Tryd.prog.wantsStandIn 24 = false by kernel_rfl)

/-- the statement: the tied card -/
theorem proved : Rows.UtfReadsCardSaid :=
  Claim7.holds_tied_plain_at .later [] _ _ _ _ over (fun _ h => by cases h) (by kernel_rfl) (fun _ h => by cases h) utfReads_row_tie rfl ⟨rfl, rfl⟩ (by kernel_rfl) rfl plain (by kernel_rfl)
#print axioms proved
end Go.Proofs.YtcegaelpbeefaaaDoor.utfReads
