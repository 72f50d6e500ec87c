/-
  UtfLossy: whatever bytes, up to 600: what Lossy gives is a right text of no more runes than bytes; if Decode takes them, it gives the same text, and Encode gives the bytes back. The tied card: the library's two tables read as its text lays them.
-/
import Derived.Test.YtcegaelpbeefaaaDoorHas
import Derived.Test.YtcegaelpbeefaaaDoorLaws
import Derived.Test.YtcegaelpbeefaaaDoorTabs
set_option linter.unusedVariables false
namespace Go.Proofs.YtcegaelpbeefaaaDoor.utfLossy
open Go.ChangeShapes Go.WideShapes Go.ChangeAt Go.RowKit Go.Proofs.YtcegaelpbeefaaaDoor
theorem own : ownKnob Tryd.prog.godebug = none := by kernel_rfl
theorem laidOut : laidOutB Tryd.prog = true := by kernel_rfl

theorem byteZ {t : List Int} (w : ∀ z ∈ t, (Lit.int .u8 z).wf = true) : ByteZ t := fun z hz => by
  have := w z hz
  simpa [Lit.wf, IntKind.bits, IntKind.signed, IntKind.min, IntKind.max] using this
set_option maxHeartbeats 4000000 in
set_option maxRecDepth 100000 in
theorem walk (A0 : Option Addr) (c0 : Nat) (z0 : List Int) (w : World) (hT : Lib.Utf8Tabs 0 1 w) (n0 : z0.length ≤ 9223372036854775807) (m0 : z0.length ≤ c0) (w0 : ∀ z ∈ z0, (Lit.int .u8 z).wf = true) (h0 : Has w w.heap.size A0 (z0.map (Value.int .u8))) :
    Calls Tryd.prog 8 #[.slice A0 z0.length c0] w fun e w' => e = .returned (.bool true) ∧ Below w.heap.size w w' := by
  by_cases hb : z0.length > 600
  · have hb' : (z0.length : Int) > 600 := by omega
    go_enter Tryd.func8, Tryd.ntmps8
    go_wp2_with (go_at_call 9; refine (alive_ok _ hT).mono ?_; rintro e w' ⟨rfl, hbl⟩)
    go_ret
    exact ⟨rfl, hbl⟩
  · have hb' : ¬ (z0.length : Int) > 600 := by omega
    have hl : z0.length ≤ 1000000 := by omega
    have hz := byteZ w0
    have c1 := lossy_ok A0 c0 z0 w hl m0 hz hT h0
    have c2 := fun w' (hb : Below w.heap.size w w') => decode_ok A0 c0 z0 w' hl m0 hz (tabs_below hT hb) (h0.carry hb)
    have HT := Lib.hid hT
    have hxl := decP_len z0
    have hll := losP_len' z0 hz
    have hla := losP_all z0 hz
    have hback := decP_back z0 hz
    have hempty : (decP z0).2.2 ≠ 0 → (decP z0).1 = [] := dec_empty z0 _ 0 []
    obtain ⟨X, hX⟩ : ∃ X, decP z0 = X := ⟨_, rfl⟩
    obtain ⟨xs, N, E⟩ := X
    obtain ⟨ls, hL⟩ : ∃ ls, losP z0 = ls := ⟨_, rfl⟩
    simp only [hX] at c2 hback hempty
    simp only [hL] at c1 hback
    rw [hX] at hxl
    rw [hL] at hll hla
    have hl1 : ¬ (ls.length : Int) > z0.length := by omega
    have c3 := fun A c w' (h : Has w' w'.heap.size A (ls.map (Value.int .i32))) => right_ok A c ls w' (by omega) h
    simp only [hla] at c3
    have HLA := Lib.hid hla
    clear hX hT w0 hz hL hla
    by_cases hE : E = 0
    · obtain ⟨q1, q2⟩ := hback hE
      subst q1
      subst hE
      have HQ := Lib.hid q2
      have e1 : encP xs = z0 := by unfold encP; rw [if_pos HLA.out]; exact q2
      have e2 : codeP xs = 0 := if_pos HLA.out
      have c4 := fun A c w' (h : Has w' w'.heap.size A (xs.map (Value.int .i32))) => encode_ok A c xs w' (by omega) h
      simp only [e1, e2] at c4
      obtain ⟨S, hS⟩ : ∃ S, strOfNums z0 = S := ⟨_, rfl⟩
      have HS := Lib.hid hS
      clear hempty hback q2 e1 e2 hS
      go_enter Tryd.func8, Tryd.ntmps8
      go_wp2_with (first
        | (go_at_call 20; refine c1.mono ?_; rintro e w1 ⟨v1, rfl, A1, cc1, rfl, hc1, hh1, hb1⟩)
        | (go_at_call 14; refine (c3 _ _ _ hh1).mono ?_; rintro e w2 ⟨rfl, rfl⟩)
        | (go_at_call 17; refine (c2 _ hb1).mono ?_; rintro e w3 ⟨v3, rfl, A3, cc3, rfl, hc3, hh3, hb3⟩; have hs3 := below_trans hb1 hb3 hb1.size)
        | (go_at_call 10; refine (c4 _ _ _ hh3).mono ?_; rintro e w4 ⟨v4, rfl, A4, cc4, rfl, hc4, hh4, hb4⟩; have hs4 := below_trans hs3 hb4 hs3.size)
        | (go_at_call 19; refine (same_ok A3 A1 cc3 cc1 xs xs _ (by omega) (by omega) (hh3.carry hb4) ((hh1.carry hb3).carry hb4)).mono ?_; rintro e w5 ⟨he, hb5⟩; rw [decide_eq_true (rfl : xs = xs)] at he; subst he; have hs5 := below_trans hs4 hb5 hs4.size; have k1 := conv_ok w5 A4 cc4 z0 (hh4.carry hb5) z0.length rfl (fun e => by subst e; exact has_none hh4); have k2 := conv_ok w5 A0 c0 z0 (h0.carry hs5) z0.length rfl (fun e => by subst e; exact has_none h0); rw [HS.out] at k1 k2)
        | (go_at_call 9; refine (alive_ok _ (tabs_below HT.out hs5)).mono ?_; rintro e w8 ⟨rfl, hb8⟩))
      go_ret
      exact ⟨rfl, below_trans hs5 hb8 hs5.size⟩
    · have hx0 := hempty hE
      subst hx0
      have hEb : (E == 0) = false := by simpa using hE
      clear hempty hback
      go_enter Tryd.func8, Tryd.ntmps8
      go_wp2_with (first
        | (go_at_call 20; refine c1.mono ?_; rintro e w1 ⟨v1, rfl, A1, cc1, rfl, hc1, hh1, hb1⟩)
        | (go_at_call 14; refine (c3 _ _ _ hh1).mono ?_; rintro e w2 ⟨rfl, rfl⟩)
        | (go_at_call 17; refine (c2 _ hb1).mono ?_; rintro e w3 ⟨v3, rfl, A3, cc3, rfl, hc3, hh3, hb3⟩; have hs3 := below_trans hb1 hb3 hb1.size)
        | (go_at_call 9; refine (alive_ok _ (tabs_below HT.out hs3)).mono ?_; rintro e w8 ⟨rfl, hb8⟩))
      go_ret
      exact ⟨rfl, below_trans hs3 hb8 hs3.size⟩

theorem laid_met (os : Os) : laidMet Tryd.prog Rows.utfLossyRow.laid ((world8 os).forCall (fun _ _ => 0) ⟨#[], #[.slice none 0 0], []⟩).memory :=
  world8_met os
theorem reads (os : Os) {H : Type} (enc : TypeId × Value → H) : ∃ places, DataW.whole enc Tryd.prog ((world8 os).forCall (fun _ _ => 0) ⟨#[], #[.slice none 0 0], []⟩).memory Tryd.f8.params.toList Rows.utfLossySpec.vars false (#[.slice none 0 0] : Array Value).toList 8 = some ([.nil], [], places) :=
  ⟨[], by kernel_rfl⟩

set_option maxRecDepth 100000 in
theorem lifted (os : Os) (started : os.Started) (H : Type) (enc : TypeId × Value → H) (F : Stop.Interp) :
    ReturnsInHanded {} Tryd.checked os 8 .any ((OpenSpec.ofChange Rows.utfLossySpec).preRow enc Tryd.prog Tryd.f8 Rows.utfLossyRow.domain false Rows.utfLossyRow.laid) (((OpenSpec.ofChange Rows.utfLossySpec).at F).post enc Tryd.prog Tryd.f8 false true false false) := by
  obtain ⟨places, hx⟩ := reads os enc
  refine returnsInHanded_of_row (C := Tryd.checked) (s := OpenSpec.ofChange Rows.utfLossySpec) own started (by kernel_rfl) Tryd.func8
    (witness_row_at (enc := enc) (C := Tryd.checked) false (world8 os) #[.slice none 0 0] rfl (by kernel_rfl) (by kernel_rfl) (by kernel_rfl)
      (OpenSpec.preRow_of_cond 8 hx (by kernel_rfl) (fun k hk => by cases hk) (by kernel_rfl) (laid_met os))) ?_
  intro W base args ds gs before hval0 hW _ _ _ hL _ _
  have hval : ∀ (j : Nat) t v, Tryd.f8.params[j]? = some t → args[j]? = some v → Value.okWide Tryd.prog W .any base t v := hval0
  have hW' := hW
  obtain ⟨p, q, hA0, hV, rfl, hfz, hnd⟩ := hW
  have hA : DataW.TrodAll enc Tryd.prog W 0 (fun _ => true) true Tryd.f8.params.toList args.toList ds p := hA0
  have hT := tabs8 hL
  rw [Tryd.params8] at hA hval
  obtain ⟨v0, vs0, d0, ds0, p0, q0, hargs, rfl, rfl, h0, r0⟩ := trodAll_cons hA
  obtain ⟨rfl, rfl, rfl⟩ := trodAll_nil r0
  obtain rfl : args = #[v0] := by cases args; simp_all
  obtain ⟨rfl, rfl⟩ := trodVars_none hV
  clear hA0 hval0
  have hlt : ∀ x ∈ p0 ++ [], x.block < W.heap.size := fun x hx => by simpa using hW'.lt x (List.mem_append_left _ hx)
  have k0 := h0
  obtain ⟨A0, l0, c0, rfl⟩ := okWide_slice Tryd.underlying24 (hval 0 24 v0 rfl rfl)
  obtain ⟨z0, rfl, n0, m0, w0, hh0⟩ := has_ints Tryd.underlying24 Tryd.underlying5 (by kernel_rfl) h0 (fun x hx => hlt x (List.mem_append_left _ hx))
  refine (walk A0 c0 z0 W hT n0 m0 w0 hh0).mono fun e W' ⟨he, hb⟩ => ?_
  subst he
  exact ⟨_, rfl, _, _, _, [], _, [], hW', (trodAll_cons_mk (shut_bool Tryd.underlying4 _) trodAll_mk0), (trodAll_cons_mk (Below.trod laidOut (by kernel_rfl) (of_decide_eq_true (by kernel_rfl)) k0 hb (fun x hx => hlt x (List.mem_append_left _ hx))) trodAll_mk0), rfl, hb.frame _, fun h => by cases h⟩

theorem over : Rows.UtfLossySaid :=
  OpenClaim.holds_of_cond 8 Tryd.f8 rfl rfl rfl rfl rfl rfl rfl ⟨rfl, rfl, rfl, rfl, rfl⟩ rfl rfl rfl rfl rfl (by kernel_rfl) Tryd.func8 (by kernel_rfl)
    (of_decide_eq_true (by kernel_rfl)) (by unfold Func.isWrapper; first | (rw [if_pos (by decide +kernel)]; kernel_rfl) | (rw [if_neg (by decide +kernel)]; exact ⟨rfl, rfl⟩))
    (fun os started H enc _ F => by rw [OpenClaim.pre_eq_preRow]; exact lifted os started H enc F)

theorem plain (f : FuncId) (fn : Func) (hf : Tryd.pinned.checked.prog.funcNamed "typecase/typecaselaw02.UtfLossy" = some f) (hfn : Tryd.pinned.checked.prog.funcs[f]? = some fn) :
    false = Tryd.pinned.checked.prog.looks [] ∧ ∀ (j : Nat) t, fn.params[j]? = some t → Tryd.pinned.checked.prog.wantsStandIn t = false := by
  obtain rfl : f = 8 := Option.some.inj ((show Tryd.prog.funcNamed "typecase/typecaselaw02.UtfLossy" = some 8 by kernel_rfl).symm.trans hf) |>.symm
  obtain rfl : fn = Tryd.f8 := (Option.some.inj (Tryd.func8.symm.trans hfn)).symm
  refine ⟨by kernel_rfl, fun j t ht => ?_⟩
  rw [Tryd.params8] at ht
  have hm := Array.mem_of_getElem? ht
  simp only [List.mem_toArray, List.mem_cons, List.not_mem_nil, or_false] at hm
  rcases hm with rfl
  · exact (show Tryd.prog.wantsStandIn 24 = false by kernel_rfl)

/-- the statement: the tied card -/
theorem proved : Rows.UtfLossyCardSaid :=
  Claim7.holds_tied_plain_at .later [] _ _ _ _ over (fun _ h => by cases h) (by kernel_rfl) (fun _ h => by cases h) utfLossy_row_tie rfl ⟨rfl, rfl⟩ (by kernel_rfl) rfl plain (by kernel_rfl)
#print axioms proved
end Go.Proofs.YtcegaelpbeefaaaDoor.utfLossy
