/-
  UtfBack: a right text of up to 300 runes comes back from its bytes and from its units; the bytes ahead of each place are more than those ahead of the one before, and lead back to it; of any other text there are neither bytes nor units. The tied card: the library's two tables read as its text lays them.
-/
import Derived.Test.YtcegaelpbeefaaaDoorHas
import Derived.Test.YtcegaelpbeefaaaDoorLaws
import Derived.Test.YtcegaelpbeefaaaDoorTabs
set_option linter.unusedVariables false
namespace Go.Proofs.YtcegaelpbeefaaaDoor.utfBack
open Go.ChangeShapes Go.WideShapes Go.ChangeAt Go.RowKit Go.Proofs.YtcegaelpbeefaaaDoor
theorem own : ownKnob Tryd.prog.godebug = none := by kernel_rfl
theorem laidOut : laidOutB Tryd.prog = true := by kernel_rfl

theorem enc_bytes (t : List Int) : ByteZ (encZ t) := fun z hz => by
  unfold encZ at hz
  rw [List.mem_flatMap] at hz
  obtain ⟨r, _, hr⟩ := hz
  have := Lib.encodeRuneZ_byte r z hr
  omega
theorem uni_units (t : List Int) (h : allP t = true) : UnitZ (uniZ t) := fun z hz => by
  unfold uniZ at hz
  rw [List.mem_flatMap] at hz
  obtain ⟨r, hr, hz⟩ := hz
  unfold allP at h
  rw [List.all_eq_true] at h
  have hv := valid_range (h r hr)
  unfold unitsZ at hz
  split at hz
  · simp at hz; omega
  · simp at hz; omega
set_option maxHeartbeats 8000000 in
set_option maxRecDepth 100000 in
theorem walk (A0 : Option Addr) (c0 : Nat) (z0 : List Int) (w : World) (hT : Lib.Utf8Tabs 0 1 w) (n0 : z0.length ≤ 9223372036854775807) (m0 : z0.length ≤ c0) (w0 : ∀ z ∈ z0, (Lit.int .i32 z).wf = true) (h0 : Has w w.heap.size A0 (z0.map (Value.int .i32))) :
    Calls Tryd.prog 7 #[.slice A0 z0.length c0] w fun e w' => e = .returned (.bool true) ∧ Below w.heap.size w w' := by
  by_cases hb : z0.length > 300
  · have hb' : (z0.length : Int) > 300 := by omega
    go_enter Tryd.func7, Tryd.ntmps7
    go_wp2_with (go_at_call 9; refine (alive_ok _ hT).mono ?_; rintro e w' ⟨rfl, hbl⟩)
    go_ret
    exact ⟨rfl, hbl⟩
  · have hb' : ¬ (z0.length : Int) > 300 := by omega
    have hl : z0.length ≤ 1000000 := by omega
    have c1 := encode_ok A0 c0 z0 w hl h0
    have c2 := fun w' (hb : Below w.heap.size w w') => units_ok A0 c0 z0 w' hl (h0.carry hb)
    have c3 := fun w' (hb : Below w.heap.size w w') => right_ok A0 c0 z0 w' (by omega) (h0.carry hb)
    have HT := Lib.hid hT
    by_cases hv : allP z0 = true
    · have e1 : encP z0 = encZ z0 := if_pos hv
      have e2 : codeP z0 = 0 := if_pos hv
      have e3 : uniP z0 = uniZ z0 := if_pos hv
      have hbz := enc_bytes z0
      have huz := uni_units z0 hv
      have hbl4 := encZ_len z0
      have hul2 := uniZ_len z0
      have d1 := decP_enc z0 hv
      have d2 := fromP_uni z0 hv
      have hsum := sum_enc z0
      have HV := Lib.hid hv
      obtain ⟨bs, hB⟩ : ∃ bs, encZ z0 = bs := ⟨_, rfl⟩
      obtain ⟨us, hU⟩ : ∃ us, uniZ z0 = us := ⟨_, rfl⟩
      rw [hB] at e1 hbz hbl4 d1 hsum
      rw [hU] at e3 huz hul2 d2
      rw [e1, e2] at c1
      simp only [e3, e2] at c2
      simp only [hv] at c3
      have c4 := fun A c w' (hT : Lib.Utf8Tabs 0 1 w') (hc : bs.length ≤ c) (h : Has w' w'.heap.size A (bs.map (Value.int .u8))) => decode_ok A c bs w' (by omega) hc hbz hT h
      have c5 := fun A c w' (hc : us.length ≤ c) (h : Has w' w'.heap.size A (us.map (Value.int .u16))) => fromUnits_ok A c us w' (by omega) hc huz h
      simp only [d1] at c4
      simp only [d2] at c5
      have HSUM := Lib.hid hsum
      clear e1 e2 e3 hbz huz d1 d2 hB hU hv hT w0 hsum
      go_enter Tryd.func7, Tryd.ntmps7
      go_wp2_with (first
        | (go_at_call 10; refine c1.mono ?_; rintro e w1 ⟨v1, rfl, A1, cc1, rfl, hc1, hh1, hb1⟩)
        | (go_at_call 12; refine (c2 _ hb1).mono ?_; rintro e w2 ⟨v2, rfl, A2, cc2, rfl, hc2, hh2, hb2⟩; have hs2 := below_trans hb1 hb2 hb1.size)
        | (go_at_call 14; refine (c3 _ hs2).mono ?_; rintro e w3 ⟨rfl, rfl⟩)
        | (go_at_call 17; refine (c4 _ _ _ (tabs_below HT.out hs2) hc1.1 (hh1.carry hb2)).mono ?_; rintro e w4 ⟨v4, rfl, A4, cc4, rfl, hc4, hh4, hb4⟩; have hs4 := below_trans hs2 hb4 hs2.size)
        | (go_at_call 22; refine (c5 _ _ _ hc2.1 (hh2.carry hb4)).mono ?_; rintro e w5 ⟨v5, rfl, A5, cc5, rfl, hc5, hh5, hb5⟩; have hs5 := below_trans hs4 hb5 hs4.size)
        | (go_at_call 19; with_reducible refine (same_ok A4 A0 cc4 c0 z0 z0 _ (by omega) (by omega) (hh4.carry hb5) (h0.carry hs5)).mono ?_; rintro e w6 ⟨he, hb6⟩; rw [decide_eq_true (rfl : z0 = z0)] at he; subst he; have hs6 := below_trans hs5 hb6 hs5.size)
        | (go_at_call 19; with_reducible refine (same_ok A5 A0 cc5 c0 z0 z0 _ (by omega) (by omega) (hh5.carry hb6) (h0.carry hs6)).mono ?_; rintro e w7 ⟨he, hb7⟩; rw [decide_eq_true (rfl : z0 = z0)] at he; subst he; have hs7 := below_trans hs6 hb7 hs6.size))
      have hw := h0.carry hs7
      have HW := Lib.hid hs7
      have cB := fun a => byte_ok A0 c0 z0 a w7 hl m0 hw
      have cP := fun a => place_ok A0 c0 z0 a w7 hl m0 hw
      have CB := Lib.hid cB
      have CP := Lib.hid cP
      clear c1 c2 c3 c4 c5 hh1 hh2 hh4 hh5 hb1 hs2 hb2 hb4 hs4 hb5 hs5 hb6 hs6 hb7 hs7 hc1 hc2 hc4 hc5 cB cP hw h0
      go_loop [13] (fun i => ∃ k : Nat, k ≤ z0.length + 1 ∧ i = .int .i64 k) (fun i => z0.length + 1 - (intOf i).toNat)
      case atStart => exact ⟨0, by omega, rfl⟩
      case round =>
        obtain ⟨k, hk, rfl⟩ := hrel
        by_cases hlt : k ≤ z0.length
        · have b1 := CB.out (k : Int)
          rw [byteP_at z0 HV.out k hlt] at b1
          have p1 := CP.out (sumP (z0.take k))
          rw [plaP_at z0 HV.out k hlt] at p1
          have hlt' : (k : Int) ≤ z0.length := by omega
          by_cases h0k : k = 0
          · obtain ⟨S1, hS1⟩ : ∃ S1, sumP (z0.take k) = S1 := ⟨_, rfl⟩
            rw [hS1] at b1 p1
            clear hS1
            subst h0k
            go_wp2_with (first
              | (go_at_call 24; refine b1.mono ?_; rintro e w' ⟨rfl, rfl⟩)
              | (go_at_call 26; refine p1.mono ?_; rintro e w' ⟨rfl, rfl⟩))
            go_round
            case rel => exact ⟨1, by omega, by go_num⟩
            case measure => simp [intOf]
          · have b0 := CB.out ((k : Int) - 1)
            have hk1 : ((k : Int) - 1) = ((k - 1 : Nat) : Int) := by omega
            have e0 : byteP z0 ((k : Int) - 1) = sumP (z0.take (k - 1)) := by rw [hk1]; exact byteP_at z0 HV.out (k - 1) (by omega)
            rw [e0] at b0
            have hup := sum_up z0 (k - 1) (by omega)
            rw [Nat.sub_add_cancel (by omega)] at hup
            obtain ⟨S1, hS1⟩ : ∃ S1, sumP (z0.take k) = S1 := ⟨_, rfl⟩
            obtain ⟨S0, hS0⟩ : ∃ S0, sumP (z0.take (k - 1)) = S0 := ⟨_, rfl⟩
            rw [hS1] at b1 p1 hup
            rw [hS0] at b0 hup
            have hup' : ¬ S1 ≤ S0 := by omega
            have hkp : (k : Int) > 0 := by omega
            clear hS1 hS0 hk1 e0 hup
            go_wp2_with (first
              | (go_at_call 24; with_reducible refine b1.mono ?_; rintro e w' ⟨rfl, rfl⟩)
              | (go_at_call 24; refine b0.mono ?_; rintro e w' ⟨rfl, rfl⟩)
              | (go_at_call 26; refine p1.mono ?_; rintro e w' ⟨rfl, rfl⟩))
            go_round
            case rel => exact ⟨k + 1, by omega, by go_num⟩
            case measure => simp [intOf]; omega
        · have hlt' : ¬ (k : Int) ≤ z0.length := by omega
          have b1 := CB.out (z0.length : Int)
          rw [byteP_at z0 HV.out z0.length (by omega), List.take_length, HSUM.out] at b1
          go_wp2_with (first
            | (go_at_call 24; refine b1.mono ?_; rintro e w' ⟨rfl, rfl⟩)
            | (go_at_call 9; refine (alive_ok _ (tabs_below HT.out HW.out)).mono ?_; rintro e w8 ⟨rfl, hb8⟩))
          go_ret
          exact ⟨rfl, below_trans HW.out hb8 HW.out.size⟩
    · have hv' : allP z0 = false := by simpa using hv
      have e1 : encP z0 = [] := if_neg hv
      have e2 : codeP z0 = 13 := if_neg hv
      have e3 : uniP z0 = [] := if_neg hv
      rw [e1, e2] at c1
      simp only [e3, e2] at c2
      simp only [hv'] at c3
      clear e1 e2 e3 hv hv' hT w0
      go_enter Tryd.func7, Tryd.ntmps7
      go_wp2_with (first
        | (go_at_call 10; refine c1.mono ?_; rintro e w1 ⟨v1, rfl, A1, cc1, rfl, hc1, hh1, hb1⟩)
        | (go_at_call 12; refine (c2 _ hb1).mono ?_; rintro e w2 ⟨v2, rfl, A2, cc2, rfl, hc2, hh2, hb2⟩; have hs2 := below_trans hb1 hb2 hb1.size)
        | (go_at_call 14; refine (c3 _ hs2).mono ?_; rintro e w3 ⟨rfl, rfl⟩)
        | (go_at_call 9; refine (alive_ok _ (tabs_below HT.out hs2)).mono ?_; rintro e w8 ⟨rfl, hb8⟩))
      go_ret
      exact ⟨rfl, below_trans hs2 hb8 hs2.size⟩

theorem laid_met (os : Os) : laidMet Tryd.prog Rows.utfBackRow.laid ((world8 os).forCall (fun _ _ => 0) ⟨#[], #[.slice none 0 0], []⟩).memory :=
  world8_met os
theorem reads (os : Os) {H : Type} (enc : TypeId × Value → H) : ∃ places, DataW.whole enc Tryd.prog ((world8 os).forCall (fun _ _ => 0) ⟨#[], #[.slice none 0 0], []⟩).memory Tryd.f7.params.toList Rows.utfBackSpec.vars false (#[.slice none 0 0] : Array Value).toList 8 = some ([.nil], [], places) :=
  ⟨[], by kernel_rfl⟩

set_option maxRecDepth 100000 in
theorem lifted (os : Os) (started : os.Started) (H : Type) (enc : TypeId × Value → H) (F : Stop.Interp) :
    ReturnsInHanded {} Tryd.checked os 7 .any ((OpenSpec.ofChange Rows.utfBackSpec).preRow enc Tryd.prog Tryd.f7 Rows.utfBackRow.domain false Rows.utfBackRow.laid) (((OpenSpec.ofChange Rows.utfBackSpec).at F).post enc Tryd.prog Tryd.f7 false true false false) := by
  obtain ⟨places, hx⟩ := reads os enc
  refine returnsInHanded_of_row (C := Tryd.checked) (s := OpenSpec.ofChange Rows.utfBackSpec) own started (by kernel_rfl) Tryd.func7
    (witness_row_at (enc := enc) (C := Tryd.checked) false (world8 os) #[.slice none 0 0] rfl (by kernel_rfl) (by kernel_rfl) (by kernel_rfl)
      (OpenSpec.preRow_of_cond 8 hx (by kernel_rfl) (fun k hk => by cases hk) (by kernel_rfl) (laid_met os))) ?_
  intro W base args ds gs before hval0 hW _ _ _ hL _ _
  have hval : ∀ (j : Nat) t v, Tryd.f7.params[j]? = some t → args[j]? = some v → Value.okWide Tryd.prog W .any base t v := hval0
  have hW' := hW
  obtain ⟨p, q, hA0, hV, rfl, hfz, hnd⟩ := hW
  have hA : DataW.TrodAll enc Tryd.prog W 0 (fun _ => true) true Tryd.f7.params.toList args.toList ds p := hA0
  have hT := tabs8 hL
  rw [Tryd.params7] at hA hval
  obtain ⟨v0, vs0, d0, ds0, p0, q0, hargs, rfl, rfl, h0, r0⟩ := trodAll_cons hA
  obtain ⟨rfl, rfl, rfl⟩ := trodAll_nil r0
  obtain rfl : args = #[v0] := by cases args; simp_all
  obtain ⟨rfl, rfl⟩ := trodVars_none hV
  clear hA0 hval0
  have hlt : ∀ x ∈ p0 ++ [], x.block < W.heap.size := fun x hx => by simpa using hW'.lt x (List.mem_append_left _ hx)
  have k0 := h0
  obtain ⟨A0, l0, c0, rfl⟩ := okWide_slice Tryd.underlying22 (hval 0 22 v0 rfl rfl)
  obtain ⟨z0, rfl, n0, m0, w0, hh0⟩ := has_ints Tryd.underlying22 Tryd.underlying21 (by kernel_rfl) h0 (fun x hx => hlt x (List.mem_append_left _ hx))
  refine (walk A0 c0 z0 W hT n0 m0 w0 hh0).mono fun e W' ⟨he, hb⟩ => ?_
  subst he
  exact ⟨_, rfl, _, _, _, [], _, [], hW', (trodAll_cons_mk (shut_bool Tryd.underlying4 _) trodAll_mk0), (trodAll_cons_mk (Below.trod laidOut (by kernel_rfl) (of_decide_eq_true (by kernel_rfl)) k0 hb (fun x hx => hlt x (List.mem_append_left _ hx))) trodAll_mk0), rfl, hb.frame _, fun h => by cases h⟩

theorem over : Rows.UtfBackSaid :=
  OpenClaim.holds_of_cond 7 Tryd.f7 rfl rfl rfl rfl rfl rfl rfl ⟨rfl, rfl, rfl, rfl, rfl⟩ rfl rfl rfl rfl rfl (by kernel_rfl) Tryd.func7 (by kernel_rfl)
    (of_decide_eq_true (by kernel_rfl)) (by unfold Func.isWrapper; first | (rw [if_pos (by decide +kernel)]; kernel_rfl) | (rw [if_neg (by decide +kernel)]; exact ⟨rfl, rfl⟩))
    (fun os started H enc _ F => by rw [OpenClaim.pre_eq_preRow]; exact lifted os started H enc F)

theorem plain (f : FuncId) (fn : Func) (hf : Tryd.pinned.checked.prog.funcNamed "typecase/typecaselaw02.UtfBack" = some f) (hfn : Tryd.pinned.checked.prog.funcs[f]? = some fn) :
    false = Tryd.pinned.checked.prog.looks [] ∧ ∀ (j : Nat) t, fn.params[j]? = some t → Tryd.pinned.checked.prog.wantsStandIn t = false := by
  obtain rfl : f = 7 := Option.some.inj ((show Tryd.prog.funcNamed "typecase/typecaselaw02.UtfBack" = some 7 by kernel_rfl).symm.trans hf) |>.symm
  obtain rfl : fn = Tryd.f7 := (Option.some.inj (Tryd.func7.symm.trans hfn)).symm
  refine ⟨by kernel_rfl, fun j t ht => ?_⟩
  rw [Tryd.params7] at ht
  have hm := Array.mem_of_getElem? ht
  simp only [List.mem_toArray, List.mem_cons, List.not_mem_nil, or_false] at hm
  rcases hm with rfl
  · exact (show Tryd.prog.wantsStandIn 22 = false by kernel_rfl)

/-- the statement: the tied card -/
theorem proved : Rows.UtfBackCardSaid :=
  Claim7.holds_tied_plain_at .later [] _ _ _ _ over (fun _ h => by cases h) (by kernel_rfl) (fun _ h => by cases h) utfBack_row_tie rfl ⟨rfl, rfl⟩ (by kernel_rfl) rfl plain (by kernel_rfl)
#print axioms proved
end Go.Proofs.YtcegaelpbeefaaaDoor.utfBack
