/-
  HyphenIn: In agrees with the document's definition for all patterns and every text (at most 20 patterns of at most 40 bytes, a text of at most 60 code points: of more the statement says nothing). No condition.
-/
import Derived.Test.YtekjejbcdnghjaaDoorZa
import Derived.Test.YtekjejbcdnghjaaDoorZStr
import Derived.Test.YtekjejbcdnghjaaDoorZTabs
import Derived.Test.YtekjejbcdnghjaaDoorZj
import Derived.Test.YtekjejbcdnghjaaDoorZHls
set_option linter.unusedVariables false
namespace Go.Proofs.YtekjejbcdnghjaaDoor.hyphenIn
open Go.ChangeShapes Go.WideShapes Go.ChangeAt Go.RowKit Go.Proofs.YtekjejbcdnghjaaDoor
theorem own : ownKnob Tryd.prog.godebug = none := by kernel_rfl
theorem laidOut : laidOutB Tryd.prog = true := by kernel_rfl

set_option maxRecDepth 20000 in
set_option maxHeartbeats 4000000 in
theorem walk (A0 : Option Addr) (c0 : Nat) (z0 : List ByteArray) (A1 : Option Addr) (c1 : Nat) (z1 : List Int) (w : World) (hT : Lib.Utf8Tabs 0 1 w) (n0 : z0.length ≤ 9223372036854775807) (m0 : z0.length ≤ c0) (w0 : ∀ z ∈ z0, z.size ≤ 9223372036854775807) (h0 : Has w w.heap.size A0 (z0.map Value.string)) (n1 : z1.length ≤ 9223372036854775807) (m1 : z1.length ≤ c1) (w1 : ∀ z ∈ z1, (Lit.int .i32 z).wf = true) (h1 : Has w w.heap.size A1 (z1.map (Value.int .i32))) :
    Calls Tryd.prog 7 #[.slice A0 z0.length c0, .slice A1 z1.length c1] w fun e w' => e = .returned (.bool true) ∧ Below w.heap.size w w' := by
  have HTB := Lib.hid hT
  clear hT
  have cm := many_ok A0 c0 z0 w n0 w0 h0
  obtain ⟨M, hM⟩ : ∃ M, manyB z0 = M := ⟨_, rfl⟩
  rw [hM] at cm
  cases M with
  | true =>
    go_enter Tryd.func7, Tryd.ntmps7
    go_wp2_with (go_at_call 17; refine cm.mono ?_; rintro e w' ⟨rfl, rfl⟩)
    go_ret
    exact ⟨rfl, Below.refl _ _⟩
  | false =>
  by_cases h80 : 60 < z1.length
  · have h80' : (z1.length : Int) > 60 := by omega
    go_enter Tryd.func7, Tryd.ntmps7
    go_wp2_with (go_at_call 17; refine cm.mono ?_; rintro e w' ⟨rfl, rfl⟩)
    go_ret
    exact ⟨rfl, Below.refl _ _⟩
  have h80' : ¬ (z1.length : Int) > 60 := by omega
  have hs := many_small hM
  have cn := fun W a b => pnew_ok A0 c0 z0 W (by omega) (fun z hz => by have := hs.2 z hz; omega) a b
  have cr := fun W a => rnew_ok A0 c0 z0 W (by omega) (fun z hz => by have := hs.2 z hz; omega) a
  have hok := newS_ok z0
  obtain ⟨N, hr⟩ : ∃ N, newS z0 = N := ⟨_, rfl⟩
  obtain ⟨acc, k, E⟩ := N
  simp only [hr] at cn cr hok
  have hac : acc.length ≤ 20 := by omega
  have HOK := Lib.hid hok.1
  have hz20 := hs.1
  clear hr hs hok hM
  by_cases hE : E = 0
  · subst hE
    go_enter Tryd.func7, Tryd.ntmps7
    go_wp2_with (first
      | (go_at_call 17; refine cm.mono ?_; rintro e w' ⟨rfl, rfl⟩)
      | (go_at_call 15; refine (cn _ h0 HTB.out).mono ?_; rintro e W1 ⟨v, rfl, hN, hb1⟩; have hT := hN.1 rfl; obtain ⟨X, rfl⟩ := hT.ptr; have HT := Lib.hid hT; have h01 := h0.carry hb1; have h11 := h1.carry hb1; clear hN hT)
      | (go_at_call 18; refine (cr _ h01).mono ?_; rintro e W2 ⟨y, rfl, hR, hb2⟩; obtain ⟨Ay, cy, rfl⟩ := hR.form; have HT2 := Lib.hid (HT.out.below hb2); have HR := Lib.hid hR; have h12 := h11.carry hb2; clear hR)
      | (go_at_call 16; refine (num_ok _ _).mono ?_; rintro e w' ⟨rfl, rfl⟩)
      | (go_at_call 21; refine (pin_ok _ acc A1 c1 z1 _ (by omega) HOK.out (by omega) m1 w1 HT2.out h12).mono ?_; rintro e W3 ⟨r1, ⟨u, rfl, Au, cu, rfl, _, hu, hb3⟩, hp1⟩; have h13 := h12.carry hb3; have HR3 := Lib.hid (HR.out.carry hb3))
      | (go_at_call 22; refine (rin_ok Ay A1 cy c1 acc z1 _ (by omega) (by omega) m1 HOK.out HR3.out h13).mono ?_; rintro e W4 ⟨r2, ⟨u2, rfl, Au2, cu2, rfl, _, hu2, hb4⟩, hp2⟩; have e12 := hp1.one hp2; subst e12; have hu4 := hu.carry hb4; have hrl := hp1.length (by omega))
      | (go_at_call 12; refine (eqs_ok Au Au2 cu cu2 r1.length r1 _ rfl (by omega) hu4 hu2).mono ?_; rintro e W5 ⟨rfl, hb5⟩))
    go_ret
    have b2 := below_trans hb1 hb2 hb1.size
    have b3 := below_trans b2 hb3 b2.size
    have b4 := below_trans b3 hb4 b3.size
    exact ⟨rfl, below_trans b4 hb5 b4.size⟩
  · go_enter Tryd.func7, Tryd.ntmps7
    go_wp2_with (first
      | (go_at_call 17; refine cm.mono ?_; rintro e w' ⟨rfl, rfl⟩)
      | (go_at_call 15; refine (cn _ h0 HTB.out).mono ?_; rintro e W1 ⟨v, rfl, hN, hb1⟩; obtain rfl := hN.2 hE; have h01 := h0.carry hb1; clear hN)
      | (go_at_call 18; refine (cr _ h01).mono ?_; rintro e W2 ⟨y, rfl, hR, hb2⟩; obtain ⟨Ay, cy, rfl⟩ := hR.form; clear hR)
      | (go_at_call 16; refine (num_ok _ _).mono ?_; rintro e w' ⟨rfl, rfl⟩))
    go_ret
    exact ⟨by simp, below_trans hb1 hb2 hb1.size⟩

theorem laid_met (os : Os) : laidMet Tryd.prog Rows.hyphenInRow.laid ((world8 os).forCall (fun _ _ => 0) ⟨#[], #[.slice none 0 0, .slice none 0 0], []⟩).memory :=
  laidMet_of_run' 8 (by kernel_rfl) (by kernel_rfl)
theorem reads (os : Os) {H : Type} (enc : TypeId × Value → H) : ∃ places, DataW.whole enc Tryd.prog ((world8 os).forCall (fun _ _ => 0) ⟨#[], #[.slice none 0 0, .slice none 0 0], []⟩).memory Tryd.f7.params.toList Rows.hyphenInSpec.vars false (#[.slice none 0 0, .slice none 0 0] : Array Value).toList 8 = some ([.nil, .nil], [], places) :=
  ⟨[], by kernel_rfl⟩
set_option maxRecDepth 100000 in
theorem lifted (os : Os) (started : os.Started) (H : Type) (enc : TypeId × Value → H) (F : Stop.Interp) :
    ReturnsInHanded {} Tryd.checked os 7 .any ((OpenSpec.ofChange Rows.hyphenInSpec).preRow enc Tryd.prog Tryd.f7 Rows.hyphenInRow.domain false Rows.hyphenInRow.laid) (((OpenSpec.ofChange Rows.hyphenInSpec).at F).post enc Tryd.prog Tryd.f7 false true false false) := by
  obtain ⟨places, hx⟩ := reads os enc
  refine returnsInHanded_of_row (C := Tryd.checked) (s := OpenSpec.ofChange Rows.hyphenInSpec) own started (by kernel_rfl) Tryd.func7
    (witness_row_at (enc := enc) (C := Tryd.checked) false (world8 os) #[.slice none 0 0, .slice none 0 0] rfl (by kernel_rfl) (by kernel_rfl) (by kernel_rfl)
      (OpenSpec.preRow_of_cond 8 hx (by kernel_rfl) (fun k hk => by cases hk) (by kernel_rfl) (laid_met os))) ?_
  intro W base args ds gs before hval0 hW _ _ _ hL _ _
  have hT := tabs8 hL
  have hval : ∀ (j : Nat) t v, Tryd.f7.params[j]? = some t → args[j]? = some v → Value.okWide Tryd.prog W .any base t v := hval0
  have hW' := hW
  obtain ⟨p, q, hA0, hV, rfl, hfz, hnd⟩ := hW
  have hA : DataW.TrodAll enc Tryd.prog W 0 (fun _ => true) true Tryd.f7.params.toList args.toList ds p := hA0
  rw [Tryd.params7] at hA hval
  obtain ⟨v0, vs0, d0, ds0, p0, q0, hargs, rfl, rfl, h0, r0⟩ := trodAll_cons hA
  obtain ⟨v1, vs1, d1, ds1, p1, q1, rfl, rfl, rfl, h1, r1⟩ := trodAll_cons r0
  obtain ⟨rfl, rfl, rfl⟩ := trodAll_nil r1
  obtain rfl : args = #[v0, v1] := by cases args; simp_all
  obtain ⟨rfl, rfl⟩ := trodVars_none hV
  clear hA0 hval0
  have hlt : ∀ x ∈ p0 ++ (p1 ++ []), x.block < W.heap.size := fun x hx => by simpa using hW'.lt x (List.mem_append_left _ hx)
  have k0 := h0
  have k1 := h1
  obtain ⟨A0, l0, c0, rfl⟩ := okWide_slice Tryd.underlying31 (hval 0 31 v0 rfl rfl)
  obtain ⟨z0, rfl, n0, m0, w0, hh0⟩ := has_strs Tryd.underlying31 Tryd.underlying9 (by kernel_rfl) h0 (fun x hx => hlt x (List.mem_append_left _ hx))
  obtain ⟨A1, l1, c1, rfl⟩ := okWide_slice Tryd.underlying22 (hval 1 22 v1 rfl rfl)
  obtain ⟨z1, rfl, n1, m1, w1, hh1⟩ := has_ints Tryd.underlying22 Tryd.underlying21 (by kernel_rfl) h1 (fun x hx => hlt x (List.mem_append_right _ (List.mem_append_left _ hx)))
  refine (walk A0 c0 z0 A1 c1 z1 W hT n0 m0 w0 hh0 n1 m1 w1 hh1).mono fun e W' ⟨he, hb⟩ => ?_
  subst he
  exact ⟨_, rfl, _, _, _, [], _, [], hW', (trodAll_cons_mk (shut_bool Tryd.underlying4 _) trodAll_mk0), (trodAll_cons_mk (Below.trod laidOut (by kernel_rfl) (of_decide_eq_true (by kernel_rfl)) k0 hb (fun x hx => hlt x (List.mem_append_left _ hx))) (trodAll_cons_mk (Below.trod laidOut (by kernel_rfl) (of_decide_eq_true (by kernel_rfl)) k1 hb (fun x hx => hlt x (List.mem_append_right _ (List.mem_append_left _ hx)))) trodAll_mk0)), rfl, hb.frame _, fun h => by cases h⟩

theorem over : Rows.HyphenInSaid :=
  OpenClaim.holds_of_cond 7 Tryd.f7 rfl rfl rfl rfl rfl rfl rfl ⟨rfl, rfl, rfl, rfl, rfl⟩ rfl rfl rfl rfl rfl (by kernel_rfl) Tryd.func7 (by kernel_rfl)
    (of_decide_eq_true (by kernel_rfl)) (by unfold Func.isWrapper; first | (rw [if_pos (by decide +kernel)]; kernel_rfl) | (rw [if_neg (by decide +kernel)]; exact ⟨rfl, rfl⟩))
    (fun os started H enc _ F => by rw [OpenClaim.pre_eq_preRow]; exact lifted os started H enc F)

theorem plain (f : FuncId) (fn : Func) (hf : Tryd.pinned.checked.prog.funcNamed "typecase/typecaselaw20.HyphenIn" = some f) (hfn : Tryd.pinned.checked.prog.funcs[f]? = some fn) :
    false = Tryd.pinned.checked.prog.looks [] ∧ ∀ (j : Nat) t, fn.params[j]? = some t → Tryd.pinned.checked.prog.wantsStandIn t = false := by
  obtain rfl : f = 7 := Option.some.inj ((show Tryd.prog.funcNamed "typecase/typecaselaw20.HyphenIn" = some 7 by kernel_rfl).symm.trans hf) |>.symm
  obtain rfl : fn = Tryd.f7 := (Option.some.inj (Tryd.func7.symm.trans hfn)).symm
  refine ⟨by kernel_rfl, fun j t ht => ?_⟩
  rw [Tryd.params7] at ht
  have hm := Array.mem_of_getElem? ht
  simp only [List.mem_toArray, List.mem_cons, List.not_mem_nil, or_false] at hm
  rcases hm with rfl | rfl
  · exact (show Tryd.prog.wantsStandIn 31 = false by kernel_rfl)
  · exact (show Tryd.prog.wantsStandIn 22 = false by kernel_rfl)

/-- the statement: the tied card -/
theorem proved : Rows.HyphenInCardSaid :=
  Claim7.holds_tied_plain_at .later [] _ _ _ _ over (fun _ h => by cases h) (by kernel_rfl) (fun _ h => by cases h) hyphenIn_row_tie rfl ⟨rfl, rfl⟩ (by kernel_rfl) rfl plain (by kernel_rfl)
#print axioms proved
end Go.Proofs.YtekjejbcdnghjaaDoor.hyphenIn
