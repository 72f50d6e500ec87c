/-
  HyphenParses: Parse agrees with the document's definition for every text of at most 60 bytes (of a longer one the statement says nothing). No condition.
-/
import Derived.Test.YtekjejbcdnghjaaDoorHas
import Derived.Test.YtekjejbcdnghjaaDoorTabs
import Derived.Test.YtekjejbcdnghjaaDoorHpd
import Derived.Test.YtekjejbcdnghjaaDoorHkp
set_option linter.unusedVariables false
namespace Go.Proofs.YtekjejbcdnghjaaDoor.hyphenParses
open Go.ChangeShapes Go.WideShapes Go.ChangeAt Go.RowKit Go.Proofs.YtekjejbcdnghjaaDoor
theorem own : ownKnob Tryd.prog.godebug = none := by kernel_rfl
theorem laidOut : laidOutB Tryd.prog = true := by kernel_rfl

theorem samez (A B : Option Addr) (c d : Nat) (xs : List Int) (w : World) (hn : xs.length ≤ 1000000) (h1 : Has w w.heap.size A (xs.map (Value.int .i32))) (h2 : Has w w.heap.size B (xs.map (Value.int .i32))) :
    Calls Tryd.prog 11 #[.slice A xs.length c, .slice B xs.length d] w fun e w' => e = .returned (.bool true) ∧ Below w.heap.size w w' :=
  (sames_ok A B c d xs xs w (by omega) (by omega) h1 h2).mono fun e w' ⟨he, hb⟩ => ⟨by rw [he, decide_eq_true rfl], hb⟩

set_option maxRecDepth 20000 in
set_option maxHeartbeats 2000000 in
theorem walk (s0 : ByteArray) (w : World) (hT : Lib.Utf8Tabs 0 1 w) (w0 : s0.size ≤ 9223372036854775807) :
    Calls Tryd.prog 3 #[.string s0] w fun e w' => e = .returned (.bool true) ∧ Below w.heap.size w w' := by
  by_cases h60 : 60 < s0.size
  · have h60' : (s0.size : Int) > 60 := by omega
    go_enter Tryd.func3, Tryd.ntmps3
    go_wp2
    go_ret
    exact ⟨rfl, Below.refl _ _⟩
  have h60' : ¬ (s0.size : Int) > 60 := by omega
  have cp := pparse_ok s0 w (by omega) hT
  have cr := fun W => rparse_ok s0 W (by omega)
  cases hP : patS s0 with
  | none =>
    simp only [hP] at cp cr
    go_enter Tryd.func3, Tryd.ntmps3
    go_wp2_with (first
      | (go_at_call 9; refine cp.mono ?_; rintro e W1 ⟨rfl, hb1⟩)
      | (go_at_call 10; refine (cr _).mono ?_; rintro e W2 ⟨rfl, hb2⟩)
      | (go_at_call 11; refine (samez none none 0 0 [] _ (by simp) Has.nil_ Has.nil_).mono ?_; rintro e W3 ⟨rfl, hb3⟩)
      | (go_at_call 12; refine (eqs_ok none none 0 0 0 [] _ rfl (by omega) Has.nil_ Has.nil_).mono ?_; rintro e W4 ⟨rfl, hb4⟩))
    go_ret
    have b2 := below_trans hb1 hb2 hb1.size
    have b3 := below_trans b2 hb3 b2.size
    exact ⟨rfl, below_trans b3 hb4 b3.size⟩
  | some z =>
    simp only [hP] at cp cr
    have hz := mayB_len (patS_ok hP)
    go_enter Tryd.func3, Tryd.ntmps3
    go_wp2_with (first
      | (go_at_call 9; refine cp.mono ?_; rintro e W1 ⟨v, u, rfl, ⟨Av, cv, rfl, _, hv, hb1⟩, ⟨Au, cu, rfl, _, hu, _⟩⟩)
      | (go_at_call 10; refine (cr _).mono ?_; rintro e W2 ⟨v', u', rfl, ⟨Bv, dv, rfl, _, hv', hb2⟩, ⟨Bu, du, rfl, _, hu', _⟩⟩; have hv2 := hv.carry hb2; have hu2 := hu.carry hb2)
      | (go_at_call 11; refine (samez Av Bv cv dv z.1 _ (by omega) hv2 hv').mono ?_; rintro e W3 ⟨rfl, hb3⟩; have hu3 := hu2.carry hb3; have hu4 := hu'.carry hb3)
      | (go_at_call 12; refine (eqs_ok Au Bu cu du z.2.length z.2 _ rfl (by omega) hu3 hu4).mono ?_; rintro e W4 ⟨rfl, hb4⟩))
    go_ret
    have b2 := below_trans hb1 hb2 hb1.size
    have b3 := below_trans b2 hb3 b2.size
    exact ⟨rfl, below_trans b3 hb4 b3.size⟩

theorem laid_met (os : Os) : laidMet Tryd.prog Rows.hyphenParsesRow.laid ((world8 os).forCall (fun _ _ => 0) ⟨#[], #[.string ⟨#[]⟩], []⟩).memory :=
  laidMet_of_run' 8 (by kernel_rfl) (by kernel_rfl)
theorem reads (os : Os) {H : Type} (enc : TypeId × Value → H) : ∃ places, DataW.whole enc Tryd.prog ((world8 os).forCall (fun _ _ => 0) ⟨#[], #[.string ⟨#[]⟩], []⟩).memory Tryd.f3.params.toList Rows.hyphenParsesSpec.vars false (#[.string ⟨#[]⟩] : Array Value).toList 8 = some ([.lit (.string [])], [], places) :=
  ⟨[], by kernel_rfl⟩
set_option maxRecDepth 100000 in
theorem lifted (os : Os) (started : os.Started) (H : Type) (enc : TypeId × Value → H) (F : Stop.Interp) :
    ReturnsInHanded {} Tryd.checked os 3 .any ((OpenSpec.ofChange Rows.hyphenParsesSpec).preRow enc Tryd.prog Tryd.f3 Rows.hyphenParsesRow.domain false Rows.hyphenParsesRow.laid) (((OpenSpec.ofChange Rows.hyphenParsesSpec).at F).post enc Tryd.prog Tryd.f3 false true false false) := by
  obtain ⟨places, hx⟩ := reads os enc
  refine returnsInHanded_of_row (C := Tryd.checked) (s := OpenSpec.ofChange Rows.hyphenParsesSpec) own started (by kernel_rfl) Tryd.func3
    (witness_row_at (enc := enc) (C := Tryd.checked) false (world8 os) #[.string ⟨#[]⟩] rfl (by kernel_rfl) (by kernel_rfl) (by kernel_rfl)
      (OpenSpec.preRow_of_cond 8 hx (by kernel_rfl) (fun k hk => by cases hk) (by kernel_rfl) (laid_met os))) ?_
  intro W base args ds gs before hval0 hW _ _ _ hL _ _
  have hT := tabs8 hL
  have hval : ∀ (j : Nat) t v, Tryd.f3.params[j]? = some t → args[j]? = some v → Value.okWide Tryd.prog W .any base t v := hval0
  have hW' := hW
  obtain ⟨p, q, hA0, hV, rfl, hfz, hnd⟩ := hW
  have hA : DataW.TrodAll enc Tryd.prog W 0 (fun _ => true) true Tryd.f3.params.toList args.toList ds p := hA0
  rw [Tryd.params3] at hA hval
  obtain ⟨v0, vs0, d0, ds0, p0, q0, hargs, rfl, rfl, h0, r0⟩ := trodAll_cons hA
  obtain ⟨rfl, rfl, rfl⟩ := trodAll_nil r0
  obtain rfl : args = #[v0] := by cases args; simp_all
  obtain ⟨rfl, rfl⟩ := trodVars_none hV
  clear hA0 hval0
  have hlt : ∀ x ∈ p0 ++ [], x.block < W.heap.size := fun x hx => by simpa using hW'.lt x (List.mem_append_left _ hx)
  have k0 := h0
  obtain ⟨s0, rfl, rfl, rfl, w0⟩ := Go.ChangeMaps.open_string Tryd.underlying9 (hval 0 9 v0 rfl rfl) h0
  refine (walk s0 W hT w0).mono fun e W' ⟨he, hb⟩ => ?_
  subst he
  exact ⟨_, rfl, _, _, _, [], _, [], hW', (trodAll_cons_mk (shut_bool Tryd.underlying4 _) trodAll_mk0), (trodAll_cons_mk (Below.trod laidOut (by kernel_rfl) (of_decide_eq_true (by kernel_rfl)) k0 hb (fun x hx => hlt x (List.mem_append_left _ hx))) trodAll_mk0), rfl, hb.frame _, fun h => by cases h⟩

theorem over : Rows.HyphenParsesSaid :=
  OpenClaim.holds_of_cond 3 Tryd.f3 rfl rfl rfl rfl rfl rfl rfl ⟨rfl, rfl, rfl, rfl, rfl⟩ rfl rfl rfl rfl rfl (by kernel_rfl) Tryd.func3 (by kernel_rfl)
    (of_decide_eq_true (by kernel_rfl)) (by unfold Func.isWrapper; first | (rw [if_pos (by decide +kernel)]; kernel_rfl) | (rw [if_neg (by decide +kernel)]; exact ⟨rfl, rfl⟩))
    (fun os started H enc _ F => by rw [OpenClaim.pre_eq_preRow]; exact lifted os started H enc F)

theorem plain (f : FuncId) (fn : Func) (hf : Tryd.pinned.checked.prog.funcNamed "typecase/typecaselaw20.HyphenParses" = some f) (hfn : Tryd.pinned.checked.prog.funcs[f]? = some fn) :
    false = Tryd.pinned.checked.prog.looks [] ∧ ∀ (j : Nat) t, fn.params[j]? = some t → Tryd.pinned.checked.prog.wantsStandIn t = false := by
  obtain rfl : f = 3 := Option.some.inj ((show Tryd.prog.funcNamed "typecase/typecaselaw20.HyphenParses" = some 3 by kernel_rfl).symm.trans hf) |>.symm
  obtain rfl : fn = Tryd.f3 := (Option.some.inj (Tryd.func3.symm.trans hfn)).symm
  refine ⟨by kernel_rfl, fun j t ht => ?_⟩
  rw [Tryd.params3] at ht
  have hm := Array.mem_of_getElem? ht
  simp only [List.mem_toArray, List.mem_cons, List.not_mem_nil, or_false] at hm
  rcases hm with rfl
  · exact (show Tryd.prog.wantsStandIn 9 = false by kernel_rfl)

/-- the statement: the tied card -/
theorem proved : Rows.HyphenParsesCardSaid :=
  Claim7.holds_tied_plain_at .later [] _ _ _ _ over (fun _ h => by cases h) (by kernel_rfl) (fun _ h => by cases h) hyphenParses_row_tie rfl ⟨rfl, rfl⟩ (by kernel_rfl) rfl plain (by kernel_rfl)
#print axioms proved
end Go.Proofs.YtekjejbcdnghjaaDoor.hyphenParses
