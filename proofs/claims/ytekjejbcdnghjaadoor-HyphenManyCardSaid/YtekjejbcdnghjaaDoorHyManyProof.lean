/-
  HyphenMany: more than 512 patterns are too many, whatever they are: 513 to 516 times any text of at most 20 bytes (of a longer one the statement says nothing). No condition.
-/
import Derived.Test.YtekjejbcdnghjaaDoorHas
import Derived.Test.YtekjejbcdnghjaaDoorTabs
import Derived.Test.YtekjejbcdnghjaaDoorHtd
import Derived.Test.YtekjejbcdnghjaaDoorHls
import Derived.Test.YtekjejbcdnghjaaDoorRow
set_option linter.unusedVariables false
namespace Go.Proofs.YtekjejbcdnghjaaDoor.hyphenMany
open Go.ChangeShapes Go.WideShapes Go.ChangeAt Go.RowKit Go.Proofs.YtekjejbcdnghjaaDoor
theorem own : ownKnob Tryd.prog.godebug = none := by kernel_rfl
theorem laidOut : laidOutB Tryd.prog = true := by kernel_rfl

def LSt : Lay ByteArray := ⟨fun s => [.string s], 1, fun _ => rfl, fun s u hu => by simp at hu; subst hu; rfl⟩
theorem infoSt : (Tryd.prog.info? 9).map (fun i => (i.zero, i.size, i.bytes)) = some (some (.string ⟨#[]⟩), LSt.C, 16) := by kernel_rfl
theorem has_strs_of {w : World} {B : Nat} {A : Option Addr} {l : List ByteArray} (h : HasN LSt w B A l) : Has w B A (l.map Value.string) := fun hne => by
  obtain ⟨b, off, e, hb, hc⟩ := h (fun e => hne (by rw [e]; rfl))
  refine ⟨b, off, e, hb, fun j u hu => ?_⟩
  rw [List.getElem?_map, Option.map_eq_some_iff] at hu
  obtain ⟨s, hs, rfl⟩ := hu
  have := hc j s hs 0 _ rfl
  have e1 : off + j * LSt.C + 0 = off + j := by show off + j * 1 + 0 = off + j; omega
  rwa [e1] at this

set_option maxRecDepth 20000 in
set_option maxHeartbeats 4000000 in
theorem walk (s0 : ByteArray) (a1 : Int) (w : World) (hT : Lib.Utf8Tabs 0 1 w) (w0 : s0.size ≤ 9223372036854775807) (w1 : (Lit.int .u8 a1).wf = true) :
    Calls Tryd.prog 5 #[.string s0, .int .u8 a1] w fun e w' => e = .returned (.bool true) ∧ Below w.heap.size w w' := by
  have HTB := Lib.hid hT
  clear hT
  by_cases h20 : 20 < s0.size
  · have h20' : (s0.size : Int) > 20 := by omega
    go_enter Tryd.func5, Tryd.ntmps5
    go_wp2
    go_ret
    exact ⟨rfl, Below.refl _ _⟩
  have h20' : ¬ (s0.size : Int) > 20 := by omega
  have hr1 : 0 ≤ a1 ∧ a1 ≤ 255 := by
    have := w1
    simp [Lit.wf, IntKind.bits, IntKind.signed, IntKind.min, IntKind.max] at this
    omega
  have htm : a1.tmod 4 = a1 % 4 := Int.tmod_eq_emod_of_nonneg hr1.1
  obtain ⟨R, hR⟩ : ∃ R, a1 % 4 = R := ⟨_, rfl⟩
  rw [hR] at htm
  have hR2 : 0 ≤ R ∧ R ≤ 3 := by omega
  obtain ⟨m, hm⟩ : ∃ m : Nat, 513 + R = (m : Int) := ⟨(513 + R).toNat, by omega⟩
  have hm2 : 513 ≤ m ∧ m ≤ 516 := by omega
  go_enter Tryd.func5, Tryd.ntmps5
  have hwm : (513 : Int) + R = (m : Int) := hm
  have HM2 := Lib.hid hm2
  have HR9 := Lib.hid hR
  clear hR hm
  go_wp2
  go_loopw [5, 6] (fun v i wr => ∃ k : Nat, k ≤ m ∧ i = .int .i64 k ∧ Hid (MineN LSt 9 wr w.heap.size v (List.replicate k s0)) ∧ Below w.heap.size w wr) (fun _ i _ => m - (intOf i).toNat)
  case atStart => exact ⟨0, by omega, rfl, Lib.hid (MineN.nil_ _ _ _), Below.refl _ _⟩
  case round =>
    obtain ⟨k, hk, rfl, HM, hbl⟩ := hrel
    have hB := hbl.size
    by_cases hlt : k < m
    · have hlt' : (k : Int) < (m : Int) := by omega
      have hown := HM.out
      have hln : (List.replicate k s0).length ≤ 1000000 := by rw [List.length_replicate]; omega
      have HRP := Lib.hid (show List.replicate k s0 ++ [s0] = List.replicate (k + 1) s0 by rw [List.replicate_succ'])
      go_wp2_with (at_builtin; refine wpList_pushN (R := LSt) rfl _ _ 31 rfl _ Tryd.underlying31 infoSt rfl (by decide) (by decide) w.heap.size _ (List.replicate k s0) s0 _ _ rfl hown rfl rfl hB hln ?_; intro v' W5 hM5 hb5 hf5)
      go_roundw
      case rel => exact ⟨k + 1, by omega, by go_num, Lib.hid (by rw [← HRP.out]; exact hM5), hbl.trans hb5⟩
      case measure => simp [intOf]; omega
    · obtain rfl : k = m := by omega
      obtain ⟨A5, c5, rfl, hc5, _, hh5⟩ := HM.out.has
      have hstr := has_strs_of hh5
      have hl5 : (List.replicate k s0).length = k := List.length_replicate
      have cn := pnew_ok A5 c5 (List.replicate k s0) wr (by omega) (fun z hz => by rw [List.eq_of_mem_replicate hz]; omega) hstr (Utf8Tabs_below HTB.out hbl)
      have hnS : newS (List.replicate k s0) = ([], 0, 5) := by
        unfold newS
        rw [if_pos (by rw [hl5]; have := HM2.out; omega)]
      rw [hnS] at cn
      rw [hl5] at cn ⊢
      clear hnS hl5 hstr hh5 hc5
      go_wp2_with (first
        | (go_at_call 15; refine cn.mono ?_; rintro e W6 ⟨v, rfl, hN, hb6⟩; obtain rfl := hN.2 (by decide))
        | (go_at_call 16; refine (num_ok _ _).mono ?_; rintro e w' ⟨rfl, rfl⟩))
      go_ret
      exact ⟨rfl, below_trans hbl hb6 hB⟩

theorem laid_met (os : Os) : laidMet Tryd.prog Rows.hyphenManyRow.laid ((world8 os).forCall (fun _ _ => 0) ⟨#[], #[.string ⟨#[]⟩, .int .u8 0], []⟩).memory :=
  laidMet_of_run' 8 (by kernel_rfl) (by kernel_rfl)
theorem reads (os : Os) {H : Type} (enc : TypeId × Value → H) : ∃ places, DataW.whole enc Tryd.prog ((world8 os).forCall (fun _ _ => 0) ⟨#[], #[.string ⟨#[]⟩, .int .u8 0], []⟩).memory Tryd.f5.params.toList Rows.hyphenManySpec.vars false (#[.string ⟨#[]⟩, .int .u8 0] : Array Value).toList 8 = some ([.lit (.string []), .lit (.int .u8 0)], [], places) :=
  ⟨[], by kernel_rfl⟩
set_option maxRecDepth 100000 in
theorem lifted (os : Os) (started : os.Started) (H : Type) (enc : TypeId × Value → H) (F : Stop.Interp) :
    ReturnsInHanded {} Tryd.checked os 5 .any ((OpenSpec.ofChange Rows.hyphenManySpec).preRow enc Tryd.prog Tryd.f5 Rows.hyphenManyRow.domain false Rows.hyphenManyRow.laid) (((OpenSpec.ofChange Rows.hyphenManySpec).at F).post enc Tryd.prog Tryd.f5 false true false false) := by
  obtain ⟨places, hx⟩ := reads os enc
  refine returnsInHanded_of_row (C := Tryd.checked) (s := OpenSpec.ofChange Rows.hyphenManySpec) own started (by kernel_rfl) Tryd.func5
    (witness_row_at (enc := enc) (C := Tryd.checked) false (world8 os) #[.string ⟨#[]⟩, .int .u8 0] rfl (by kernel_rfl) (by kernel_rfl) (by kernel_rfl)
      (OpenSpec.preRow_of_cond 8 hx (by kernel_rfl) (fun k hk => by cases hk) (by kernel_rfl) (laid_met os))) ?_
  intro W base args ds gs before hval0 hW _ _ _ hL _ _
  have hT := tabs8 hL
  have hval : ∀ (j : Nat) t v, Tryd.f5.params[j]? = some t → args[j]? = some v → Value.okWide Tryd.prog W .any base t v := hval0
  have hW' := hW
  obtain ⟨p, q, hA0, hV, rfl, hfz, hnd⟩ := hW
  have hA : DataW.TrodAll enc Tryd.prog W 0 (fun _ => true) true Tryd.f5.params.toList args.toList ds p := hA0
  rw [Tryd.params5] at hA hval
  obtain ⟨v0, vs0, d0, ds0, p0, q0, hargs, rfl, rfl, h0, r0⟩ := trodAll_cons hA
  obtain ⟨v1, vs1, d1, ds1, p1, q1, rfl, rfl, rfl, h1, r1⟩ := trodAll_cons r0
  obtain ⟨rfl, rfl, rfl⟩ := trodAll_nil r1
  obtain rfl : args = #[v0, v1] := by cases args; simp_all
  obtain ⟨rfl, rfl⟩ := trodVars_none hV
  clear hA0 hval0
  have hlt : ∀ x ∈ p0 ++ (p1 ++ []), x.block < W.heap.size := fun x hx => by simpa using hW'.lt x (List.mem_append_left _ hx)
  have k0 := h0
  have k1 := h1
  obtain ⟨s0, rfl, rfl, rfl, w0⟩ := Go.ChangeMaps.open_string Tryd.underlying9 (hval 0 9 v0 rfl rfl) h0
  obtain ⟨a1, rfl, rfl, rfl, w1⟩ := open_int Tryd.underlying5 (hval 1 5 v1 rfl rfl) h1
  refine (walk s0 a1 W hT w0 w1).mono fun e W' ⟨he, hb⟩ => ?_
  subst he
  exact ⟨_, rfl, _, _, _, [], _, [], hW', (trodAll_cons_mk (shut_bool Tryd.underlying4 _) trodAll_mk0), (trodAll_cons_mk (Below.trod laidOut (by kernel_rfl) (of_decide_eq_true (by kernel_rfl)) k0 hb (fun x hx => hlt x (List.mem_append_left _ hx))) (trodAll_cons_mk (Below.trod laidOut (by kernel_rfl) (of_decide_eq_true (by kernel_rfl)) k1 hb (fun x hx => hlt x (List.mem_append_right _ (List.mem_append_left _ hx)))) trodAll_mk0)), rfl, hb.frame _, fun h => by cases h⟩

theorem over : Rows.HyphenManySaid :=
  OpenClaim.holds_of_cond 5 Tryd.f5 rfl rfl rfl rfl rfl rfl rfl ⟨rfl, rfl, rfl, rfl, rfl⟩ rfl rfl rfl rfl rfl (by kernel_rfl) Tryd.func5 (by kernel_rfl)
    (of_decide_eq_true (by kernel_rfl)) (by unfold Func.isWrapper; first | (rw [if_pos (by decide +kernel)]; kernel_rfl) | (rw [if_neg (by decide +kernel)]; exact ⟨rfl, rfl⟩))
    (fun os started H enc _ F => by rw [OpenClaim.pre_eq_preRow]; exact lifted os started H enc F)

theorem plain (f : FuncId) (fn : Func) (hf : Tryd.pinned.checked.prog.funcNamed "typecase/typecaselaw20.HyphenMany" = some f) (hfn : Tryd.pinned.checked.prog.funcs[f]? = some fn) :
    false = Tryd.pinned.checked.prog.looks [] ∧ ∀ (j : Nat) t, fn.params[j]? = some t → Tryd.pinned.checked.prog.wantsStandIn t = false := by
  obtain rfl : f = 5 := Option.some.inj ((show Tryd.prog.funcNamed "typecase/typecaselaw20.HyphenMany" = some 5 by kernel_rfl).symm.trans hf) |>.symm
  obtain rfl : fn = Tryd.f5 := (Option.some.inj (Tryd.func5.symm.trans hfn)).symm
  refine ⟨by kernel_rfl, fun j t ht => ?_⟩
  rw [Tryd.params5] at ht
  have hm := Array.mem_of_getElem? ht
  simp only [List.mem_toArray, List.mem_cons, List.not_mem_nil, or_false] at hm
  rcases hm with rfl | rfl
  · exact (show Tryd.prog.wantsStandIn 9 = false by kernel_rfl)
  · exact (show Tryd.prog.wantsStandIn 5 = false by kernel_rfl)

/-- the statement: the tied card -/
theorem proved : Rows.HyphenManyCardSaid :=
  Claim7.holds_tied_plain_at .later [] _ _ _ _ over (fun _ h => by cases h) (by kernel_rfl) (fun _ h => by cases h) hyphenMany_row_tie rfl ⟨rfl, rfl⟩ (by kernel_rfl) rfl plain (by kernel_rfl)
#print axioms proved
end Go.Proofs.YtekjejbcdnghjaaDoor.hyphenMany
