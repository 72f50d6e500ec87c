/-
  HyphenPrints: Print agrees with the document's definition for all letters and digits (of at most 30 and 40; of more the statement says nothing), and Parse reads what is printed as the same. No condition.
-/
import Derived.Test.YtekjejbcdnghjaaDoorHas
import Derived.Test.YtekjejbcdnghjaaDoorTabP
import Derived.Test.YtekjejbcdnghjaaDoorHpm
import Derived.Test.YtekjejbcdnghjaaDoorHls
set_option linter.unusedVariables false
namespace Go.Proofs.YtekjejbcdnghjaaDoor.hyphenPrints
open Go.ChangeShapes Go.WideShapes Go.ChangeAt Go.RowKit Go.Proofs.YtekjejbcdnghjaaDoor
theorem own : ownKnob Tryd.prog.godebug = none := by kernel_rfl
theorem laidOut : laidOutB Tryd.prog = true := by kernel_rfl

theorem samez (A B : Option Addr) (c d : Nat) (xs : List Int) (w : World) (hn : xs.length ≤ 1000000) (h1 : Has w w.heap.size A (xs.map (Value.int .i32))) (h2 : Has w w.heap.size B (xs.map (Value.int .i32))) :
    Calls Tryd.prog 11 #[.slice A xs.length c, .slice B xs.length d] w fun e w' => e = .returned (.bool true) ∧ Below w.heap.size w w' :=
  (sames_ok A B c d xs xs w (by omega) (by omega) h1 h2).mono fun e w' ⟨he, hb⟩ => ⟨by rw [he, decide_eq_true rfl], hb⟩
theorem printS_size (l d : List Int) (hl : d.length ≤ 40) : (printS l d).size ≤ 1000 := by
  unfold printS
  split
  · rename_i h
    rw [Bool.and_eq_true, okPB_iff] at h
    rw [strOfNums_size]
    have h1 := encZ_len (prS l d)
    have h2 : (prS l d).length ≤ 2 * d.length := by rw [← prN_is l d h.1.len]; exact prN_length l d d.length
    omega
  · show (0 : Nat) ≤ 1000; omega
theorem list_ne {s : ByteArray} (h : s ≠ ByteArray.empty) : ¬ s.toList = [] := fun e => h (by
  rw [ByteArray.toList_eq] at e
  cases s with
  | mk d => simp only at e; rw [show d = #[] from Array.toList_eq_nil_iff.1 e]; rfl)

set_option maxRecDepth 20000 in
set_option maxHeartbeats 2000000 in
theorem walk (A0 : Option Addr) (c0 : Nat) (z0 : List Int) (A1 : Option Addr) (c1 : Nat) (z1 : List Int) (w : World) (hT : Lib.Utf8Tabs 0 1 w) (hT2 : Lib.TabIs Tryd.prog w "internal/strconv.uint64pow10" .u64 Lib.pow10Tab) (n0 : z0.length ≤ 9223372036854775807) (m0 : z0.length ≤ c0) (w0 : ∀ z ∈ z0, (Lit.int .i32 z).wf = true) (h0 : Has w w.heap.size A0 (z0.map (Value.int .i32))) (n1 : z1.length ≤ 9223372036854775807) (m1 : z1.length ≤ c1) (w1 : ∀ z ∈ z1, (Lit.int .i64 z).wf = true) (h1 : Has w w.heap.size A1 (z1.map (Value.int .i64))) :
    Calls Tryd.prog 4 #[.slice A0 z0.length c0, .slice A1 z1.length c1] w fun e w' => e = .returned (.bool true) ∧ Below w.heap.size w w' := by
  have HTB := Lib.hid hT
  have HTP := Lib.hid hT2
  clear hT hT2
  by_cases h30 : 30 < z0.length
  · have h30' : (z0.length : Int) > 30 := by omega
    go_enter Tryd.func4, Tryd.ntmps4
    go_wp2
    go_ret
    exact ⟨rfl, Below.refl _ _⟩
  have h30' : ¬ (z0.length : Int) > 30 := by omega
  by_cases h40 : 40 < z1.length
  · have h40' : (z1.length : Int) > 40 := by omega
    go_enter Tryd.func4, Tryd.ntmps4
    go_wp2
    go_ret
    exact ⟨rfl, Below.refl _ _⟩
  have h40' : ¬ (z1.length : Int) > 40 := by omega
  have hsz := printS_size z0 z1 (by omega)
  have cq := fun W p q a b => pprint_ok A0 A1 c0 c1 z0 z1 W (by omega) (by omega) m0 m1 w0 w1 p q a b
  have cr := fun W a b => rprint_ok A0 A1 c0 c1 z0 z1 W (by omega) (by omega) a b
  have hpb := print_back (l := z0) (d := z1)
  obtain ⟨S, hS⟩ : ∃ S, printS z0 z1 = S := ⟨_, rfl⟩
  rw [hS] at hsz hpb
  simp only [hS] at cq cr
  have cp := fun W b => pparse_ok S W (by omega) b
  clear hS
  rcases hpb with ⟨he, hP⟩ | ⟨hne, hP⟩
  · subst he
    simp only [hP] at cp
    go_enter Tryd.func4, Tryd.ntmps4
    go_wp2_with (first
      | (go_at_call 13; refine (cq _ HTB.out HTP.out h0 h1).mono ?_; rintro e W3 ⟨rfl, hb1⟩)
      | (go_at_call 14; refine (cr _ (h0.carry hb1) (h1.carry hb1)).mono ?_; rintro e W4 ⟨rfl, hb2⟩)
      | (go_at_call 9; refine (cp _ (Utf8Tabs_below HTB.out (below_trans hb1 hb2 hb1.size))).mono ?_; rintro e W5 ⟨rfl, hb3⟩))
    go_ret
    have b2 := below_trans hb1 hb2 hb1.size
    exact ⟨rfl, below_trans b2 hb3 b2.size⟩
  · simp only [hP] at cp
    have hne1 := list_ne hne
    have hne2 : (S.toList == []) = false := beq_eq_false_iff_ne.2 hne1
    have hne3 : (S.toList == (⟨#[]⟩ : ByteArray).toList) = false := by rw [show (⟨#[]⟩ : ByteArray).toList = [] from ByteArray.toList_eq _]; exact hne2
    clear hne hP
    go_enter Tryd.func4, Tryd.ntmps4
    go_wp2_with (first
      | (go_at_call 13; refine (cq _ HTB.out HTP.out h0 h1).mono ?_; rintro e W3 ⟨rfl, hb1⟩; have b1 := hb1; have h01 := h0.carry hb1; have h11 := h1.carry hb1)
      | (go_at_call 14; refine (cr _ h01 h11).mono ?_; rintro e W4 ⟨rfl, hb2⟩; have h02 := h01.carry hb2; have h12 := h11.carry hb2)
      | (go_at_call 9; refine (cp _ (Utf8Tabs_below HTB.out (below_trans hb1 hb2 hb1.size))).mono ?_; rintro e W5 ⟨v, u, rfl, ⟨Av, cv, rfl, _, hv, hb3⟩, ⟨Au, cu, rfl, _, hu, _⟩⟩; have h03 := h02.carry hb3; have h13 := h12.carry hb3)
      | (go_at_call 11; refine (samez Av A0 cv c0 z0 _ (by omega) hv h03).mono ?_; rintro e W6 ⟨rfl, hb4⟩; have hu4 := hu.carry hb4; have h14 := h13.carry hb4)
      | (go_at_call 12; refine (eqs_ok Au A1 cu c1 z1.length z1 _ rfl (by omega) hu4 h14).mono ?_; rintro e W7 ⟨rfl, hb5⟩))
    go_ret
    have b2 := below_trans hb1 hb2 hb1.size
    have b3 := below_trans b2 hb3 b2.size
    have b4 := below_trans b3 hb4 b3.size
    exact ⟨rfl, below_trans b4 hb5 b4.size⟩

theorem laid_met (os : Os) : laidMet Tryd.prog Rows.hyphenPrintsRow.laid ((world9 os).forCall (fun _ _ => 0) ⟨#[], #[.slice none 0 0, .slice none 0 0], []⟩).memory :=
  laidMet_of_run' 8 (by kernel_rfl) (by kernel_rfl)
theorem reads (os : Os) {H : Type} (enc : TypeId × Value → H) : ∃ places, DataW.whole enc Tryd.prog ((world9 os).forCall (fun _ _ => 0) ⟨#[], #[.slice none 0 0, .slice none 0 0], []⟩).memory Tryd.f4.params.toList Rows.hyphenPrintsSpec.vars false (#[.slice none 0 0, .slice none 0 0] : Array Value).toList 8 = some ([.nil, .nil], [], places) :=
  ⟨[], by kernel_rfl⟩
set_option maxRecDepth 100000 in
theorem lifted (os : Os) (started : os.Started) (H : Type) (enc : TypeId × Value → H) (F : Stop.Interp) :
    ReturnsInHanded {} Tryd.checked os 4 .any ((OpenSpec.ofChange Rows.hyphenPrintsSpec).preRow enc Tryd.prog Tryd.f4 Rows.hyphenPrintsRow.domain false Rows.hyphenPrintsRow.laid) (((OpenSpec.ofChange Rows.hyphenPrintsSpec).at F).post enc Tryd.prog Tryd.f4 false true false false) := by
  obtain ⟨places, hx⟩ := reads os enc
  refine returnsInHanded_of_row (C := Tryd.checked) (s := OpenSpec.ofChange Rows.hyphenPrintsSpec) own started (by kernel_rfl) Tryd.func4
    (witness_row_at (enc := enc) (C := Tryd.checked) false (world9 os) #[.slice none 0 0, .slice none 0 0] rfl (by kernel_rfl) (by kernel_rfl) (by kernel_rfl)
      (OpenSpec.preRow_of_cond 8 hx (by kernel_rfl) (fun k hk => by cases hk) (by kernel_rfl) (laid_met os))) ?_
  intro W base args ds gs before hval0 hW _ _ _ hL _ _
  have hT := tabs9 hL
  have hT2 := pow9 hL
  have hval : ∀ (j : Nat) t v, Tryd.f4.params[j]? = some t → args[j]? = some v → Value.okWide Tryd.prog W .any base t v := hval0
  have hW' := hW
  obtain ⟨p, q, hA0, hV, rfl, hfz, hnd⟩ := hW
  have hA : DataW.TrodAll enc Tryd.prog W 0 (fun _ => true) true Tryd.f4.params.toList args.toList ds p := hA0
  rw [Tryd.params4] at hA hval
  obtain ⟨v0, vs0, d0, ds0, p0, q0, hargs, rfl, rfl, h0, r0⟩ := trodAll_cons hA
  obtain ⟨v1, vs1, d1, ds1, p1, q1, rfl, rfl, rfl, h1, r1⟩ := trodAll_cons r0
  obtain ⟨rfl, rfl, rfl⟩ := trodAll_nil r1
  obtain rfl : args = #[v0, v1] := by cases args; simp_all
  obtain ⟨rfl, rfl⟩ := trodVars_none hV
  clear hA0 hval0
  have hlt : ∀ x ∈ p0 ++ (p1 ++ []), x.block < W.heap.size := fun x hx => by simpa using hW'.lt x (List.mem_append_left _ hx)
  have k0 := h0
  have k1 := h1
  obtain ⟨A0, l0, c0, rfl⟩ := okWide_slice Tryd.underlying22 (hval 0 22 v0 rfl rfl)
  obtain ⟨z0, rfl, n0, m0, w0, hh0⟩ := has_ints Tryd.underlying22 Tryd.underlying21 (by kernel_rfl) h0 (fun x hx => hlt x (List.mem_append_left _ hx))
  obtain ⟨A1, l1, c1, rfl⟩ := okWide_slice Tryd.underlying23 (hval 1 23 v1 rfl rfl)
  obtain ⟨z1, rfl, n1, m1, w1, hh1⟩ := has_ints Tryd.underlying23 Tryd.underlying3 (by kernel_rfl) h1 (fun x hx => hlt x (List.mem_append_right _ (List.mem_append_left _ hx)))
  refine (walk A0 c0 z0 A1 c1 z1 W hT hT2 n0 m0 w0 hh0 n1 m1 w1 hh1).mono fun e W' ⟨he, hb⟩ => ?_
  subst he
  exact ⟨_, rfl, _, _, _, [], _, [], hW', (trodAll_cons_mk (shut_bool Tryd.underlying4 _) trodAll_mk0), (trodAll_cons_mk (Below.trod laidOut (by kernel_rfl) (of_decide_eq_true (by kernel_rfl)) k0 hb (fun x hx => hlt x (List.mem_append_left _ hx))) (trodAll_cons_mk (Below.trod laidOut (by kernel_rfl) (of_decide_eq_true (by kernel_rfl)) k1 hb (fun x hx => hlt x (List.mem_append_right _ (List.mem_append_left _ hx)))) trodAll_mk0)), rfl, hb.frame _, fun h => by cases h⟩

theorem over : Rows.HyphenPrintsSaid :=
  OpenClaim.holds_of_cond 4 Tryd.f4 rfl rfl rfl rfl rfl rfl rfl ⟨rfl, rfl, rfl, rfl, rfl⟩ rfl rfl rfl rfl rfl (by kernel_rfl) Tryd.func4 (by kernel_rfl)
    (of_decide_eq_true (by kernel_rfl)) (by unfold Func.isWrapper; first | (rw [if_pos (by decide +kernel)]; kernel_rfl) | (rw [if_neg (by decide +kernel)]; exact ⟨rfl, rfl⟩))
    (fun os started H enc _ F => by rw [OpenClaim.pre_eq_preRow]; exact lifted os started H enc F)

theorem plain (f : FuncId) (fn : Func) (hf : Tryd.pinned.checked.prog.funcNamed "typecase/typecaselaw20.HyphenPrints" = some f) (hfn : Tryd.pinned.checked.prog.funcs[f]? = some fn) :
    false = Tryd.pinned.checked.prog.looks [] ∧ ∀ (j : Nat) t, fn.params[j]? = some t → Tryd.pinned.checked.prog.wantsStandIn t = false := by
  obtain rfl : f = 4 := Option.some.inj ((show Tryd.prog.funcNamed "typecase/typecaselaw20.HyphenPrints" = some 4 by kernel_rfl).symm.trans hf) |>.symm
  obtain rfl : fn = Tryd.f4 := (Option.some.inj (Tryd.func4.symm.trans hfn)).symm
  refine ⟨by kernel_rfl, fun j t ht => ?_⟩
  rw [Tryd.params4] at ht
  have hm := Array.mem_of_getElem? ht
  simp only [List.mem_toArray, List.mem_cons, List.not_mem_nil, or_false] at hm
  rcases hm with rfl | rfl
  · exact (show Tryd.prog.wantsStandIn 22 = false by kernel_rfl)
  · exact (show Tryd.prog.wantsStandIn 23 = false by kernel_rfl)

/-- the statement: the tied card -/
theorem proved : Rows.HyphenPrintsCardSaid :=
  Claim7.holds_tied_plain_at .later [] _ _ _ _ over (fun _ h => by cases h) (by kernel_rfl) (fun _ h => by cases h) hyphenPrints_row_tie rfl ⟨rfl, rfl⟩ (by kernel_rfl) rfl plain (by kernel_rfl)
#print axioms proved
end Go.Proofs.YtekjejbcdnghjaaDoor.hyphenPrints
