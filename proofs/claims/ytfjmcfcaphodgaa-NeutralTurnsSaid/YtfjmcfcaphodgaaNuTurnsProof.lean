/-
  For every []int and every int the statement NeutralTurns returns true: what neutral signs become between L and R is what they become, from behind, between R and L. No condition.
-/
import Derived.Test.YtfjmcfcaphodgaaHas
import Derived.Test.YtfjmcfcaphodgaaHas
import Derived.Test.YtfjmcfcaphodgaaNel
import Derived.Test.YtfjmcfcaphodgaaNen
set_option linter.unusedVariables false
namespace Go.Proofs.Ytfjmcfcaphodgaa.neutralTurns
open Go.ChangeShapes Go.WideShapes Go.ChangeAt Go.RowKit Go.Proofs.Ytfjmcfcaphodgaa
theorem own : ownKnob Try.prog.godebug = none := by kernel_rfl
theorem laidOut : laidOutB Try.prog = true := by kernel_rfl

theorem nu_turn (cs : List Int) (level s e : Int) (i : Nat) (hi : i < cs.length) : (nuL cs level s e).getD i 0 = (nuL cs.reverse level e s).getD (cs.length - 1 - i) 0 := by
  rw [List.getD_eq_getElem?_getD, List.getElem?_eq_getElem (by rw [nu_len]; exact hi), List.getD_eq_getElem?_getD, List.getElem?_eq_getElem (by rw [nu_len, List.length_reverse]; omega), nu_get, nu_get, nu_back cs level s e i hi]
/-- the list turned round, made one place after another -/
theorem made_back (cs : List Int) (n : Nat) (hn : n = cs.length) : madeF (fun j => cs.getD (n - 1 - j) 0) n n = cs.reverse := by
  subst hn
  rw [madeF_end]
  apply List.ext_getElem?
  intro j
  rw [List.getElem?_map]
  rcases Nat.lt_or_ge j cs.length with h | h
  · rw [List.getElem?_range h, List.getElem?_reverse h]
    show some _ = _
    rw [getD_some cs _ (by omega)]
  · rw [List.getElem?_eq_none (by simpa using h), List.getElem?_eq_none (by simpa using h)]; rfl

set_option maxHeartbeats 8000000 in
theorem walk (A0 : Option Addr) (c0 : Nat) (z0 : List Int) (a1 : Int) (w : World) (n0 : z0.length ≤ 9223372036854775807) (m0 : z0.length ≤ c0) (w0 : ∀ z ∈ z0, (Lit.int .i64 z).wf = true) (h0 : Has w w.heap.size A0 (z0.map (Value.int .i64))) (w1 : (Lit.int .i64 a1).wf = true) :
    Calls Try.prog 6 #[.slice A0 z0.length c0, .int .i64 a1] w fun e w' => e = .returned (.bool true) ∧ Below w.heap.size w w' := by
  have HAL := Lib.hid (fun w => alive_ok w)
  by_cases hl : 200 < z0.length
  · have d0 : decide ((200 : Int) < (z0.length : Int)) = true := decide_eq_true (by omega)
    clear w0 m0 h0 w1
    go_enter Try.func6, Try.ntmps6
    go_wp2_with (go_at_call 7; (with_reducible refine (HAL.out _).mono ?_); rintro e u ⟨rfl, hb⟩)
    go_ret
    exact ⟨rfl, hb⟩
  have d0 : decide ((200 : Int) < (z0.length : Int)) = false := decide_eq_false (by omega)
  have HH := Lib.hid (fun (W : World) (hb : Below w.heap.size w W) => (h0.below hb).more hb.size)
  have HA := Lib.hid (fun W h => neutral_ok A0 z0.length c0 a1 1 2 z0 W rfl (by omega) h)
  have HB := Lib.hid (fun A c W h => neutral_ok A z0.length c a1 2 1 z0.reverse W (by simp) (by omega) h)
  have HT := Lib.hid (fun i h => nu_turn z0 a1 1 2 i h)
  have HLA := Lib.hid (nu_len z0 a1 1 2)
  have HLB := Lib.hid (nu_len z0.reverse a1 2 1)
  rw [List.length_reverse] at HLB
  have HR := Lib.hid (made_back z0 z0.length rfl)
  have HMK := fun W => run_make_row' (P := Try.prog) 22 3 (.int .i64 0) 8 Try.underlying22 fullI rfl .i64 .i64 z0.length (by omega) (by omega) W
  have hm := mine_made (w := w) (n := z0.length) (fun j => z0.getD (z0.length - 1 - j) 0) (by omega)
  have HM0 := Lib.hid (And.intro hm ((Below.refl w.heap.size w).alloc (Nat.le_refl _) (.cells (madeCells #[Value.int .i64 0] z0.length) 3)))
  obtain ⟨RA, hRA⟩ : ∃ R, nuL z0 a1 1 2 = R := ⟨_, rfl⟩
  obtain ⟨RB, hRB⟩ : ∃ R, nuL z0.reverse a1 2 1 = R := ⟨_, rfl⟩
  rw [hRA] at HA HLA HT
  rw [hRB] at HB HLB HT
  obtain ⟨n, hn⟩ : ∃ n, z0.length = n := ⟨_, rfl⟩
  rw [hn] at d0 HA HB HLA HLB HT HR HMK HM0 m0 n0 hl
  have HN := Lib.hid hn
  rw [hn]
  obtain ⟨F, hF⟩ : ∃ F : Nat → Int, (fun j => z0.getD (n - 1 - j) 0) = F := ⟨_, rfl⟩
  have HF : Hid (∀ j, F j = z0.getD (n - 1 - j) 0) := Lib.hid fun j => by rw [← hF]
  rw [hF] at HR HM0
  have hn2 : n ≤ 200 := by omega
  clear w0 w1 hRA hRB h0 hn hm hF hl n0
  go_enter Try.func6, Try.ntmps6
  go_wp2
  obtain ⟨W0, hW0⟩ : ∃ W0, w.alloc (.cells (madeCells #[Value.int .i64 0] n) 3) = W0 := ⟨_, rfl⟩
  obtain ⟨G, hG⟩ : ∃ G, w.heap.size = G := ⟨_, rfl⟩
  rw [hW0, hG] at HM0
  simp only [hW0, hG]
  rw [hG] at HH
  clear hW0 HMK
  have HG := Lib.hid hG
  clear hG
  go_loopw [7] (fun v wr => ∃ k : Nat, k ≤ n ∧ v = .int .i64 k ∧ Hid (Mine .i64 3 wr G (.slice (some ⟨G, 0, none⟩) n n) (madeF F n k) ∧ Below G w wr)) (fun v _ => n - (intOf v).toNat)
  case atStart => exact ⟨0, by omega, rfl, HM0⟩
  case round =>
    clear HM0
    obtain ⟨k, hkn, rfl, HM⟩ := hrel
    by_cases hlt : k < n
    · obtain ⟨p, hp⟩ : ∃ p : Nat, n - 1 - k = p := ⟨_, rfl⟩
      have hp1 : p < z0.length := by have := HN.out; omega
      obtain ⟨b0, o0, rfl, hb0, hcc⟩ := (HH.out _ HM.out.2).at_int hp1
      have hgd : z0[p] = F k := by rw [HF.out, hp, List.getD_eq_getElem?_getD, List.getElem?_eq_getElem hp1]; rfl
      rw [hgd] at hcc
      obtain ⟨g, eg, hB, hg, hc, hf, hs⟩ := HM.out.1.spot (madeF_at F n k hlt)
      injection eg with eg
      injection eg with eg
      subst eg
      have hz := hs (F k)
      rw [madeF_step F n k hlt] at hz
      have HZ := Lib.hid (And.intro hz (HM.out.2.setCell (p := ⟨G, k, none⟩) hB (.int .i64 (F k))))
      generalize F k = Y at *
      have kw1 : IntKind.i64.wrap ((n : Int) - 1) = (n : Int) - 1 := IntWalk.i64_in _ (by omega)
      have kw2 : IntKind.i64.wrap ((n : Int) - 1 - (k : Int)) = (p : Int) := by rw [IntWalk.i64_in _ (by omega)]; omega
      have hpn : p < n := by omega
      clear hs hz hgd hp1 hb0 HM hB hg hp
      go_wp2
      go_roundw
      case rel => exact ⟨k + 1, by omega, by go_num, HZ⟩
      case measure => simp [intOf] <;> omega
    · obtain rfl : k = n := by omega
      have hB0 := HM.out.2
      have hm2 := HM.out.1
      rw [HR.out] at hm2
      obtain ⟨A9, c9, e9, hc9, _, hh9⟩ := hm2.size
      rw [List.length_reverse, HN.out] at e9
      injection e9 with e9 _ e9c
      subst e9; subst e9c
      have HA0 := Lib.hid (HH.out _ hB0)
      have H9 := Lib.hid hh9
      have HB0 := Lib.hid hB0
      clear hm2 HM hB0 hh9 hc9
      go_wp2_with (first
        | (go_at_call 9; (with_reducible refine (HA.out _ HA0.out).mono ?_); rintro e u1 ⟨v, rfl, hma, hba⟩; obtain ⟨A5, c5, rfl, hc5, _, hh5⟩ := hma.size; rw [HLA.out] at hc5 hma ⊢; have H92 := Lib.hid (H9.out.carry hba))
        | (go_at_call 9; (with_reducible refine (HB.out _ _ _ H92.out).mono ?_); rintro e u2 ⟨v, rfl, hmb, hbb⟩; obtain ⟨A6, c6, rfl, hc6, _, hh6⟩ := hmb.size; rw [HLB.out] at hc6 hmb ⊢))
      have hgw : G ≤ wr.heap.size := by have := HB0.out.size; have := HG.out; omega
      have H5 := Lib.hid (hh5.carry hbb)
      have H6 := Lib.hid hh6
      have hb01 := HB0.out.trans (hba.mono hgw)
      have hgu : G ≤ u1.heap.size := by have := hba.size; omega
      have HB1 := Lib.hid (hb01.trans (hbb.mono hgu))
      clear hma hmb hba hbb hh5 hh6 hc5 hc6 H92 H9 hb01 hgw hgu HA HB HA0 HB0
      go_loopw [10] (fun v wr => ∃ i : Nat, i ≤ k ∧ v = .int .i64 i ∧ ∃ q, wr = u2.drewN q) (fun v _ => k - (intOf v).toNat)
      case atStart => exact ⟨0, by omega, rfl, 0, rfl⟩
      case round =>
        obtain ⟨i, hik, rfl, q, rfl⟩ := hrel
        by_cases hi : i < k
        · obtain ⟨p, hp⟩ : ∃ p : Nat, k - 1 - i = p := ⟨_, rfl⟩
          have hpk : p < k := by omega
          have h1 : i < RA.length := by rw [HLA.out]; exact hi
          have h2 : p < RB.length := by rw [HLB.out]; exact hpk
          obtain ⟨b5, o5, rfl, hb5, hc5⟩ := H5.out.at_int h1
          obtain ⟨b6, o6, rfl, hb6, hc6⟩ := H6.out.at_int h2
          have ht := HT.out i hi
          rw [hp, List.getD_eq_getElem?_getD, List.getElem?_eq_getElem h1, List.getD_eq_getElem?_getD, List.getElem?_eq_getElem h2] at ht
          simp only [Option.getD_some] at ht
          rw [ht] at hc5
          generalize RB[p] = X at hc5 hc6
          have kw1 : IntKind.i64.wrap ((k : Int) - 1) = (k : Int) - 1 := IntWalk.i64_in _ (by omega)
          have kw2 : IntKind.i64.wrap ((k : Int) - 1 - (i : Int)) = (p : Int) := by rw [IntWalk.i64_in _ (by omega)]; omega
          clear ht h1 h2 hp hb5 hb6
          go_wp2
          go_quiet (fail)
          go_wp2
          go_roundw
          case rel => exact ⟨i + 1, by omega, by go_num, _, rfl⟩
          case measure => simp [intOf] <;> omega
        · obtain rfl : i = k := by omega
          go_wp2_with (go_at_call 7; (with_reducible refine (HAL.out _).mono ?_); rintro e u3 ⟨rfl, hb3⟩)
          go_ret
          have B1 := below_drewN HB1.out q
          rw [← HG.out] at B1
          exact ⟨rfl, below_trans B1 hb3 B1.size⟩

set_option maxRecDepth 100000 in
theorem lifted (os : Os) (started : os.Started) (H : Type) (enc : TypeId × Value → H) :
    ReturnsInHanded {} Try.checked os 6 .any (Rows.neutralTurnsSpec.pre6 enc Try.prog Try.f6 Rows.neutralTurnsRow.domain false) (Rows.neutralTurnsSpec.post enc Try.prog Try.f6 false true false false) := by
  refine returnsInHanded_of_change (C := Try.checked) own started (by kernel_rfl) Try.func6
    (ChangeSpec.witness6 (enc := enc) (C := Try.checked) false ⟨#[], #[.slice none 0 0, .int .i64 0], []⟩ 8 (by kernel_rfl) (by kernel_rfl) (by kernel_rfl) (by kernel_rfl)) ?_
  intro W base args ds gs before hval0 hW hcnd _
  have hval : ∀ (j : Nat) t v, Try.f6.params[j]? = some t → args[j]? = some v → Value.okWide Try.prog W .any base t v := hval0
  have hW' := hW
  obtain ⟨p, q, hA0, hV, rfl, hfz, hnd⟩ := hW
  have hA : DataW.TrodAll enc Try.prog W 0 (fun _ => true) true Try.f6.params.toList args.toList ds p := hA0
  rw [Try.params6] at hA hval
  obtain ⟨v0, vs0, d0, ds0, p0, q0, hargs, rfl, rfl, h0, r0⟩ := trodAll_cons hA
  obtain ⟨v1, vs1, d1, ds1, p1, q1, rfl, rfl, rfl, h1, r1⟩ := trodAll_cons r0
  obtain ⟨rfl, rfl, rfl⟩ := trodAll_nil r1
  obtain rfl : args = #[v0, v1] := by cases args; simp_all
  obtain ⟨rfl, rfl⟩ := trodVars_none hV
  clear hA0 hval0
  have hlt : ∀ x ∈ p0 ++ (p1 ++ []), x.block < W.heap.size := fun x hx => by simpa using hW'.lt x (List.mem_append_left _ hx)
  have k0 := h0
  have k1 := h1
  obtain ⟨A0, l0, c0, rfl⟩ := okWide_slice Try.underlying22 (hval 0 22 v0 rfl rfl)
  obtain ⟨z0, rfl, n0, m0, w0, hh0⟩ := has_ints Try.underlying22 Try.underlying3 (by kernel_rfl) h0 (fun x hx => hlt x (List.mem_append_left _ hx))
  obtain ⟨a1, rfl, rfl, rfl, w1⟩ := open_int Try.underlying3 (hval 1 3 v1 rfl rfl) h1
  refine (walk A0 c0 z0 a1 W n0 m0 w0 hh0 w1).mono fun e W' ⟨he, hb⟩ => ?_
  subst he
  exact ⟨_, rfl, _, _, _, [], _, [], hW', (trodAll_cons_mk (shut_bool Try.underlying4 _) trodAll_mk0), (trodAll_cons_mk (Below.trod laidOut (by kernel_rfl) (of_decide_eq_true (by kernel_rfl)) k0 hb (fun x hx => hlt x (List.mem_append_left _ hx))) (trodAll_cons_mk (Below.trod laidOut (by kernel_rfl) (of_decide_eq_true (by kernel_rfl)) k1 hb (fun x hx => hlt x (List.mem_append_right _ (List.mem_append_left _ hx)))) trodAll_mk0)), rfl, hb.frame _, fun h => by cases h⟩

theorem over : Rows.neutralTurnsRow.holds Try.pinned (OpenSpec.ofChange Rows.neutralTurnsSpec) :=
  OpenClaim.holds_of_wide 6 Try.f6 rfl rfl rfl rfl rfl rfl rfl ⟨rfl, rfl, rfl, rfl, rfl⟩ rfl rfl rfl rfl rfl (by kernel_rfl) Try.func6 (by kernel_rfl)
    (of_decide_eq_true (by kernel_rfl)) (by unfold Func.isWrapper; first | (rw [if_pos (by decide +kernel)]; kernel_rfl) | (rw [if_neg (by decide +kernel)]; exact ⟨rfl, rfl⟩))
    (fun os started H enc _ => lifted os started H enc)

/-- the statement -/
theorem proved : Rows.NeutralTurnsSaid :=
  over
#print axioms proved
end Go.Proofs.Ytfjmcfcaphodgaa.neutralTurns
