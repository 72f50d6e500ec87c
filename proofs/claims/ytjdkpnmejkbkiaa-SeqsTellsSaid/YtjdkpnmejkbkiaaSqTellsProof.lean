/-
  For every []int and both bases the statement SeqsTells returns true: the program's sequences and level runs are the document's. No condition.
-/
import Derived.Test.YtjdkpnmejkbkiaaHas
import Derived.Test.YtjdkpnmejkbkiaaSqv
import Derived.Test.YtjdkpnmejkbkiaaXrh
import Derived.Test.YtjdkpnmejkbkiaaSqu
import Derived.Test.YtjdkpnmejkbkiaaSqz
set_option linter.unusedVariables false
namespace Go.Proofs.Ytjdkpnmejkbkiaa.seqsTells
open Go.ChangeShapes Go.WideShapes Go.ChangeAt Go.RowKit Go.Proofs.Ytjdkpnmejkbkiaa
theorem own : ownKnob Try.prog.godebug = none := by kernel_rfl
theorem laidOut : laidOutB Try.prog = true := by kernel_rfl

set_option maxRecDepth 20000 in
set_option maxHeartbeats 8000000 in
theorem walk (A0 : Option Addr) (c0 : Nat) (z0 : List Int) (a1 : Bool) (w : World) (n0 : z0.length ≤ 9223372036854775807) (m0 : z0.length ≤ c0) (w0 : ∀ z ∈ z0, (Lit.int .i64 z).wf = true) (h0 : Has w w.heap.size A0 (z0.map (Value.int .i64))) :
    Calls Try.prog 3 #[.slice A0 z0.length c0, .bool a1] w fun e w' => e = .returned (.bool true) ∧ Below w.heap.size w w' := by
  have HAL := Lib.hid (fun w => alive_ok w)
  by_cases hl : 100 < z0.length
  · have d0 : decide ((100 : Int) < (z0.length : Int)) = true := decide_eq_true (by omega)
    clear w0 m0 h0
    go_enter Try.func3, Try.ntmps3
    go_wp2_with (go_at_call 7; (refine (HAL.out _).mono ?_); rintro e u ⟨rfl, hb⟩)
    go_ret
    exact ⟨rfl, hb⟩
  have d0 : decide ((100 : Int) < (z0.length : Int)) = false := decide_eq_false (by omega)
  obtain ⟨b, hb1, hab⟩ : ∃ b : Nat, b ≤ 1 ∧ (if a1 = true then (1 : Int) else 0) = b := by
    cases a1
    · exact ⟨0, by omega, rfl⟩
    · exact ⟨1, by omega, rfl⟩
  have HLV : Hid (∀ w, Calls Try.prog 9 #[.bool a1] w fun e w' => e = .returned (.int .i64 (b : Int)) ∧ w = w') := Lib.hid fun w => by have := level_ok a1 w; rwa [hab] at this
  obtain ⟨n, hn⟩ : ∃ n, z0.length = n := ⟨_, rfl⟩
  have HN := Lib.hid hn.symm
  have hn100 : n ≤ 100 := by omega
  have HLE := Lib.hid (rlevels_ok A0 n c0 b z0 w hn.symm (by omega) (by omega) hb1 h0)
  have HO := Lib.hid (fun AL cL W h hL => sof_ok A0 AL n c0 cL b z0 W hn.symm (by omega) hb1 h hL)
  have HP := Lib.hid (fun AL cL W h hL => rof_ok A0 AL n c0 cL b z0 W hn.symm (by omega) hb1 h hL)
  have HR := Lib.hid (fun AL cL W h hL => sruns_ok A0 AL n c0 cL (lvF b z0) z0 W hn.symm (by omega) h hL)
  have HT := Lib.hid (fun AL cL W h hL => rcuts_ok A0 AL n c0 cL b z0 W hn.symm (by omega) h hL)
  have hlv : lvI b z0 n = lvs (lvF b z0) n := by rw [← hn]; exact lvI_lvs b z0 _ (Nat.le_refl _)
  rw [hlv] at HLE
  have hrs : runsF (lvF b z0) (keptL z0 n) = rsL b z0 := by rw [← hn]; rfl
  rw [hrs] at HR
  have H0 := Lib.hid h0
  have hfew := seq_few b z0
  rw [hn] at hfew
  have hfew3 : (cutsR (rsL b z0)).length ≤ 1000000 := by rw [cutsR_len, ← hrs]; have := runs_len (lvF b z0) z0 n; omega
  simp only [hn] at n0 d0 ⊢
  obtain ⟨M, hM⟩ : ∃ M, (seqL b z0).length = M := ⟨_, rfl⟩
  rw [hM] at hfew
  have HM := Lib.hid hM
  obtain ⟨C, hC⟩ : ∃ C, (cutsR (rsL b z0)).length = C := ⟨_, rfl⟩
  have HC := Lib.hid hC
  rw [hC] at hfew3
  clear w0 m0 h0 hlv hab hn hl hM hrs hC
  go_enter Try.func3, Try.ntmps3
  go_wp2_with (first
    | (go_at_call 9; (refine (HLV.out _).mono ?_); rintro e u ⟨rfl, rfl⟩)
    | (go_at_call 8; (refine HLE.out.mono ?_); rintro e u1 ⟨v1, v2, rfl, h1, h2, hbu1⟩; obtain ⟨AL, cL, rfl, _, _, g1⟩ := h1.size; rw [lvs_len]; have H01 := H0.out.carry hbu1)
    | (go_at_call 10; (refine (HO.out AL cL u1 H01 g1).mono ?_); rintro e u2 ⟨v3, rfl, h3, hbu2⟩; have g2 := g1.carry hbu2; have H02 := H01.carry hbu2; obtain ⟨AQ, cQ, rowsQ, rfl, _, _, _⟩ := (id h3); rw [HM.out])
    | (go_at_call 11; (refine (HP.out AL cL u2 H02 g2).mono ?_); rintro e u3 ⟨v4, rfl, h4, hbu3⟩; have g3 := g2.carry hbu3; have H03 := H02.carry hbu3; obtain ⟨AP, cP, rowsP, rfl, _, _, _⟩ := (id h4); rw [HM.out])
    | (go_at_call 13; (refine (HR.out AL cL u3 H03 g3).mono ?_); rintro e u4 ⟨v5, rfl, h5, hbu4⟩; have g4 := g3.carry hbu4; have H04 := H03.carry hbu4; obtain ⟨A5, c5, rfl, _, _, k5⟩ := h5.has; rw [HC.out])
    | (go_at_call 14; (refine (HT.out AL cL u4 H04 g4).mono ?_); rintro e u5 ⟨v6, rfl, h6, hbu5⟩; obtain ⟨A6, c6, rfl, _, _, k6⟩ := h6.has; have k5' := k5.carry hbu5; rw [HC.out])
    | (go_at_call 12; (refine (cuts_ok A5 A6 c5 c6 C (cutsR (rsL b z0)) u5 HC.out.symm hfew3 k5' k6).mono ?_); rintro e u6 ⟨rfl, qq, rfl⟩))
  have hB3 : Below w.heap.size w u3 := (hbu1.trans (hbu2.mono hbu1.size)).trans (hbu3.mono (Nat.le_trans hbu1.size hbu2.size))
  have hB5 : Below u3.heap.size u3 (u5.drewN qq) := below_drewN (hbu4.trans (hbu5.mono hbu4.size)) qq
  obtain ⟨u6, hu6⟩ : ∃ u6, u5.drewN qq = u6 := ⟨_, rfl⟩
  rw [hu6] at hB5
  simp only [hu6]
  have HQ := Lib.hid (fun W (hb : Below u3.heap.size u3 W) => (h3.carry hbu3).carry hb)
  have HQ2 := Lib.hid (fun W (hb : Below u3.heap.size u3 W) => h4.carry hb)
  rw [HM.out] at HQ HQ2
  have HB := Lib.hid hB3
  clear h3 h4 h5 h6 k5 k5' k6 g1 g2 g3 g4 H01 H02 H03 H04 h1 h2 HLE HO HP HR HT hB3 hbu1 hbu2 hbu3 hbu4 hbu5 hu6 H0
  go_loopw [9] (fun v9 wr => ∃ i : Nat, i ≤ M ∧ v9 = .int .i64 i ∧ Below u3.heap.size u3 wr) (fun v9 _ => M - (intOf v9).toNat)
  case atStart => exact ⟨0, by omega, rfl, hB5⟩
  case round =>
    clear hB5
    obtain ⟨i, hi, rfl, hbw⟩ := hrel
    by_cases hlt : i < M
    · obtain ⟨x, hx⟩ : ∃ x, (seqL b z0)[i]? = some x := ⟨_, List.getElem?_eq_getElem (by have := HM.out; omega)⟩
      obtain ⟨s1, s2, s3⟩ := seq_rise b z0 hx
      have hpl : x.pl.length ≤ 100 := by have h8 := sorted_len _ 0 z0.length s1 (fun y hy => ⟨Nat.zero_le _, (s3 y hy).1⟩); have := HN.out; rcases h8 with h8 | h8; (omega); (rw [h8]; simp)
      have hA := fun z => (HQ.out _ (below_drewN hbw z)).at_ hx
      obtain ⟨bq, oq, cq', AI, nI, dI, hv, hbq, k1, k2, k3, k4, hnI, hdI, hI⟩ := (HQ.out _ hbw).at_ hx
      injection hv with e1 e2 e3
      subst e1; subst e3
      clear e2
      obtain ⟨bp, op, cp', AJ, nJ, dJ, hv, hbp, l1, l2, l3, l4, hnJ, hdJ, hJ⟩ := (HQ2.out _ hbw).at_ hx
      injection hv with e1 e2 e3
      subst e1; subst e3
      clear e2
      subst hnI; subst hnJ
      have HINT : Hid (∀ z, Calls Try.prog 15 #[.slice AI x.pl.length dI, .slice AJ x.pl.length dJ] (wr.drewN z) fun e w' => e = .returned (.bool true) ∧ ∃ m, w' = (wr.drewN z).drewN m) := Lib.hid fun z =>
        ints_ok AI AJ dI dJ x.pl.length (ints x.pl) (wr.drewN z) (ints_len _).symm (by omega) (hI.carry (below_drewN (Below.refl _ _) z)) (hJ.carry (below_drewN (Below.refl _ _) z))
      have hbw2 : ∀ z, Below u3.heap.size u3 (wr.drewN z) := fun z => below_drewN hbw z
      have HBW := Lib.hid hbw2
      generalize x.pl.length = PL at *
      generalize x.lv = LV at *
      generalize x.sos = SO at *
      generalize x.eos = EO at *
      have i0 : (0 : Int) ≤ (i : Int) := by omega
      have i1 : (i : Int) < (M : Int) := by omega
      clear hA hI hJ hx s1 s2 s3 hbw2
      go_wp2
      go_quiet (first | (go_at_call 15; refine Calls.quiet_of (HINT.out _)))
      go_wp2
      go_roundw
      case rel => exact ⟨i + 1, by omega, by go_num, HBW.out _⟩
      case measure => simp [intOf] <;> omega
    · obtain rfl : i = M := by omega
      clear HQ HQ2
      go_wp2_with (go_at_call 7; (refine (HAL.out _).mono ?_); rintro e u7 ⟨rfl, hb7⟩)
      go_ret
      exact ⟨rfl, below_trans (below_trans HB.out hbw HB.out.size) hb7 (Nat.le_trans HB.out.size hbw.size)⟩

set_option maxRecDepth 100000 in
theorem lifted (os : Os) (started : os.Started) (H : Type) (enc : TypeId × Value → H) :
    ReturnsInHanded {} Try.checked os 3 .any (Rows.seqsTellsSpec.pre6 enc Try.prog Try.f3 Rows.seqsTellsRow.domain false) (Rows.seqsTellsSpec.post enc Try.prog Try.f3 false true false false) := by
  refine returnsInHanded_of_change (C := Try.checked) own started (by kernel_rfl) Try.func3
    (ChangeSpec.witness6 (enc := enc) (C := Try.checked) false ⟨#[], #[.slice none 0 0, .bool false], []⟩ 8 (by kernel_rfl) (by kernel_rfl) (by kernel_rfl) (by kernel_rfl)) ?_
  intro W base args ds gs before hval0 hW hcnd _
  have hval : ∀ (j : Nat) t v, Try.f3.params[j]? = some t → args[j]? = some v → Value.okWide Try.prog W .any base t v := hval0
  have hW' := hW
  obtain ⟨p, q, hA0, hV, rfl, hfz, hnd⟩ := hW
  have hA : DataW.TrodAll enc Try.prog W 0 (fun _ => true) true Try.f3.params.toList args.toList ds p := hA0
  rw [Try.params3] at hA hval
  obtain ⟨v0, vs0, d0, ds0, p0, q0, hargs, rfl, rfl, h0, r0⟩ := trodAll_cons hA
  obtain ⟨v1, vs1, d1, ds1, p1, q1, rfl, rfl, rfl, h1, r1⟩ := trodAll_cons r0
  obtain ⟨rfl, rfl, rfl⟩ := trodAll_nil r1
  obtain rfl : args = #[v0, v1] := by cases args; simp_all
  obtain ⟨rfl, rfl⟩ := trodVars_none hV
  clear hA0 hval0
  have hlt : ∀ x ∈ p0 ++ (p1 ++ []), x.block < W.heap.size := fun x hx => by simpa using hW'.lt x (List.mem_append_left _ hx)
  have k0 := h0
  have k1 := h1
  obtain ⟨A0, l0, c0, rfl⟩ := okWide_slice Try.underlying22 (hval 0 22 v0 rfl rfl)
  obtain ⟨z0, rfl, n0, m0, w0, hh0⟩ := has_ints Try.underlying22 Try.underlying3 (by kernel_rfl) h0 (fun x hx => hlt x (List.mem_append_left _ hx))
  obtain ⟨a1, rfl, rfl, rfl⟩ := open_bool Try.underlying4 (hval 1 4 v1 rfl rfl) h1
  refine (walk A0 c0 z0 a1 W n0 m0 w0 hh0).mono fun e W' ⟨he, hb⟩ => ?_
  subst he
  exact ⟨_, rfl, _, _, _, [], _, [], hW', (trodAll_cons_mk (shut_bool Try.underlying4 _) trodAll_mk0), (trodAll_cons_mk (Below.trod laidOut (by kernel_rfl) (of_decide_eq_true (by kernel_rfl)) k0 hb (fun x hx => hlt x (List.mem_append_left _ hx))) (trodAll_cons_mk (Below.trod laidOut (by kernel_rfl) (of_decide_eq_true (by kernel_rfl)) k1 hb (fun x hx => hlt x (List.mem_append_right _ (List.mem_append_left _ hx)))) trodAll_mk0)), rfl, hb.frame _, fun h => by cases h⟩

theorem over : Rows.seqsTellsRow.holds Try.pinned (OpenSpec.ofChange Rows.seqsTellsSpec) :=
  OpenClaim.holds_of_wide 3 Try.f3 rfl rfl rfl rfl rfl rfl rfl ⟨rfl, rfl, rfl, rfl, rfl⟩ rfl rfl rfl rfl rfl (by kernel_rfl) Try.func3 (by kernel_rfl)
    (of_decide_eq_true (by kernel_rfl)) (by unfold Func.isWrapper; first | (rw [if_pos (by decide +kernel)]; kernel_rfl) | (rw [if_neg (by decide +kernel)]; exact ⟨rfl, rfl⟩))
    (fun os started H enc _ => lifted os started H enc)

/-- the statement -/
theorem proved : Rows.SeqsTellsSaid :=
  over
#print axioms proved
end Go.Proofs.Ytjdkpnmejkbkiaa.seqsTells
