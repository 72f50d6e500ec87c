/-
  For every []int and both bases the statement SeqsCover returns true: each place that is not removed stands in just one sequence, in which places rise and all have its level. No condition.
-/
import Derived.Test.YtjdkpnmejkbkiaaHas
import Derived.Test.YtjdkpnmejkbkiaaSqv
import Derived.Test.YtjdkpnmejkbkiaaSqw
import Derived.Test.YtjdkpnmejkbkiaaXrh
set_option linter.unusedVariables false
namespace Go.Proofs.Ytjdkpnmejkbkiaa.seqsCover
open Go.ChangeShapes Go.WideShapes Go.ChangeAt Go.RowKit Go.Proofs.Ytjdkpnmejkbkiaa
theorem own : ownKnob Try.prog.godebug = none := by kernel_rfl
theorem laidOut : laidOutB Try.prog = true := by kernel_rfl

set_option maxRecDepth 20000 in
set_option maxHeartbeats 8000000 in
theorem walk (A0 : Option Addr) (c0 : Nat) (z0 : List Int) (a1 : Bool) (w : World) (n0 : z0.length ≤ 9223372036854775807) (m0 : z0.length ≤ c0) (w0 : ∀ z ∈ z0, (Lit.int .i64 z).wf = true) (h0 : Has w w.heap.size A0 (z0.map (Value.int .i64))) :
    Calls Try.prog 4 #[.slice A0 z0.length c0, .bool a1] w fun e w' => e = .returned (.bool true) ∧ Below w.heap.size w w' := by
  have HAL := Lib.hid (fun w => alive_ok w)
  by_cases hl : 100 < z0.length
  · have d0 : decide ((100 : Int) < (z0.length : Int)) = true := decide_eq_true (by omega)
    clear w0 m0 h0
    go_enter Try.func4, Try.ntmps4
    go_wp2_with (go_at_call 7; (refine (HAL.out _).mono ?_); rintro e u ⟨rfl, hb⟩)
    go_ret
    exact ⟨rfl, hb⟩
  have d0 : decide ((100 : Int) < (z0.length : Int)) = false := decide_eq_false (by omega)
  obtain ⟨b, hb1, hab⟩ : ∃ b : Nat, b ≤ 1 ∧ (if a1 = true then (1 : Int) else 0) = b := by
    cases a1
    · exact ⟨0, by omega, rfl⟩
    · exact ⟨1, by omega, rfl⟩
  have HLV : Hid (∀ w, Calls Try.prog 9 #[.bool a1] w fun e w' => e = .returned (.int .i64 (b : Int)) ∧ w = w') := Lib.hid fun w => by have := level_ok a1 w; rwa [hab] at this
  obtain ⟨n, hn⟩ : ∃ n, z0.length = n := ⟨_, rfl⟩
  have HN := Lib.hid hn.symm
  have hn100 : n ≤ 100 := by omega
  have HREM := Lib.hid (fun (c : Int) (w : World) => rremoved_ok c w)
  have HLE := Lib.hid (rlevels_ok A0 n c0 b z0 w hn.symm (by omega) (by omega) hb1 h0)
  have HO := Lib.hid (fun AL cL W h hL => sof_ok A0 AL n c0 cL b z0 W hn.symm (by omega) hb1 h hL)
  have hlv : lvI b z0 n = lvs (lvF b z0) n := by rw [← hn]; exact lvI_lvs b z0 _ (Nat.le_refl _)
  rw [hlv] at HLE
  have H0 := Lib.hid h0
  have hfew := seq_few b z0
  rw [hn] at hfew
  obtain ⟨i0, hi', hz0, hz1, hz2⟩ := info_parts fullI
  simp only [hn] at n0 d0 ⊢
  obtain ⟨M, hM⟩ : ∃ M, (seqL b z0).length = M := ⟨_, rfl⟩
  rw [hM] at hfew
  have HM := Lib.hid hM
  clear w0 m0 h0 hlv hab hn hl hM
  go_enter Try.func4, Try.ntmps4
  go_wp2_with (first
    | (go_at_call 9; (refine (HLV.out _).mono ?_); rintro e u ⟨rfl, rfl⟩)
    | (go_at_call 8; (refine HLE.out.mono ?_); rintro e u1 ⟨v1, v2, rfl, h1, h2, hbu1⟩; obtain ⟨AL, cL, rfl, _, _, g1⟩ := h1.size; rw [lvs_len]; have H01 := H0.out.carry hbu1)
    | (go_at_call 10; (refine (HO.out AL cL u1 H01 g1).mono ?_); rintro e u2 ⟨v3, rfl, h3, hbu2⟩; have g2 := g1.carry hbu2; have H02 := H01.carry hbu2; obtain ⟨AQ, cQ, rows, rfl, hq1, hq2, hq3⟩ := (id h3); rw [HM.out])
    | (refine wpList_make_full _ rfl _ _ 22 rfl u2.heap.size 3 i0 (.int .i64 0) 1 Try.underlying22 hi' hz0 hz1 .i64 .i64 n n n rfl rfl rfl rfl (by rw [hz2]; omega) (by unfold maxLen; omega) (Nat.le_refl _) ?_; intro w3 hown hgr; rw [made_zero] at hown; have hrow := Mine.row (xs := List.replicate n 0) (n := n) (by simpa [Mine] using hown); have hb3 : Below u2.heap.size u2 w3 := (Below.refl _ _).grown hgr (Nat.le_refl _) (fun k hk => by cases hk); clear hrow))
  have hMi : Mine .i64 3 w3 u2.heap.size (.slice (some ⟨u2.heap.size, 0, none⟩) n n) (cntP (seenP b z0 0 []) n) := by
    rw [seen_zero, cntP_nil]; unfold Mine; simpa using hown
  have hb2 : Below w.heap.size w u2 := hbu1.trans (hbu2.mono hbu1.size)
  have HQ := Lib.hid (fun W (hb : Below u2.heap.size u2 W) => h3.carry hb)
  have HL := Lib.hid (fun W (hb : Below u2.heap.size u2 W) => g2.carry hb)
  have HA := Lib.hid (fun W (hb : Below u2.heap.size u2 W) => H02.carry hb)
  have HB := Lib.hid hb2
  rw [HM.out] at HQ
  clear hown hgr h3 g2 H02 hq1 hq2 hq3 H01 g1 h1 h2 hbu1 hbu2 HLE HO H0 hi' hz0 hz1 hz2 hb2
  go_loopw [9] (fun v9 wr => ∃ i : Nat, i ≤ M ∧ v9 = .int .i64 i ∧ Hid (Mine .i64 3 wr u2.heap.size (.slice (some ⟨u2.heap.size, 0, none⟩) n n) (cntP (seenP b z0 i []) n) ∧ Below u2.heap.size u2 wr)) (fun v9 _ => M - (intOf v9).toNat)
  case atStart => exact ⟨0, by omega, rfl, Lib.hid ⟨hMi, hb3⟩⟩
  case round =>
    clear hMi hb3
    obtain ⟨i, hi, rfl, HS⟩ := hrel
    by_cases hlt : i < M
    · obtain ⟨x, hx⟩ : ∃ x, (seqL b z0)[i]? = some x := ⟨_, List.getElem?_eq_getElem (by have := HM.out; omega)⟩
      obtain ⟨m, hm⟩ : ∃ m, x.pl.length = m := ⟨_, rfl⟩
      obtain ⟨s1, s2, s3⟩ := seq_rise b z0 hx
      have hm100 : m ≤ 100 := by have h8 := sorted_len _ 0 z0.length s1 (fun y hy => ⟨Nat.zero_le _, (s3 y hy).1⟩); have := HN.out; rcases h8 with h8 | h8; (omega); (rw [h8] at hm; simp at hm; omega)
      have HX := Lib.hid hx
      have HS1 := Lib.hid s1
      have HS3 := Lib.hid s3
      have HMM := Lib.hid hm
      have hS0 := HS.out
      clear s1 s2 s3 hm HS
      go_wp2
      go_loopw [10] (fun v10 wq => ∃ j : Nat, j ≤ m ∧ v10 = .int .i64 j ∧ Hid (Mine .i64 3 wq u2.heap.size (.slice (some ⟨u2.heap.size, 0, none⟩) n n) (cntP (seenP b z0 i (x.pl.take j)) n) ∧ Below u2.heap.size u2 wq)) (fun v10 _ => m - (intOf v10).toNat)
      case atStart => exact ⟨0, by omega, rfl, Lib.hid hS0⟩
      case round =>
        clear hS0
        obtain ⟨j, hj, rfl, HT⟩ := hrel
        obtain ⟨t1, t2⟩ := HT.out
        clear HT
        obtain ⟨bq, oq, cq', AI, nI, dI, hv, hbq, k1, k2, _, _, hnI, hdI, hI⟩ := (HQ.out _ t2).at_ HX.out
        injection hv with e1 e2 e3
        subst e1; subst e3
        clear e2
        rw [HMM.out] at hnI
        subst hnI
        by_cases hlt2 : j < nI
        · obtain ⟨p, hp⟩ : ∃ p, x.pl[j]? = some p := ⟨_, List.getElem?_eq_getElem (by have := HMM.out; omega)⟩
          obtain ⟨q1, q2⟩ := HS3.out p (List.mem_of_getElem? hp)
          have hpn : p < n := by have := HN.out; omega
          obtain ⟨bi, oi, rfl, hbi, f1⟩ := hI.at_int (k := j) (by rw [ints_len]; have := HMM.out; omega)
          rw [ints_get _ j p hp] at f1
          obtain ⟨bl, ol, rfl, hbl, l1⟩ := (HL.out _ t2).at_int (k := p) (by rw [lvs_len]; exact hpn)
          rw [lvs_get, q2] at l1
          have c1 := t1.cellAt p (by rw [cntP_len]; exact hpn)
          rw [cntP_get] at c1
          have hcnt := seen_few b z0 HX.out j p q1
          have hset := t1.set p (by rw [cntP_len]; exact hpn) ((((seenP b z0 i (x.pl.take j)).count p : Nat) : Int) + 1)
          rw [← cntP_snoc _ _ _ hpn, ← seen_snoc b z0 i x.pl j p hp] at hset
          have hfr := t1.free p
          obtain ⟨CN, hCN⟩ : ∃ CN, (seenP b z0 i (x.pl.take j)).count p = CN := ⟨_, rfl⟩
          rw [hCN] at c1 hcnt hset
          have hpre : ∀ q, j = q + 1 → ∃ p', wr.cell? ⟨bi, oi + q, none⟩ = some (.int .i64 ((p' : Nat) : Int)) ∧ p' < p := fun q hq => by
            subst hq
            obtain ⟨p', hp'⟩ : ∃ p', x.pl[q]? = some p' := ⟨_, List.getElem?_eq_getElem (by have := HMM.out; omega)⟩
            obtain ⟨bi', oi', hA9, hbi', f2⟩ := hI.at_int (k := q) (by rw [ints_len]; have := HMM.out; omega)
            injection hA9 with hA9
            injection hA9 with e5 e6
            subst e5; subst e6
            rw [ints_get _ q p' hp'] at f2
            exact ⟨p', f2, sorted_at HS1.out hp' hp⟩
          have d1 : decide ((p : Int) < 0) = false := decide_eq_false (by omega)
          have d2 : decide ((n : Int) ≤ (p : Int)) = false := decide_eq_false (by omega)
          have d6 : ¬ n ≤ p := by omega
          have b0 : (0 : Int) ≤ (p : Int) := by omega
          have b1 : (p : Int) < (n : Int) := by omega
          generalize x.lv = LV at *
          clear hI t1 hp q2 hCN
          have i0 : (0 : Int) ≤ (i : Int) := by omega
          have i1 : (i : Int) < (M : Int) := by omega
          have hbB := t2
          obtain hj0 | ⟨q, rfl⟩ : j = 0 ∨ ∃ q, j = q + 1 := by
            cases j with
            | zero => exact .inl rfl
            | succ q => exact .inr ⟨q, rfl⟩
          · have d3 : decide ((0 : Int) < (j : Int)) = false := decide_eq_false (by omega)
            have d5 : ¬ 0 < j := by omega
            clear hpre hj0
            go_wp2
            go_quiet (fail)
            go_wp2
            go_roundw
            case rel => exact ⟨j + 1, by omega, by go_num, Lib.hid ⟨hset, (below_drewN hbB _).setCell (Nat.le_refl _) _⟩⟩
            case measure => simp [intOf] <;> omega
          · obtain ⟨p', f2, hpp⟩ := hpre q rfl
            have q0 : (0 : Int) ≤ (q : Int) := by omega
            have q1' : (q : Int) < (nI : Int) := by omega
            have d3 : decide ((0 : Int) < (q : Int) + 1) = true := decide_eq_true (by omega)
            have d4 : decide ((p : Int) ≤ (p' : Int)) = false := decide_eq_false (by omega)
            have d7 : ¬ p ≤ p' := by omega
            have hq1 : (q : Int) + 1 - 1 = q := by omega
            have hwq : IntKind.i64.wrap (q : Int) = q := Go.IntWalk.i64_in _ (by omega)
            clear hpre
            go_wp2
            go_quiet (fail)
            go_wp2
            go_roundw
            case rel => exact ⟨q + 2, by omega, by go_num, Lib.hid ⟨hset, (below_drewN hbB _).setCell (Nat.le_refl _) _⟩⟩
            case measure => simp [intOf] <;> omega
        · obtain rfl : j = nI := by omega
          have hfin : x.pl.take j = x.pl := by rw [← HMM.out, List.take_length]
          rw [hfin, seen_next b z0 HX.out] at t1
          go_wp2
          go_roundw
          case rel => exact ⟨i + 1, by omega, by go_num, Lib.hid ⟨t1, t2⟩⟩
          case measure => simp [intOf] <;> omega
    · obtain rfl : i = M := by omega
      obtain ⟨s1, s2⟩ := HS.out
      have hfin : seenP b z0 i [] = (seqL b z0).flatMap Sq.pl := by rw [← HM.out]; exact seen_all b z0
      rw [hfin] at s1
      clear HS HQ HL
      go_wp2
      go_loopw [12] (fun v12 wq => ∃ j : Nat, j ≤ n ∧ v12 = .int .i64 j ∧ Hid (Mine .i64 3 wq u2.heap.size (.slice (some ⟨u2.heap.size, 0, none⟩) n n) (cntP ((seqL b z0).flatMap Sq.pl) n) ∧ Below u2.heap.size u2 wq)) (fun v12 _ => n - (intOf v12).toNat)
      case atStart => exact ⟨0, by omega, rfl, Lib.hid ⟨s1, s2⟩⟩
      case round =>
        clear s1 s2
        obtain ⟨j, hj, rfl, HT⟩ := hrel
        obtain ⟨s1, s2⟩ := HT.out
        have hA := HA.out _ s2
        have HS2 : Hid (∀ q, Mine .i64 3 (wr.drewN q) u2.heap.size (.slice (some ⟨u2.heap.size, 0, none⟩) n n) (cntP ((seqL b z0).flatMap Sq.pl) n) ∧ Below u2.heap.size u2 (wr.drewN q)) := Lib.hid fun q => ⟨s1.drewN q, below_drewN s2 q⟩
        clear HT
        by_cases hlt2 : j < n
        · have hj0 : j < z0.length := by have := HN.out; omega
          obtain ⟨b1, o1, rfl, hb1', x1⟩ := hA.at_int hj0
          rw [← getD_get] at x1
          have c1 := s1.cellAt j (by rw [cntP_len]; exact hlt2)
          rw [cntP_get, cnt_end b z0 j hj0] at c1
          generalize z0.getD j 0 = X at *
          clear hA s1 HA
          cases hr : remC X with
          | true =>
            have HR2 : Hid (∀ w, Calls Try.prog 16 #[.int .i64 X] w fun e w' => e = .returned (.bool true) ∧ w' = w) := Lib.hid fun w => (HREM.out X w).mono fun e w' h => ⟨by rw [h.1, hr], h.2.symm⟩
            rw [hr] at c1
            clear hr
            go_wp2
            go_quiet (first | (go_at_call 16; refine Calls.quiet_of_same (HR2.out _)))
            go_wp2
            go_roundw
            case rel => exact ⟨j + 1, by omega, by go_num, Lib.hid (HS2.out _)⟩
            case measure => simp [intOf] <;> omega
          | false =>
            have HR2 : Hid (∀ w, Calls Try.prog 16 #[.int .i64 X] w fun e w' => e = .returned (.bool false) ∧ w' = w) := Lib.hid fun w => (HREM.out X w).mono fun e w' h => ⟨by rw [h.1, hr], h.2.symm⟩
            rw [hr] at c1
            clear hr
            go_wp2
            go_quiet (first | (go_at_call 16; refine Calls.quiet_of_same (HR2.out _)))
            go_wp2
            go_roundw
            case rel => exact ⟨j + 1, by omega, by go_num, Lib.hid (HS2.out _)⟩
            case measure => simp [intOf] <;> omega
        · obtain rfl : j = n := by omega
          clear hA s1
          go_wp2_with (go_at_call 7; (refine (HAL.out _).mono ?_); rintro e u4 ⟨rfl, hb4⟩)
          go_ret
          exact ⟨rfl, below_trans (below_trans HB.out s2 HB.out.size) hb4 (Nat.le_trans HB.out.size s2.size)⟩

set_option maxRecDepth 100000 in
theorem lifted (os : Os) (started : os.Started) (H : Type) (enc : TypeId × Value → H) :
    ReturnsInHanded {} Try.checked os 4 .any (Rows.seqsCoverSpec.pre6 enc Try.prog Try.f4 Rows.seqsCoverRow.domain false) (Rows.seqsCoverSpec.post enc Try.prog Try.f4 false true false false) := by
  refine returnsInHanded_of_change (C := Try.checked) own started (by kernel_rfl) Try.func4
    (ChangeSpec.witness6 (enc := enc) (C := Try.checked) false ⟨#[], #[.slice none 0 0, .bool false], []⟩ 8 (by kernel_rfl) (by kernel_rfl) (by kernel_rfl) (by kernel_rfl)) ?_
  intro W base args ds gs before hval0 hW hcnd _
  have hval : ∀ (j : Nat) t v, Try.f4.params[j]? = some t → args[j]? = some v → Value.okWide Try.prog W .any base t v := hval0
  have hW' := hW
  obtain ⟨p, q, hA0, hV, rfl, hfz, hnd⟩ := hW
  have hA : DataW.TrodAll enc Try.prog W 0 (fun _ => true) true Try.f4.params.toList args.toList ds p := hA0
  rw [Try.params4] at hA hval
  obtain ⟨v0, vs0, d0, ds0, p0, q0, hargs, rfl, rfl, h0, r0⟩ := trodAll_cons hA
  obtain ⟨v1, vs1, d1, ds1, p1, q1, rfl, rfl, rfl, h1, r1⟩ := trodAll_cons r0
  obtain ⟨rfl, rfl, rfl⟩ := trodAll_nil r1
  obtain rfl : args = #[v0, v1] := by cases args; simp_all
  obtain ⟨rfl, rfl⟩ := trodVars_none hV
  clear hA0 hval0
  have hlt : ∀ x ∈ p0 ++ (p1 ++ []), x.block < W.heap.size := fun x hx => by simpa using hW'.lt x (List.mem_append_left _ hx)
  have k0 := h0
  have k1 := h1
  obtain ⟨A0, l0, c0, rfl⟩ := okWide_slice Try.underlying22 (hval 0 22 v0 rfl rfl)
  obtain ⟨z0, rfl, n0, m0, w0, hh0⟩ := has_ints Try.underlying22 Try.underlying3 (by kernel_rfl) h0 (fun x hx => hlt x (List.mem_append_left _ hx))
  obtain ⟨a1, rfl, rfl, rfl⟩ := open_bool Try.underlying4 (hval 1 4 v1 rfl rfl) h1
  refine (walk A0 c0 z0 a1 W n0 m0 w0 hh0).mono fun e W' ⟨he, hb⟩ => ?_
  subst he
  exact ⟨_, rfl, _, _, _, [], _, [], hW', (trodAll_cons_mk (shut_bool Try.underlying4 _) trodAll_mk0), (trodAll_cons_mk (Below.trod laidOut (by kernel_rfl) (of_decide_eq_true (by kernel_rfl)) k0 hb (fun x hx => hlt x (List.mem_append_left _ hx))) (trodAll_cons_mk (Below.trod laidOut (by kernel_rfl) (of_decide_eq_true (by kernel_rfl)) k1 hb (fun x hx => hlt x (List.mem_append_right _ (List.mem_append_left _ hx)))) trodAll_mk0)), rfl, hb.frame _, fun h => by cases h⟩

theorem over : Rows.seqsCoverRow.holds Try.pinned (OpenSpec.ofChange Rows.seqsCoverSpec) :=
  OpenClaim.holds_of_wide 4 Try.f4 rfl rfl rfl rfl rfl rfl rfl ⟨rfl, rfl, rfl, rfl, rfl⟩ rfl rfl rfl rfl rfl (by kernel_rfl) Try.func4 (by kernel_rfl)
    (of_decide_eq_true (by kernel_rfl)) (by unfold Func.isWrapper; first | (rw [if_pos (by decide +kernel)]; kernel_rfl) | (rw [if_neg (by decide +kernel)]; exact ⟨rfl, rfl⟩))
    (fun os started H enc _ => lifted os started H enc)

/-- the statement -/
theorem proved : Rows.SeqsCoverSaid :=
  over
#print axioms proved
end Go.Proofs.Ytjdkpnmejkbkiaa.seqsCover
