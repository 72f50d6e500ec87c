/-
  For every []int and both bases the statement SeqsPlain returns true: without isolate signs the sequences are the level runs, one by one. No condition.
-/
import Derived.Test.YtjdkpnmejkbkiaaHas
import Derived.Test.YtjdkpnmejkbkiaaSqv
import Derived.Test.YtjdkpnmejkbkiaaSqw
import Derived.Test.YtjdkpnmejkbkiaaXrh
set_option linter.unusedVariables false
namespace Go.Proofs.Ytjdkpnmejkbkiaa.seqsPlain
open Go.ChangeShapes Go.WideShapes Go.ChangeAt Go.RowKit Go.Proofs.Ytjdkpnmejkbkiaa
theorem own : ownKnob Try.prog.godebug = none := by kernel_rfl
theorem laidOut : laidOutB Try.prog = true := by kernel_rfl

set_option maxRecDepth 20000 in
set_option maxHeartbeats 8000000 in
theorem walk (A0 : Option Addr) (c0 : Nat) (z0 : List Int) (a1 : Bool) (w : World) (n0 : z0.length ≤ 9223372036854775807) (m0 : z0.length ≤ c0) (w0 : ∀ z ∈ z0, (Lit.int .i64 z).wf = true) (h0 : Has w w.heap.size A0 (z0.map (Value.int .i64))) :
    Calls Try.prog 5 #[.slice A0 z0.length c0, .bool a1] w fun e w' => e = .returned (.bool true) ∧ Below w.heap.size w w' := by
  have HAL := Lib.hid (fun w => alive_ok w)
  by_cases hl : 100 < z0.length
  · have d0 : decide ((100 : Int) < (z0.length : Int)) = true := decide_eq_true (by omega)
    clear w0 m0 h0
    go_enter Try.func5, Try.ntmps5
    go_wp2_with (go_at_call 7; (refine (HAL.out _).mono ?_); rintro e u ⟨rfl, hb⟩)
    go_ret
    exact ⟨rfl, hb⟩
  have d0 : decide ((100 : Int) < (z0.length : Int)) = false := decide_eq_false (by omega)
  obtain ⟨b, hb1, hab⟩ : ∃ b : Nat, b ≤ 1 ∧ (if a1 = true then (1 : Int) else 0) = b := by
    cases a1
    · exact ⟨0, by omega, rfl⟩
    · exact ⟨1, by omega, rfl⟩
  have HLV : Hid (∀ w, Calls Try.prog 9 #[.bool a1] w fun e w' => e = .returned (.int .i64 (b : Int)) ∧ w = w') := Lib.hid fun w => by have := level_ok a1 w; rwa [hab] at this
  obtain ⟨n, hn⟩ : ∃ n, z0.length = n := ⟨_, rfl⟩
  have HN := Lib.hid hn.symm
  have HINI := Lib.hid (fun (c : Int) (w : World) => rinitiator_ok c w)
  have HLE := Lib.hid (rlevels_ok A0 n c0 b z0 w hn.symm (by omega) (by omega) hb1 h0)
  have HO := Lib.hid (fun AL cL W h hL => sof_ok A0 AL n c0 cL b z0 W hn.symm (by omega) hb1 h hL)
  have HR := Lib.hid (fun AL cL W h hL => sruns_ok A0 AL n c0 cL (lvF b z0) z0 W hn.symm (by omega) h hL)
  have hlv : lvI b z0 n = lvs (lvF b z0) n := by rw [← hn]; exact lvI_lvs b z0 _ (Nat.le_refl _)
  rw [hlv] at HLE
  have hrs : runsF (lvF b z0) (keptL z0 n) = rsL b z0 := by rw [← hn]; rfl
  rw [hrs] at HR
  have H0 := Lib.hid h0
  simp only [hn] at n0 d0 ⊢
  clear w0 m0 h0 hlv hrs hab
  go_enter Try.func5, Try.ntmps5
  go_wp2
  go_loopw [5] (fun i wr => ∃ k : Nat, k ≤ n ∧ i = .int .i64 k ∧ wr = w ∧ Hid (∀ j, j < k → z0.getD j 0 ≠ 23)) (fun i _ => n - (intOf i).toNat)
  case atStart => exact ⟨0, by omega, rfl, rfl, Lib.hid fun j hj => by omega⟩
  case round =>
    obtain ⟨k, hk, rfl, rfl, HS⟩ := hrel
    by_cases hlt : k < n
    · have hlt2 : k < z0.length := by have := HN.out; omega
      obtain ⟨b1, o1, rfl, hb1', hc⟩ := H0.out.at_int hlt2
      rw [← getD_get] at hc
      have HS' := HS.out
      obtain ⟨X, hX⟩ : ∃ X, z0.getD k 0 = X := ⟨_, rfl⟩
      rw [hX] at hc
      clear HS HLE HO HR
      cases ho : opnC X with
      | true =>
        have HX : Hid (∀ u, Calls Try.prog 17 #[.int .i64 X] u fun e w' => e = .returned (.bool true) ∧ u = w') := Lib.hid fun u => by have := HINI.out X u; rwa [ho] at this
        clear hX ho HS'
        go_wp2_with (first
          | (go_at_call 17; refine (HX.out _).mono ?_; rintro e q ⟨rfl, rfl⟩)
          | (go_at_call 7; (refine (HAL.out _).mono ?_); rintro e u ⟨rfl, hb⟩))
        go_ret
        exact ⟨rfl, hb⟩
      | false =>
        have HX : Hid (∀ u, Calls Try.prog 17 #[.int .i64 X] u fun e w' => e = .returned (.bool false) ∧ u = w') := Lib.hid fun u => by have := HINI.out X u; rwa [ho] at this
        by_cases h23 : X = 23
        · subst h23
          clear hX ho HS'
          go_wp2_with (first
            | (go_at_call 17; refine (HX.out _).mono ?_; rintro e q ⟨rfl, rfl⟩)
            | (go_at_call 7; (refine (HAL.out _).mono ?_); rintro e u ⟨rfl, hb⟩))
          go_ret
          exact ⟨rfl, hb⟩
        · have hX23 : (X == 23) = false := by simpa using h23
          have HS2 : Hid (∀ j, j < k + 1 → z0.getD j 0 ≠ 23) := Lib.hid fun j hj => by
            by_cases e : j = k
            · subst e; rw [hX]; exact h23
            · exact HS' j (by omega)
          clear hX ho HS' h23
          go_wp2_with (go_at_call 17; refine (HX.out _).mono ?_; rintro e q ⟨rfl, rfl⟩)
          go_roundw
          case rel => exact ⟨k + 1, by omega, by go_num, trivial, HS2⟩
          case measure => simp [intOf] <;> omega
    · obtain rfl : k = n := by omega
      have hpl : ∀ j, j < z0.length → z0.getD j 0 ≠ 23 := fun j hj => HS.out j (by have := HN.out; omega)
      have hlen := plain_len b z0 hpl
      have hfew := seq_few b z0
      have HAT := Lib.hid (fun i (hi : i < (rsL b z0).length) => plain_at b z0 hpl hi)
      have HRX := Lib.hid (rs_x b z0)
      clear HS
      go_wp2_with (first
        | (go_at_call 9; (refine (HLV.out _).mono ?_); rintro e u ⟨rfl, rfl⟩)
        | (go_at_call 8; (refine HLE.out.mono ?_); rintro e u1 ⟨v1, v2, rfl, h1, h2, hbu1⟩; obtain ⟨AL, cL, rfl, _, _, g1⟩ := h1.size; rw [lvs_len]; have H01 := H0.out.carry hbu1)
        | (go_at_call 10; (refine (HO.out AL cL u1 H01 g1).mono ?_); rintro e u2 ⟨v3, rfl, h3, hbu2⟩; have g2 := g1.carry hbu2; have H02 := H01.carry hbu2; obtain ⟨AQ, cQ, rows, rfl, hq1, hq2, hq3⟩ := (id h3))
        | (go_at_call 13; (refine (HR.out AL cL u2 H02 g2).mono ?_); rintro e u3 ⟨v4, rfl, h4, hbu3⟩; obtain ⟨A4, c4, rfl, _, _, g4⟩ := h4.has; rw [cutsR_len, ← hlen]))
      have h5 := h3.carry hbu3
      have hb3 : Below wr.heap.size wr u3 := (hbu1.trans (hbu2.mono hbu1.size)).trans (hbu3.mono (Nat.le_trans hbu1.size hbu2.size))
      have hfew2 : (rsL b z0).length ≤ 100 := by have := HN.out; omega
      obtain ⟨M, hM⟩ : ∃ M, (rsL b z0).length = M := ⟨_, rfl⟩
      have HRL : Hid ((rsL b z0).length = M) := Lib.hid hM
      rw [hM] at hfew2
      simp only [hM]
      have HM := Lib.hid hM
      clear hq1 hq2 hq3 h3 h4 hlen hfew hM HLE HO HR H01 H02 g1 g2 h1 h2 hpl
      go_loopw [10] (fun i wq => ∃ k : Nat, k ≤ M ∧ i = .int .i64 k ∧ ∃ q, wq = u3.drewN q) (fun i _ => M - (intOf i).toNat)
      case atStart => exact ⟨0, by omega, rfl, 0, rfl⟩
      case round =>
        obtain ⟨i, hi, rfl, q, rfl⟩ := hrel
        by_cases hlt : i < M
        · have hir : i < (rsL b z0).length := by have := HRL.out; omega
          obtain ⟨x, hx, hxp⟩ := HAT.out i hir
          have hne := HRX.out.ne i hir
          obtain ⟨p, hp⟩ : ∃ p, x.pl.length = p + 1 := ⟨x.pl.length - 1, by rw [hxp]; have := List.length_pos_iff.2 hne; omega⟩
          obtain ⟨bq, oq, cq', AI, nI, dI, hv, hbq, k1, _, _, _, hnI, hdI, hI⟩ := h5.at_ hx
          injection hv with e1 e2 e3
          subst e1; subst e3
          rw [hp] at hnI
          subst hnI
          obtain ⟨bc, oc, rfl, hbc, r1, r2⟩ := g4.two (cutsR_get (rsL b z0) i hir)
          obtain ⟨bi, oi, rfl, hbi, f1⟩ := hI.at_int (k := 0) (by rw [ints_len]; omega)
          obtain ⟨bi', oi', hA9, hbi', f2⟩ := hI.at_int (k := p) (by rw [ints_len]; omega)
          injection hA9 with hA9
          injection hA9 with e5 e6
          subst e5; subst e6
          rw [ints_head, hxp] at f1
          rw [ints_last _ p hp, hxp] at f2
          have f1' : u3.cell? ⟨bi, oi, none⟩ = some (.int .i64 (hdR (rsL b z0) i : Int)) := f1
          have f2' : u3.cell? ⟨bi, oi + p, none⟩ = some (.int .i64 (laR (rsL b z0) i : Int)) := f2
          have hlab : laR (rsL b z0) i < 1000 := by have := la_lt (b := b) (cs := z0) hir; have := HN.out; omega
          generalize hdR (rsL b z0) i = hd at *
          generalize laR (rsL b z0) i = la at *
          have p1 : ((p : Int) + 1 == 0) = false := by simp <;> omega
          have p2 : (p : Int) + 1 - 1 = p := by omega
          have p3 : (la : Int) + 1 - 1 = la := by omega
          have p4 : p < 1000 := by have h7 := (seq_rise b z0 hx).1; have h8 := sorted_len _ 0 z0.length h7 (fun y hy => ⟨Nat.zero_le _, ((seq_rise b z0 hx).2.2 y hy).1⟩); have := HN.out; rcases h8 with h8 | h8; (omega); (rw [h8] at hp; simp at hp)
          clear f1 f2 hI hx hxp hne h5 g4 hp
          go_wp2
          go_quiet (fail)
          go_wp2
          go_roundw
          case rel => exact ⟨i + 1, by omega, by go_num, _, rfl⟩
          case measure => simp [intOf] <;> omega
        · obtain rfl : i = M := by omega
          clear h5 g4
          go_wp2_with (go_at_call 7; (refine (HAL.out _).mono ?_); rintro e u4 ⟨rfl, hb4⟩)
          go_ret
          exact ⟨rfl, below_trans (below_drewN hb3 q) hb4 (Nat.le_trans hb3.size (Nat.le_refl _))⟩

set_option maxRecDepth 100000 in
theorem lifted (os : Os) (started : os.Started) (H : Type) (enc : TypeId × Value → H) :
    ReturnsInHanded {} Try.checked os 5 .any (Rows.seqsPlainSpec.pre6 enc Try.prog Try.f5 Rows.seqsPlainRow.domain false) (Rows.seqsPlainSpec.post enc Try.prog Try.f5 false true false false) := by
  refine returnsInHanded_of_change (C := Try.checked) own started (by kernel_rfl) Try.func5
    (ChangeSpec.witness6 (enc := enc) (C := Try.checked) false ⟨#[], #[.slice none 0 0, .bool false], []⟩ 8 (by kernel_rfl) (by kernel_rfl) (by kernel_rfl) (by kernel_rfl)) ?_
  intro W base args ds gs before hval0 hW hcnd _
  have hval : ∀ (j : Nat) t v, Try.f5.params[j]? = some t → args[j]? = some v → Value.okWide Try.prog W .any base t v := hval0
  have hW' := hW
  obtain ⟨p, q, hA0, hV, rfl, hfz, hnd⟩ := hW
  have hA : DataW.TrodAll enc Try.prog W 0 (fun _ => true) true Try.f5.params.toList args.toList ds p := hA0
  rw [Try.params5] at hA hval
  obtain ⟨v0, vs0, d0, ds0, p0, q0, hargs, rfl, rfl, h0, r0⟩ := trodAll_cons hA
  obtain ⟨v1, vs1, d1, ds1, p1, q1, rfl, rfl, rfl, h1, r1⟩ := trodAll_cons r0
  obtain ⟨rfl, rfl, rfl⟩ := trodAll_nil r1
  obtain rfl : args = #[v0, v1] := by cases args; simp_all
  obtain ⟨rfl, rfl⟩ := trodVars_none hV
  clear hA0 hval0
  have hlt : ∀ x ∈ p0 ++ (p1 ++ []), x.block < W.heap.size := fun x hx => by simpa using hW'.lt x (List.mem_append_left _ hx)
  have k0 := h0
  have k1 := h1
  obtain ⟨A0, l0, c0, rfl⟩ := okWide_slice Try.underlying22 (hval 0 22 v0 rfl rfl)
  obtain ⟨z0, rfl, n0, m0, w0, hh0⟩ := has_ints Try.underlying22 Try.underlying3 (by kernel_rfl) h0 (fun x hx => hlt x (List.mem_append_left _ hx))
  obtain ⟨a1, rfl, rfl, rfl⟩ := open_bool Try.underlying4 (hval 1 4 v1 rfl rfl) h1
  refine (walk A0 c0 z0 a1 W n0 m0 w0 hh0).mono fun e W' ⟨he, hb⟩ => ?_
  subst he
  exact ⟨_, rfl, _, _, _, [], _, [], hW', (trodAll_cons_mk (shut_bool Try.underlying4 _) trodAll_mk0), (trodAll_cons_mk (Below.trod laidOut (by kernel_rfl) (of_decide_eq_true (by kernel_rfl)) k0 hb (fun x hx => hlt x (List.mem_append_left _ hx))) (trodAll_cons_mk (Below.trod laidOut (by kernel_rfl) (of_decide_eq_true (by kernel_rfl)) k1 hb (fun x hx => hlt x (List.mem_append_right _ (List.mem_append_left _ hx)))) trodAll_mk0)), rfl, hb.frame _, fun h => by cases h⟩

theorem over : Rows.seqsPlainRow.holds Try.pinned (OpenSpec.ofChange Rows.seqsPlainSpec) :=
  OpenClaim.holds_of_wide 5 Try.f5 rfl rfl rfl rfl rfl rfl rfl ⟨rfl, rfl, rfl, rfl, rfl⟩ rfl rfl rfl rfl rfl (by kernel_rfl) Try.func5 (by kernel_rfl)
    (of_decide_eq_true (by kernel_rfl)) (by unfold Func.isWrapper; first | (rw [if_pos (by decide +kernel)]; kernel_rfl) | (rw [if_neg (by decide +kernel)]; exact ⟨rfl, rfl⟩))
    (fun os started H enc _ => lifted os started H enc)

/-- the statement -/
theorem proved : Rows.SeqsPlainSaid :=
  over
#print axioms proved
end Go.Proofs.Ytjdkpnmejkbkiaa.seqsPlain
