/-
  For every uint8 and every int the statement ReorderFlat returns true: of one level the order is as it stands, or turned round, and one stretch is turned. No condition.
-/
import Derived.Test.YtnocdminhcpmpaaHas
import Derived.Test.YtnocdminhcpmpaaRon
set_option linter.unusedVariables false
namespace Go.Proofs.Ytnocdminhcpmpaa.reorderFlat
open Go.ChangeShapes Go.WideShapes Go.ChangeAt Go.RowKit Go.Proofs.Ytnocdminhcpmpaa
theorem own : ownKnob Try.prog.godebug = none := by kernel_rfl
theorem laidOut : laidOutB Try.prog = true := by kernel_rfl

theorem walk (a0 : Int) (a1 : Int) (w : World) (w0 : (Lit.int .u8 a0).wf = true) (w1 : (Lit.int .i64 a1).wf = true) :
    Calls Try.prog 8 #[.int .u8 a0, .int .i64 a1] w fun e w' => e = .returned (.bool true) ∧ Below w.heap.size w w' := by
  have hw0 : 0 ≤ a0 ∧ a0 ≤ 255 := by
    simp [Lit.wf, IntKind.min, IntKind.max, IntKind.bits, IntKind.signed] at w0
    omega
  obtain ⟨x, rfl⟩ : ∃ x : Nat, a0 = (x : Int) := ⟨a0.toNat, by omega⟩
  have hx : x ≤ 255 := by omega
  obtain ⟨N, hN⟩ : ∃ N, N = x % 20 := ⟨_, rfl⟩
  have hN2 : N ≤ 19 := by omega
  have hNt : (x : Int).tmod 20 = (N : Int) := by rw [Int.tmod_eq_emod_of_nonneg (by omega)]; omega
  have HLV := Lib.hid (fun W => level_ok a1 W)
  have hk := lev_le a1
  obtain ⟨k, hke⟩ : ∃ k, levP a1 = k := ⟨_, rfl⟩
  rw [hke] at HLV hk
  have H0 := Lib.hid (ThrS.nil w)
  clear w0 w1 hke hN hw0
  go_enter Try.func8, Try.ntmps8
  go_wp2_with (go_at_call 22; (with_reducible refine (HLV.out _).mono ?_); rintro e u ⟨rfl, rfl⟩)
  clear HLV
  go_loopw [6, 7, 8, 9] (fun v6 v7 v8 v9 wr => ∃ q : Nat, q ≤ N ∧ v9 = .int .i64 (q : Int) ∧ Hid (ThrS w w.heap.size wr v6 v7 v8 (List.replicate q k) (List.range q) (downL N q))) (fun _ _ _ v _ => N - (intOf v).toNat)
  case atStart => exact ⟨0, by omega, rfl, H0⟩
  case round =>
    clear H0
    obtain ⟨q, hqN, rfl, HS⟩ := hrel
    by_cases hlt : q < N
    · obtain ⟨e, he⟩ : ∃ e, N - 1 - q = e := ⟨_, rfl⟩
      have he1 : ((N : Int) - 1 - (q : Int)) = (e : Int) := by omega
      have hE := down_snoc N q
      rw [he] at hE
      have HE := Lib.hid hE
      have hl1 : (inN (List.replicate q k)).length ≤ 1000000000 := by rw [inN_len, List.length_replicate]; omega
      have hl2 : (inN (List.range q)).length ≤ 1000000000 := by rw [inN_len, List.length_range]; omega
      have hl3 : (inN (downL N q)).length ≤ 1000000000 := by rw [inN_len, down_len]; omega
      have h1 := HS.out.m1
      have hb := HS.out.bel.size
      clear he hE
      go_wp2_with (first
        | (at_builtin; (refine wpList_push_far (k := .i64) (bytes := 8) rfl _ _ 22 rfl Try.underlying22 fullI (by decide) w.heap.size _ (inN (List.replicate q k)) (k : Int) _ h1 rfl rfl hb hl1 ?_; intro v1 w1 hM1 hb1 hf1; have S1 := (HS.out.push hM1 hb1 hf1).turn; have h2 := S1.m1; have hbz := S1.bel.size))
        | (at_builtin; (refine wpList_push_far (k := .i64) (bytes := 8) rfl _ _ 22 rfl Try.underlying22 fullI (by decide) w.heap.size _ (inN (List.range q)) (q : Int) _ h2 rfl rfl hbz hl2 ?_; intro v2 w2 hM2 hb2 hf2; have S2 := (S1.push hM2 hb2 hf2).turn; have h3 := S2.m1; have hbz2 := S2.bel.size))
        | (at_builtin; (refine wpList_push_far (k := .i64) (bytes := 8) rfl _ _ 22 rfl Try.underlying22 fullI (by decide) w.heap.size _ (inN (downL N q)) (e : Int) _ h3 rfl rfl hbz2 hl3 ?_; intro v3 w3 hM3 hb3 hf3; have S3 := (S2.push hM3 hb3 hf3).turn)))
      go_roundw
      case rel => exact ⟨q + 1, by omega, by go_num, Lib.hid (by rw [rep_snoc, List.range_succ, HE.out]; exact S3)⟩
      case measure => simp [intOf] <;> omega
    · obtain rfl : q = N := by omega
      obtain ⟨T1, T2, T3, _, _, _, hbel⟩ := HS.out
      obtain ⟨A6, c6, rfl, _, _, s6⟩ := T1.size
      obtain ⟨A7, c7, rfl, _, _, s7⟩ := T2.size
      obtain ⟨A8, c8, rfl, _, _, s8⟩ := T3.size
      have l6 : (inN (List.replicate q k)).length = q := by rw [inN_len, List.length_replicate]
      have l7 : (inN (List.range q)).length = q := by rw [inN_len, List.length_range]
      have l8 : (inN (downL q q)).length = q := by rw [inN_len, down_len]
      rw [l6, l7, l8]
      have HV := Lib.hid (visual_ok A6 q c6 (inN (List.replicate q k)) wr l6.symm (by omega) s6)
      have HT := Lib.hid (fun (W : World) (hb : Below wr.heap.size wr W) => turns_ok A6 q c6 (inN (List.replicate q k)) W l6.symm (by omega) (s6.carry hb))
      have hb0 := hbel.size
      rw [ord_rep q k (by omega)] at HV
      rw [trn_rep q k (by omega)] at HT
      rw [down_all] at s8 l8
      have hmod := nat_mod2 k
      have HBL := Lib.hid hbel
      clear T1 T2 T3 HS hbel s6 l6
      rcases hmod with ⟨ho, ho2⟩ | ⟨ho, ho2⟩
      · rw [if_neg (by omega)] at HV HT
        have HS1 := Lib.hid (fun A c W h1 h2 => same1_ok A A8 c c8 q (inN (List.range q).reverse) W l8.symm (by omega) h1 h2)
        obtain ⟨mn, hmn⟩ : ∃ mn, min 1 q = mn := ⟨_, rfl⟩
        rw [hmn] at HT
        have HMN := Lib.hid hmn
        have L8 := Lib.hid l8
        have S8 := Lib.hid s8
        clear l7 s7 hmn l8 s8
        go_wp2_with (first
          | (go_at_call 11; (with_reducible refine HV.out.mono ?_); rintro e z1 ⟨v, rfl, m1, b1⟩; obtain ⟨A1, c1, rfl, _, _, s1⟩ := m1.size; rw [L8.out]; have s8' := S8.out.carry b1)
          | (go_at_call 10; (with_reducible refine (HS1.out A1 c1 _ s1 s8').mono ?_); rintro e z2 ⟨rfl, q2, rfl⟩; have b2 := below_drewN b1 q2)
          | (go_at_call 18; (with_reducible refine (HT.out _ b2).mono ?_); rintro e z3 ⟨rfl, rfl⟩))
        · have e : ((mn : Int) == (q : Int)) = true := by
            have h : (mn : Int) = (q : Int) := by have := HMN.out; omega
            rw [h]; simp
          go_ret
          exact ⟨by show Ending.returned (Value.bool ((mn : Int) == (q : Int))) = _; rw [e], HBL.out.trans (b2.mono HBL.out.size)⟩
        · have e : ((mn : Int) == 1) = true := by
            have h : (mn : Int) = 1 := by have := HMN.out; omega
            rw [h]; simp
          go_ret
          exact ⟨by show Ending.returned (Value.bool ((mn : Int) == 1)) = _; rw [e], HBL.out.trans (b2.mono HBL.out.size)⟩
      · rw [if_pos ho] at HV HT
        have HS1 := Lib.hid (fun A c W h1 h2 => same1_ok A A7 c c7 q (inN (List.range q)) W l7.symm (by omega) h1 h2)
        have L7 := Lib.hid l7
        have S7 := Lib.hid s7
        clear l7 s7 l8 s8
        go_wp2_with (first
          | (go_at_call 11; (with_reducible refine HV.out.mono ?_); rintro e z1 ⟨v, rfl, m1, b1⟩; obtain ⟨A1, c1, rfl, _, _, s1⟩ := m1.size; rw [L7.out]; have s7' := S7.out.carry b1)
          | (go_at_call 10; (with_reducible refine (HS1.out A1 c1 _ s1 s7').mono ?_); rintro e z2 ⟨rfl, q2, rfl⟩; have b2 := below_drewN b1 q2)
          | (go_at_call 18; (with_reducible refine (HT.out _ b2).mono ?_); rintro e z3 ⟨rfl, rfl⟩))
        go_ret
        exact ⟨rfl, HBL.out.trans (b2.mono HBL.out.size)⟩

set_option maxRecDepth 100000 in
theorem lifted (os : Os) (started : os.Started) (H : Type) (enc : TypeId × Value → H) :
    ReturnsInHanded {} Try.checked os 8 .any (Rows.reorderFlatSpec.pre6 enc Try.prog Try.f8 Rows.reorderFlatRow.domain false) (Rows.reorderFlatSpec.post enc Try.prog Try.f8 false true false false) := by
  refine returnsInHanded_of_change (C := Try.checked) own started (by kernel_rfl) Try.func8
    (ChangeSpec.witness6 (enc := enc) (C := Try.checked) false ⟨#[], #[.int .u8 0, .int .i64 0], []⟩ 8 (by kernel_rfl) (by kernel_rfl) (by kernel_rfl) (by kernel_rfl)) ?_
  intro W base args ds gs before hval0 hW hcnd _
  have hval : ∀ (j : Nat) t v, Try.f8.params[j]? = some t → args[j]? = some v → Value.okWide Try.prog W .any base t v := hval0
  have hW' := hW
  obtain ⟨p, q, hA0, hV, rfl, hfz, hnd⟩ := hW
  have hA : DataW.TrodAll enc Try.prog W 0 (fun _ => true) true Try.f8.params.toList args.toList ds p := hA0
  rw [Try.params8] at hA hval
  obtain ⟨v0, vs0, d0, ds0, p0, q0, hargs, rfl, rfl, h0, r0⟩ := trodAll_cons hA
  obtain ⟨v1, vs1, d1, ds1, p1, q1, rfl, rfl, rfl, h1, r1⟩ := trodAll_cons r0
  obtain ⟨rfl, rfl, rfl⟩ := trodAll_nil r1
  obtain rfl : args = #[v0, v1] := by cases args; simp_all
  obtain ⟨rfl, rfl⟩ := trodVars_none hV
  clear hA0 hval0
  have hlt : ∀ x ∈ p0 ++ (p1 ++ []), x.block < W.heap.size := fun x hx => by simpa using hW'.lt x (List.mem_append_left _ hx)
  have k0 := h0
  have k1 := h1
  obtain ⟨a0, rfl, rfl, rfl, w0⟩ := open_int Try.underlying5 (hval 0 5 v0 rfl rfl) h0
  obtain ⟨a1, rfl, rfl, rfl, w1⟩ := open_int Try.underlying3 (hval 1 3 v1 rfl rfl) h1
  refine (walk a0 a1 W w0 w1).mono fun e W' ⟨he, hb⟩ => ?_
  subst he
  exact ⟨_, rfl, _, _, _, [], _, [], hW', (trodAll_cons_mk (shut_bool Try.underlying4 _) trodAll_mk0), (trodAll_cons_mk (Below.trod laidOut (by kernel_rfl) (of_decide_eq_true (by kernel_rfl)) k0 hb (fun x hx => hlt x (List.mem_append_left _ hx))) (trodAll_cons_mk (Below.trod laidOut (by kernel_rfl) (of_decide_eq_true (by kernel_rfl)) k1 hb (fun x hx => hlt x (List.mem_append_right _ (List.mem_append_left _ hx)))) trodAll_mk0)), rfl, hb.frame _, fun h => by cases h⟩

theorem over : Rows.reorderFlatRow.holds Try.pinned (OpenSpec.ofChange Rows.reorderFlatSpec) :=
  OpenClaim.holds_of_wide 8 Try.f8 rfl rfl rfl rfl rfl rfl rfl ⟨rfl, rfl, rfl, rfl, rfl⟩ rfl rfl rfl rfl rfl (by kernel_rfl) Try.func8 (by kernel_rfl)
    (of_decide_eq_true (by kernel_rfl)) (by unfold Func.isWrapper; first | (rw [if_pos (by decide +kernel)]; kernel_rfl) | (rw [if_neg (by decide +kernel)]; exact ⟨rfl, rfl⟩))
    (fun os started H enc _ => lifted os started H enc)

/-- the statement -/
theorem proved : Rows.ReorderFlatSaid :=
  over
#print axioms proved
end Go.Proofs.Ytnocdminhcpmpaa.reorderFlat
