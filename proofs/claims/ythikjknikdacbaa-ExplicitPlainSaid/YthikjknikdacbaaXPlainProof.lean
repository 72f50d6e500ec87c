/-
  For every []int and both bases the statement ExplicitPlain returns true: without explicit signs all levels are the base, all classes are what they were, and the depth is the base. No condition.
-/
import Derived.Test.YthikjknikdacbaaHas
import Derived.Test.YthikjknikdacbaaXtj
set_option linter.unusedVariables false
namespace Go.Proofs.Ythikjknikdacbaa.explicitPlain
open Go.ChangeShapes Go.WideShapes Go.ChangeAt Go.RowKit Go.Proofs.Ythikjknikdacbaa
theorem own : ownKnob Try.prog.godebug = none := by kernel_rfl
theorem laidOut : laidOutB Try.prog = true := by kernel_rfl


theorem plains (z : List Int) (k : Nat) (h : k < z.length) : (z.take (k + 1)).map plainI = (z.take k).map plainI ++ [plainI (z[k])] := by
  rw [List.take_succ_eq_append_getElem h, List.map_append]
  rfl
theorem plain_plain (z : Int) : plainC (plainI z) := by
  have h := plainI_bnd z
  generalize plainI z = q at h ⊢
  unfold plainC remC
  simp only [Bool.or_eq_false_iff, beq_eq_false_iff_ne]
  omega
theorem lv_plain (b : Nat) (l : List Int) (h : ∀ c ∈ l, plainC c) : lvI b l l.length = List.replicate l.length (b : Int) ∧ clN b l l.length = l ∧ depL b l = b := by
  obtain ⟨h1, h2⟩ := plain_all b l h
  refine ⟨?_, h2, dep_plain b l h⟩
  unfold lvI
  have h3 : lvN b l l.length = List.replicate l.length b := h1
  rw [h3, List.map_replicate]
  rfl

set_option maxRecDepth 20000 in
set_option maxHeartbeats 8000000 in
theorem walk (A0 : Option Addr) (c0 : Nat) (z0 : List Int) (a1 : Bool) (w : World) (n0 : z0.length ≤ 9223372036854775807) (m0 : z0.length ≤ c0) (w0 : ∀ z ∈ z0, (Lit.int .i64 z).wf = true) (h0 : Has w w.heap.size A0 (z0.map (Value.int .i64))) :
    Calls Try.prog 5 #[.slice A0 z0.length c0, .bool a1] w fun e w' => e = .returned (.bool true) ∧ Below w.heap.size w w' := by
  by_cases hl : 200 < z0.length
  · have HLO := Lib.hid (fun w => long_ok A0 z0.length c0 w)
    rw [decide_eq_true hl] at HLO
    clear w0 m0 h0
    go_enter Try.func5, Try.ntmps5
    go_wp2_with (go_at_call 8; (with_reducible refine (HLO.out _).mono ?_); rintro e u ⟨rfl, rfl⟩)
    go_ret
    exact ⟨rfl, Below.refl _ _⟩
  have HLO := Lib.hid (fun w => long_ok A0 z0.length c0 w)
  rw [decide_eq_false hl] at HLO
  obtain ⟨b, hb, hab⟩ : ∃ b : Nat, b ≤ 1 ∧ ((a1 = true ∧ b = 1) ∨ (a1 = false ∧ b = 0)) := by cases a1 <;> simp
  obtain ⟨P, hP⟩ : ∃ P, z0.map plainI = P := ⟨_, rfl⟩
  have hPl : P.length = z0.length := by rw [← hP, List.length_map]
  have hPp : ∀ c ∈ P, plainC c := fun c hc => by
    rw [← hP, List.mem_map] at hc
    obtain ⟨z, _, rfl⟩ := hc
    exact plain_plain z
  obtain ⟨q1, q2, q3⟩ := lv_plain b P hPp
  have HL : Hid (∀ A c W, P.length ≤ c → Has W W.heap.size A (P.map (Value.int .i64)) → _) := Lib.hid (fun A c W hc hh => levels_ok A P.length c b P W rfl hc (by omega) hb hh)
  have HD : Hid (∀ A c W, P.length ≤ c → Has W W.heap.size A (P.map (Value.int .i64)) → _) := Lib.hid (fun A c W hc hh => depth_ok A P.length c b P W rfl hc (by omega) hb hh)
  rw [q1, q2] at HL
  rw [q3] at HD
  have HN := Lib.hid hPl
  rw [hPl] at HL HD
  have HP := Lib.hid hP
  have HW := Lib.hid w0
  have HH := Lib.hid (fun W (hW : Below w.heap.size w W) => h0.carry hW)
  have hn : z0.length ≤ 200 := by omega
  obtain ⟨n, hnn⟩ : ∃ n, z0.length = n := ⟨_, rfl⟩
  have HZ := Lib.hid hnn
  rw [hnn] at HL HD hn HLO HN ⊢
  clear w0 m0 n0 h0 hP hPl hPp q1 q2 q3 hl hnn
  rcases hab with ⟨rfl, hb1⟩ | ⟨rfl, hb1⟩
  · have hbi : (b : Int) = 1 := by omega
    simp only [hbi] at HL HD
    clear hbi hb
    go_enter Try.func5, Try.ntmps5
    go_wp2_with (go_at_call 8; (with_reducible refine (HLO.out _).mono ?_); rintro e u ⟨rfl, rfl⟩)
    go_loopw [6, 7, 8] (fun v6 v7 v8 wr => ∃ k : Nat, k ≤ n ∧ v8 = .int .i64 k ∧ Hid (Mine .i64 3 wr w.heap.size v6 ((z0.take k).map plainI)) ∧ Hid (Mine .i64 3 wr w.heap.size v7 (List.replicate k 1)) ∧ Hid (Apart v6 v7) ∧ Below w.heap.size w wr) (fun _ _ v8 _ => n - (intOf v8).toNat)
    case atStart => exact ⟨0, by omega, rfl, Lib.hid (Mine.nil_ _ _ _ _), Lib.hid (Mine.nil_ _ _ _ _), Lib.hid (apart_nil _), Below.refl _ _⟩
    case round =>
      obtain ⟨k, hkn, rfl, H6, H7, HA, hbw⟩ := hrel
      by_cases hlt : k < n
      · have hk1 : k < z0.length := by have := HZ.out; omega
        obtain ⟨b0, o0, rfl, hb0, hcc⟩ := (HH.out wr hbw).at_int hk1
        have HS := Lib.hid (plains z0 k hk1)
        have HPL := Lib.hid (fun W => plain_ok z0[k] (HW.out _ (List.getElem_mem hk1)) W)
        have HK : Hid (((z0.take k).map plainI).length ≤ 1000) := Lib.hid (by rw [List.length_map, List.length_take]; omega)
        have h6 := H6.out
        have h7 := H7.out
        generalize z0[k] = X at *
        generalize plainI X = PX at *
        generalize (z0.take k).map plainI = Q at *
        have hK2 : (List.replicate k (1 : Int)).length ≤ 1000 := by rw [List.length_replicate]; omega
        have HK2 := Lib.hid hK2
        clear hk1 hb0 hK2
        go_wp2_with (first
          | (go_at_call 16; (refine (HPL.out _).mono ?_); rintro e u1 ⟨rfl, rfl⟩)
          | (at_builtin; first
              | (refine wpList_push_far (k := .i64) (bytes := 8) rfl _ _ 22 rfl Try.underlying22 fullI (by decide) w.heap.size u6 Q PX _ h6 rfl rfl hbw.size (by have := HK.out; omega) ?_; intro v6' w6 hM6 hb6 hf6; have h7' := h7.stays (w' := w6) fun b h1 h2 => (hf6 b h2 (fun e => HA.out b e h1)).2; have hbw6 := hbw.trans hb6; have ha6 : Apart v6' u7 := (fun b h1 h2 => (hf6 b (h7.own_lt b h2).2 (fun e => HA.out b e h2)).1 h1))
              | (refine wpList_push_far (k := .i64) (bytes := 8) rfl _ _ 22 rfl Try.underlying22 fullI (by decide) w.heap.size u7 (List.replicate k 1) 1 _ h7' rfl rfl hbw6.size (by have := HK2.out; omega) ?_; intro v7' w7 hM7 hb7 hf7; have h6' := hM6.stays (w' := w7) fun b h1 h2 => (hf7 b h2 (ha6 b h1)).2; have hbw7 := hbw6.trans hb7; have ha7 : Apart v6' v7' := (fun b h1 h2 => (hf7 b (hM6.own_lt b h1).2 (ha6 b h1)).1 h2))))
        go_roundw
        case rel => exact ⟨k + 1, by omega, by go_num, Lib.hid (by rw [HS.out]; exact h6'), Lib.hid (by rw [List.replicate_succ']; exact hM7), Lib.hid ha7, hbw7⟩
        case measure => simp [intOf] <;> omega
      · obtain rfl : k = n := by omega
        have h6 := H6.out
        rw [show z0.take k = z0 from List.take_of_length_le (by rw [HZ.out]; exact Nat.le_refl _), HP.out] at h6
        obtain ⟨A6, c6, rfl, hc6, _, g6⟩ := h6.size
        obtain ⟨A7, c7, rfl, hc7, _, g7⟩ := H7.out.size
        have HR : Hid ((List.replicate k (1 : Int)).length = k) := Lib.hid (by simp)
        rw [HN.out] at hc6
        have HL6 := Lib.hid (HL.out A6 c6 wr hc6 g6)
        rw [HR.out, HN.out]
        have HD6 := Lib.hid (fun W hh => HD.out A6 c6 W hc6 hh)
        clear h6 H6 H7 HA HL HD
        go_wp2_with (first
          | (go_at_call 9; (refine HL6.out.mono ?_); rintro e u1 ⟨v1, v2, rfl, h1, h2, hb1⟩; obtain ⟨A1, c1, rfl, _, _, g1⟩ := h1.size; obtain ⟨A2, c2, rfl, _, _, g2⟩ := h2.size; rw [HR.out, HN.out]; have k6 := g6.carry hb1; have k7 := g7.carry hb1)
          | (go_at_call 11; first
              | (with_reducible refine (eqs_ok A1 A7 c1 c7 k (List.replicate k 1) u1 HR.out.symm (by omega) g1 k7).mono ?_; rintro e u3 ⟨rfl, hb3⟩; have k2 := g2.carry hb3; have k8 := k6.carry hb3)
              | (with_reducible refine (eqs_ok A2 A6 c2 c6 k P u3 HN.out.symm (by omega) k2 k8).mono ?_; rintro e u4 ⟨rfl, hb4⟩; have k9 := k8.carry hb4))
          | (go_at_call 12; (refine (HD6.out u4 k9).mono ?_); rintro e u5 ⟨rfl, hb5⟩))
        go_ret
        exact ⟨rfl, (((hbw.trans (hb1.mono hbw.size)).trans (hb3.mono (Nat.le_trans hbw.size hb1.size))).trans (hb4.mono (Nat.le_trans (Nat.le_trans hbw.size hb1.size) hb3.size))).trans (hb5.mono (Nat.le_trans (Nat.le_trans (Nat.le_trans hbw.size hb1.size) hb3.size) hb4.size))⟩
  · have hbi : (b : Int) = 0 := by omega
    simp only [hbi] at HL HD
    clear hbi hb
    go_enter Try.func5, Try.ntmps5
    go_wp2_with (go_at_call 8; (with_reducible refine (HLO.out _).mono ?_); rintro e u ⟨rfl, rfl⟩)
    go_loopw [6, 7, 8] (fun v6 v7 v8 wr => ∃ k : Nat, k ≤ n ∧ v8 = .int .i64 k ∧ Hid (Mine .i64 3 wr w.heap.size v6 ((z0.take k).map plainI)) ∧ Hid (Mine .i64 3 wr w.heap.size v7 (List.replicate k 0)) ∧ Hid (Apart v6 v7) ∧ Below w.heap.size w wr) (fun _ _ v8 _ => n - (intOf v8).toNat)
    case atStart => exact ⟨0, by omega, rfl, Lib.hid (Mine.nil_ _ _ _ _), Lib.hid (Mine.nil_ _ _ _ _), Lib.hid (apart_nil _), Below.refl _ _⟩
    case round =>
      obtain ⟨k, hkn, rfl, H6, H7, HA, hbw⟩ := hrel
      by_cases hlt : k < n
      · have hk1 : k < z0.length := by have := HZ.out; omega
        obtain ⟨b0, o0, rfl, hb0, hcc⟩ := (HH.out wr hbw).at_int hk1
        have HS := Lib.hid (plains z0 k hk1)
        have HPL := Lib.hid (fun W => plain_ok z0[k] (HW.out _ (List.getElem_mem hk1)) W)
        have HK : Hid (((z0.take k).map plainI).length ≤ 1000) := Lib.hid (by rw [List.length_map, List.length_take]; omega)
        have h6 := H6.out
        have h7 := H7.out
        generalize z0[k] = X at *
        generalize plainI X = PX at *
        generalize (z0.take k).map plainI = Q at *
        have hK2 : (List.replicate k (0 : Int)).length ≤ 1000 := by rw [List.length_replicate]; omega
        have HK2 := Lib.hid hK2
        clear hk1 hb0 hK2
        go_wp2_with (first
          | (go_at_call 16; (refine (HPL.out _).mono ?_); rintro e u1 ⟨rfl, rfl⟩)
          | (at_builtin; first
              | (refine wpList_push_far (k := .i64) (bytes := 8) rfl _ _ 22 rfl Try.underlying22 fullI (by decide) w.heap.size u6 Q PX _ h6 rfl rfl hbw.size (by have := HK.out; omega) ?_; intro v6' w6 hM6 hb6 hf6; have h7' := h7.stays (w' := w6) fun b h1 h2 => (hf6 b h2 (fun e => HA.out b e h1)).2; have hbw6 := hbw.trans hb6; have ha6 : Apart v6' u7 := (fun b h1 h2 => (hf6 b (h7.own_lt b h2).2 (fun e => HA.out b e h2)).1 h1))
              | (refine wpList_push_far (k := .i64) (bytes := 8) rfl _ _ 22 rfl Try.underlying22 fullI (by decide) w.heap.size u7 (List.replicate k 0) 0 _ h7' rfl rfl hbw6.size (by have := HK2.out; omega) ?_; intro v7' w7 hM7 hb7 hf7; have h6' := hM6.stays (w' := w7) fun b h1 h2 => (hf7 b h2 (ha6 b h1)).2; have hbw7 := hbw6.trans hb7; have ha7 : Apart v6' v7' := (fun b h1 h2 => (hf7 b (hM6.own_lt b h1).2 (ha6 b h1)).1 h2))))
        go_roundw
        case rel => exact ⟨k + 1, by omega, by go_num, Lib.hid (by rw [HS.out]; exact h6'), Lib.hid (by rw [List.replicate_succ']; exact hM7), Lib.hid ha7, hbw7⟩
        case measure => simp [intOf] <;> omega
      · obtain rfl : k = n := by omega
        have h6 := H6.out
        rw [show z0.take k = z0 from List.take_of_length_le (by rw [HZ.out]; exact Nat.le_refl _), HP.out] at h6
        obtain ⟨A6, c6, rfl, hc6, _, g6⟩ := h6.size
        obtain ⟨A7, c7, rfl, hc7, _, g7⟩ := H7.out.size
        have HR : Hid ((List.replicate k (0 : Int)).length = k) := Lib.hid (by simp)
        rw [HN.out] at hc6
        have HL6 := Lib.hid (HL.out A6 c6 wr hc6 g6)
        rw [HR.out, HN.out]
        have HD6 := Lib.hid (fun W hh => HD.out A6 c6 W hc6 hh)
        clear h6 H6 H7 HA HL HD
        go_wp2_with (first
          | (go_at_call 9; (refine HL6.out.mono ?_); rintro e u1 ⟨v1, v2, rfl, h1, h2, hb1⟩; obtain ⟨A1, c1, rfl, _, _, g1⟩ := h1.size; obtain ⟨A2, c2, rfl, _, _, g2⟩ := h2.size; rw [HR.out, HN.out]; have k6 := g6.carry hb1; have k7 := g7.carry hb1)
          | (go_at_call 11; first
              | (with_reducible refine (eqs_ok A1 A7 c1 c7 k (List.replicate k 0) u1 HR.out.symm (by omega) g1 k7).mono ?_; rintro e u3 ⟨rfl, hb3⟩; have k2 := g2.carry hb3; have k8 := k6.carry hb3)
              | (with_reducible refine (eqs_ok A2 A6 c2 c6 k P u3 HN.out.symm (by omega) k2 k8).mono ?_; rintro e u4 ⟨rfl, hb4⟩; have k9 := k8.carry hb4))
          | (go_at_call 12; (refine (HD6.out u4 k9).mono ?_); rintro e u5 ⟨rfl, hb5⟩))
        go_ret
        exact ⟨rfl, (((hbw.trans (hb1.mono hbw.size)).trans (hb3.mono (Nat.le_trans hbw.size hb1.size))).trans (hb4.mono (Nat.le_trans (Nat.le_trans hbw.size hb1.size) hb3.size))).trans (hb5.mono (Nat.le_trans (Nat.le_trans (Nat.le_trans hbw.size hb1.size) hb3.size) hb4.size))⟩

set_option maxRecDepth 100000 in
theorem lifted (os : Os) (started : os.Started) (H : Type) (enc : TypeId × Value → H) :
    ReturnsInHanded {} Try.checked os 5 .any (Rows.explicitPlainSpec.pre6 enc Try.prog Try.f5 Rows.explicitPlainRow.domain false) (Rows.explicitPlainSpec.post enc Try.prog Try.f5 false true false false) := by
  refine returnsInHanded_of_change (C := Try.checked) own started (by kernel_rfl) Try.func5
    (ChangeSpec.witness6 (enc := enc) (C := Try.checked) false ⟨#[], #[.slice none 0 0, .bool false], []⟩ 8 (by kernel_rfl) (by kernel_rfl) (by kernel_rfl) (by kernel_rfl)) ?_
  intro W base args ds gs before hval0 hW hcnd _
  have hval : ∀ (j : Nat) t v, Try.f5.params[j]? = some t → args[j]? = some v → Value.okWide Try.prog W .any base t v := hval0
  have hW' := hW
  obtain ⟨p, q, hA0, hV, rfl, hfz, hnd⟩ := hW
  have hA : DataW.TrodAll enc Try.prog W 0 (fun _ => true) true Try.f5.params.toList args.toList ds p := hA0
  rw [Try.params5] at hA hval
  obtain ⟨v0, vs0, d0, ds0, p0, q0, hargs, rfl, rfl, h0, r0⟩ := trodAll_cons hA
  obtain ⟨v1, vs1, d1, ds1, p1, q1, rfl, rfl, rfl, h1, r1⟩ := trodAll_cons r0
  obtain ⟨rfl, rfl, rfl⟩ := trodAll_nil r1
  obtain rfl : args = #[v0, v1] := by cases args; simp_all
  obtain ⟨rfl, rfl⟩ := trodVars_none hV
  clear hA0 hval0
  have hlt : ∀ x ∈ p0 ++ (p1 ++ []), x.block < W.heap.size := fun x hx => by simpa using hW'.lt x (List.mem_append_left _ hx)
  have k0 := h0
  have k1 := h1
  obtain ⟨A0, l0, c0, rfl⟩ := okWide_slice Try.underlying22 (hval 0 22 v0 rfl rfl)
  obtain ⟨z0, rfl, n0, m0, w0, hh0⟩ := has_ints Try.underlying22 Try.underlying3 (by kernel_rfl) h0 (fun x hx => hlt x (List.mem_append_left _ hx))
  obtain ⟨a1, rfl, rfl, rfl⟩ := open_bool Try.underlying4 (hval 1 4 v1 rfl rfl) h1
  refine (walk A0 c0 z0 a1 W n0 m0 w0 hh0).mono fun e W' ⟨he, hb⟩ => ?_
  subst he
  exact ⟨_, rfl, _, _, _, [], _, [], hW', (trodAll_cons_mk (shut_bool Try.underlying4 _) trodAll_mk0), (trodAll_cons_mk (Below.trod laidOut (by kernel_rfl) (of_decide_eq_true (by kernel_rfl)) k0 hb (fun x hx => hlt x (List.mem_append_left _ hx))) (trodAll_cons_mk (Below.trod laidOut (by kernel_rfl) (of_decide_eq_true (by kernel_rfl)) k1 hb (fun x hx => hlt x (List.mem_append_right _ (List.mem_append_left _ hx)))) trodAll_mk0)), rfl, hb.frame _, fun h => by cases h⟩

theorem over : Rows.explicitPlainRow.holds Try.pinned (OpenSpec.ofChange Rows.explicitPlainSpec) :=
  OpenClaim.holds_of_wide 5 Try.f5 rfl rfl rfl rfl rfl rfl rfl ⟨rfl, rfl, rfl, rfl, rfl⟩ rfl rfl rfl rfl rfl (by kernel_rfl) Try.func5 (by kernel_rfl)
    (of_decide_eq_true (by kernel_rfl)) (by unfold Func.isWrapper; first | (rw [if_pos (by decide +kernel)]; kernel_rfl) | (rw [if_neg (by decide +kernel)]; exact ⟨rfl, rfl⟩))
    (fun os started H enc _ => lifted os started H enc)

/-- the statement -/
theorem proved : Rows.ExplicitPlainSaid :=
  over
#print axioms proved
end Go.Proofs.Ythikjknikdacbaa.explicitPlain
