/-
  For every []int and both bases the statement ExplicitKeeps returns true: levels are from the base to 125, what is removed is BN at the level before it, every other class is what it was or an override's. No condition.
-/
import Derived.Test.YthikjknikdacbaaHas
import Derived.Test.YthikjknikdacbaaXtj
set_option linter.unusedVariables false
namespace Go.Proofs.Ythikjknikdacbaa.explicitKeeps
open Go.ChangeShapes Go.WideShapes Go.ChangeAt Go.RowKit Go.Proofs.Ythikjknikdacbaa
theorem own : ownKnob Try.prog.godebug = none := by kernel_rfl
theorem laidOut : laidOutB Try.prog = true := by kernel_rfl


theorem keeps_at (b : Nat) (cs : List Int) (hb : b ≤ 125) (i : Nat) (hi : i < cs.length) :
    ∃ X Y : Int, (lvI b cs cs.length)[i]? = some X ∧ (clN b cs cs.length)[i]? = some Y ∧ ((b : Int) ≤ X ∧ X ≤ 125) ∧ (remC cs[i] = true → Y = 10 ∧ (0 < i → (lvI b cs cs.length)[i - 1]? = some X) ∧ (i = 0 → X = b)) ∧ (remC cs[i] = false → Y = cs[i] ∨ Y = 1 ∨ Y = 2) := by
  obtain ⟨h1, h2, h3⟩ := keeps_all b cs hb i hi
  rw [getD_get cs i hi] at h2 h3
  have hl : (lvL b cs).length = cs.length := lvL_len b cs
  have hc : (clL b cs).length = cs.length := clL_len b cs
  have hx : ∀ j, j < cs.length → (lvI b cs cs.length)[j]? = some (((lvL b cs).getD j 0 : Nat) : Int) := fun j hj => by
    show ((lvL b cs).map Int.ofNat)[j]? = _
    rw [List.getElem?_map, List.getD_eq_getElem?_getD, List.getElem?_eq_getElem (by omega)]
    rfl
  refine ⟨_, (clL b cs).getD i 0, hx i hi, ?_, by omega, fun hr => ?_, h3⟩
  · show (clL b cs)[i]? = _
    rw [List.getD_eq_getElem?_getD, List.getElem?_eq_getElem (by omega)]
    rfl
  · obtain ⟨k1, k2, k3⟩ := h2 hr
    refine ⟨k1, fun h0 => ?_, fun h0 => by rw [k3 h0]⟩
    rw [hx (i - 1) (by omega), k2 h0]

theorem int_at {w : World} {B : Nat} {A : Option Addr} {l : List Int} (h : Has w B A (l.map (Value.int .i64))) {k : Nat} {x : Int} (hk : l[k]? = some x) : ∃ b off, A = some ⟨b, off, none⟩ ∧ w.cell? ⟨b, off + k, none⟩ = some (.int .i64 x) := by
  have hlt : k < l.length := (List.getElem?_eq_some_iff.1 hk).1
  obtain ⟨b, off, e, _, hc⟩ := h.at_int hlt
  rw [(List.getElem?_eq_some_iff.1 hk).2] at hc
  exact ⟨b, off, e, hc⟩

set_option maxRecDepth 20000 in
set_option maxHeartbeats 8000000 in
theorem walk (A0 : Option Addr) (c0 : Nat) (z0 : List Int) (a1 : Bool) (w : World) (n0 : z0.length ≤ 9223372036854775807) (m0 : z0.length ≤ c0) (w0 : ∀ z ∈ z0, (Lit.int .i64 z).wf = true) (h0 : Has w w.heap.size A0 (z0.map (Value.int .i64))) :
    Calls Try.prog 6 #[.slice A0 z0.length c0, .bool a1] w fun e w' => e = .returned (.bool true) ∧ Below w.heap.size w w' := by
  by_cases hl : 200 < z0.length
  · have HLO := Lib.hid (fun w => long_ok A0 z0.length c0 w)
    rw [decide_eq_true hl] at HLO
    clear w0 m0 h0
    go_enter Try.func6, Try.ntmps6
    go_wp2_with (go_at_call 8; (with_reducible refine (HLO.out _).mono ?_); rintro e u ⟨rfl, rfl⟩)
    go_ret
    exact ⟨rfl, Below.refl _ _⟩
  have HLO := Lib.hid (fun w => long_ok A0 z0.length c0 w)
  rw [decide_eq_false hl] at HLO
  obtain ⟨b, hb, hab⟩ : ∃ b : Nat, b ≤ 1 ∧ ((a1 = true ∧ b = 1) ∨ (a1 = false ∧ b = 0)) := by cases a1 <;> simp
  have HL := Lib.hid (levels_ok A0 z0.length c0 b z0 w rfl m0 (by omega) hb h0)
  have HK := Lib.hid (keeps_at b z0 (by omega))
  have HLL : Hid ((lvI b z0 z0.length).length = z0.length) := Lib.hid (by unfold lvI; rw [List.length_map, lvN_len b z0 _ (Nat.le_refl _)])
  have HCL : Hid ((clN b z0 z0.length).length = z0.length) := Lib.hid (clN_len b z0 _ (Nat.le_refl _))
  have HH := Lib.hid (fun W (hW : Below w.heap.size w W) => h0.carry hW)
  have hn : z0.length ≤ 200 := by omega
  generalize lvI b z0 z0.length = L at *
  generalize clN b z0 z0.length = C at *
  obtain ⟨n, hnn⟩ : ∃ n, z0.length = n := ⟨_, rfl⟩
  have HZ := Lib.hid hnn
  rw [hnn] at HL hn HLO HLL HCL ⊢
  clear w0 m0 n0 h0 hl hnn
  rcases hab with ⟨rfl, hb1⟩ | ⟨rfl, hb1⟩
  · have hbi : (b : Int) = 1 := by omega
    simp only [hbi] at HL HK
    clear hbi hb
    go_enter Try.func6, Try.ntmps6
    go_wp2_with (first
      | (go_at_call 8; (with_reducible refine (HLO.out _).mono ?_); rintro e u ⟨rfl, rfl⟩)
      | (go_at_call 9; (refine HL.out.mono ?_); rintro e u1 ⟨v1, v2, rfl, h1, h2, hb1⟩; obtain ⟨A1, c1, rfl, _, _, g1⟩ := h1.size; obtain ⟨A2, c2, rfl, _, _, g2⟩ := h2.size; rw [HLL.out, HCL.out]))
    clear h1 h2
    have g0 := HH.out u1 hb1
    go_loopw [8] (fun v8 wr => ∃ k : Nat, k ≤ n ∧ v8 = .int .i64 k ∧ ∃ q, wr = u1.drewN q) (fun v8 _ => n - (intOf v8).toNat)
    case atStart => exact ⟨0, by omega, rfl, 0, rfl⟩
    case round =>
      obtain ⟨k, hkn, rfl, q, rfl⟩ := hrel
      by_cases hlt : k < n
      · have hk1 : k < z0.length := by have := HZ.out; omega
        obtain ⟨X, Y, p1, p2, p3, p4, p5⟩ := HK.out k hk1
        obtain ⟨b0, o0, rfl, hcc⟩ := int_at g0 (List.getElem?_eq_getElem hk1)
        obtain ⟨b1, o1, rfl, hc1⟩ := int_at g1 p1
        obtain ⟨b2, o2, rfl, hc2⟩ := int_at g2 p2
        generalize z0[k] = Z at *
        have HREM := Lib.hid (fun W => removed_ok Z W)
        have x1 : ¬ X < 1 := by omega
        have x2 : ¬ 125 < X := by omega
        cases hr : remC Z with
        | true =>
          rw [hr] at HREM
          obtain ⟨rfl, r1, r2⟩ := p4 hr
          rcases Nat.eq_zero_or_pos k with rfl | hk0
          · obtain rfl : X = 1 := r2 rfl
            simp only [Nat.add_zero] at hcc hc1 hc2
            clear p1 p2 p3 p4 p5 r1 r2 hr g0 g1 g2 hk1
            go_wp2_with (go_at_call 14; (refine (HREM.out _).mono ?_); rintro e u3 ⟨rfl, rfl⟩)
            go_quiet (fail)
            go_wp2
            go_roundw
            case rel => exact ⟨0 + 1, by omega, by go_num, _, rfl⟩
            case measure => simp [intOf] <;> omega
          · have r3 := r1 hk0
            obtain ⟨b3, o3, hA, hc3⟩ := int_at g1 r3
            injection hA with hA; injection hA with e1 e2; subst e1; subst e2
            have k0 : (0 : Int) ≤ ((k - 1 : Nat) : Int) := by omega
            have k1 : ((k - 1 : Nat) : Int) < (n : Int) := by omega
            have k2 : k - 1 < n := by omega
            have k3 : decide ((0 : Int) < (k : Int)) = true := decide_eq_true (by omega)
            have k4 : ((k : Int) == 0) = false := beq_eq_false_iff_ne.2 (by omega)
            have kw : IntKind.i64.wrap ((k : Int) - 1) = ((k - 1 : Nat) : Int) := by rw [IntWalk.i64_in _ (by omega)]; omega
            clear p1 p2 p3 p4 p5 r1 r2 r3 hr g0 g1 g2 hk1
            go_wp2_with (go_at_call 14; (refine (HREM.out _).mono ?_); rintro e u3 ⟨rfl, rfl⟩)
            go_quiet (fail)
            clear kw
            go_wp2
            go_roundw
            case rel => exact ⟨k + 1, by omega, by go_num, _, rfl⟩
            case measure => simp [intOf] <;> omega
        | false =>
          rw [hr] at HREM
          have p6 := p5 hr
          have hcase : Y = Z ∨ (Y ≠ Z ∧ Y = 1) ∨ (Y ≠ Z ∧ Y = 2) := by
            by_cases h : Y = Z
            · exact .inl h
            · rcases p6 with h1 | h1 | h1
              · exact absurd h1 h
              · exact .inr (.inl ⟨h, h1⟩)
              · exact .inr (.inr ⟨h, h1⟩)
          clear p1 p2 p3 p4 p5 p6 hr g0 g1 g2 hk1
          rcases hcase with rfl | ⟨hne, rfl⟩ | ⟨hne, rfl⟩
          · go_wp2_with (go_at_call 14; (refine (HREM.out _).mono ?_); rintro e u3 ⟨rfl, rfl⟩)
            go_quiet (fail)
            go_wp2
            go_roundw
            case rel => exact ⟨k + 1, by omega, by go_num, _, rfl⟩
            case measure => simp [intOf] <;> omega
          · have e1 : ((1 : Int) != Z) = true := by simpa using hne
            clear hne
            go_wp2_with (go_at_call 14; (refine (HREM.out _).mono ?_); rintro e u3 ⟨rfl, rfl⟩)
            go_quiet (fail)
            go_wp2
            go_roundw
            case rel => exact ⟨k + 1, by omega, by go_num, _, rfl⟩
            case measure => simp [intOf] <;> omega
          · have e1 : ((2 : Int) != Z) = true := by simpa using hne
            clear hne
            go_wp2_with (go_at_call 14; (refine (HREM.out _).mono ?_); rintro e u3 ⟨rfl, rfl⟩)
            go_quiet (fail)
            go_wp2
            go_roundw
            case rel => exact ⟨k + 1, by omega, by go_num, _, rfl⟩
            case measure => simp [intOf] <;> omega
      · obtain rfl : k = n := by omega
        clear g0 g1 g2
        go_wp2
        go_ret
        exact ⟨rfl, below_drewN hb1 _⟩
  · have hbi : (b : Int) = 0 := by omega
    simp only [hbi] at HL HK
    clear hbi hb
    go_enter Try.func6, Try.ntmps6
    go_wp2_with (first
      | (go_at_call 8; (with_reducible refine (HLO.out _).mono ?_); rintro e u ⟨rfl, rfl⟩)
      | (go_at_call 9; (refine HL.out.mono ?_); rintro e u1 ⟨v1, v2, rfl, h1, h2, hb1⟩; obtain ⟨A1, c1, rfl, _, _, g1⟩ := h1.size; obtain ⟨A2, c2, rfl, _, _, g2⟩ := h2.size; rw [HLL.out, HCL.out]))
    clear h1 h2
    have g0 := HH.out u1 hb1
    go_loopw [8] (fun v8 wr => ∃ k : Nat, k ≤ n ∧ v8 = .int .i64 k ∧ ∃ q, wr = u1.drewN q) (fun v8 _ => n - (intOf v8).toNat)
    case atStart => exact ⟨0, by omega, rfl, 0, rfl⟩
    case round =>
      obtain ⟨k, hkn, rfl, q, rfl⟩ := hrel
      by_cases hlt : k < n
      · have hk1 : k < z0.length := by have := HZ.out; omega
        obtain ⟨X, Y, p1, p2, p3, p4, p5⟩ := HK.out k hk1
        obtain ⟨b0, o0, rfl, hcc⟩ := int_at g0 (List.getElem?_eq_getElem hk1)
        obtain ⟨b1, o1, rfl, hc1⟩ := int_at g1 p1
        obtain ⟨b2, o2, rfl, hc2⟩ := int_at g2 p2
        generalize z0[k] = Z at *
        have HREM := Lib.hid (fun W => removed_ok Z W)
        have x1 : ¬ X < 0 := by omega
        have x2 : ¬ 125 < X := by omega
        cases hr : remC Z with
        | true =>
          rw [hr] at HREM
          obtain ⟨rfl, r1, r2⟩ := p4 hr
          rcases Nat.eq_zero_or_pos k with rfl | hk0
          · obtain rfl : X = 0 := r2 rfl
            simp only [Nat.add_zero] at hcc hc1 hc2
            clear p1 p2 p3 p4 p5 r1 r2 hr g0 g1 g2 hk1
            go_wp2_with (go_at_call 14; (refine (HREM.out _).mono ?_); rintro e u3 ⟨rfl, rfl⟩)
            go_quiet (fail)
            go_wp2
            go_roundw
            case rel => exact ⟨0 + 1, by omega, by go_num, _, rfl⟩
            case measure => simp [intOf] <;> omega
          · have r3 := r1 hk0
            obtain ⟨b3, o3, hA, hc3⟩ := int_at g1 r3
            injection hA with hA; injection hA with e1 e2; subst e1; subst e2
            have k0 : (0 : Int) ≤ ((k - 1 : Nat) : Int) := by omega
            have k1 : ((k - 1 : Nat) : Int) < (n : Int) := by omega
            have k2 : k - 1 < n := by omega
            have k3 : decide ((0 : Int) < (k : Int)) = true := decide_eq_true (by omega)
            have k4 : ((k : Int) == 0) = false := beq_eq_false_iff_ne.2 (by omega)
            have kw : IntKind.i64.wrap ((k : Int) - 1) = ((k - 1 : Nat) : Int) := by rw [IntWalk.i64_in _ (by omega)]; omega
            clear p1 p2 p3 p4 p5 r1 r2 r3 hr g0 g1 g2 hk1
            go_wp2_with (go_at_call 14; (refine (HREM.out _).mono ?_); rintro e u3 ⟨rfl, rfl⟩)
            go_quiet (fail)
            clear kw
            go_wp2
            go_roundw
            case rel => exact ⟨k + 1, by omega, by go_num, _, rfl⟩
            case measure => simp [intOf] <;> omega
        | false =>
          rw [hr] at HREM
          have p6 := p5 hr
          have hcase : Y = Z ∨ (Y ≠ Z ∧ Y = 1) ∨ (Y ≠ Z ∧ Y = 2) := by
            by_cases h : Y = Z
            · exact .inl h
            · rcases p6 with h1 | h1 | h1
              · exact absurd h1 h
              · exact .inr (.inl ⟨h, h1⟩)
              · exact .inr (.inr ⟨h, h1⟩)
          clear p1 p2 p3 p4 p5 p6 hr g0 g1 g2 hk1
          rcases hcase with rfl | ⟨hne, rfl⟩ | ⟨hne, rfl⟩
          · go_wp2_with (go_at_call 14; (refine (HREM.out _).mono ?_); rintro e u3 ⟨rfl, rfl⟩)
            go_quiet (fail)
            go_wp2
            go_roundw
            case rel => exact ⟨k + 1, by omega, by go_num, _, rfl⟩
            case measure => simp [intOf] <;> omega
          · have e1 : ((1 : Int) != Z) = true := by simpa using hne
            clear hne
            go_wp2_with (go_at_call 14; (refine (HREM.out _).mono ?_); rintro e u3 ⟨rfl, rfl⟩)
            go_quiet (fail)
            go_wp2
            go_roundw
            case rel => exact ⟨k + 1, by omega, by go_num, _, rfl⟩
            case measure => simp [intOf] <;> omega
          · have e1 : ((2 : Int) != Z) = true := by simpa using hne
            clear hne
            go_wp2_with (go_at_call 14; (refine (HREM.out _).mono ?_); rintro e u3 ⟨rfl, rfl⟩)
            go_quiet (fail)
            go_wp2
            go_roundw
            case rel => exact ⟨k + 1, by omega, by go_num, _, rfl⟩
            case measure => simp [intOf] <;> omega
      · obtain rfl : k = n := by omega
        clear g0 g1 g2
        go_wp2
        go_ret
        exact ⟨rfl, below_drewN hb1 _⟩

set_option maxRecDepth 100000 in
theorem lifted (os : Os) (started : os.Started) (H : Type) (enc : TypeId × Value → H) :
    ReturnsInHanded {} Try.checked os 6 .any (Rows.explicitKeepsSpec.pre6 enc Try.prog Try.f6 Rows.explicitKeepsRow.domain false) (Rows.explicitKeepsSpec.post enc Try.prog Try.f6 false true false false) := by
  refine returnsInHanded_of_change (C := Try.checked) own started (by kernel_rfl) Try.func6
    (ChangeSpec.witness6 (enc := enc) (C := Try.checked) false ⟨#[], #[.slice none 0 0, .bool false], []⟩ 8 (by kernel_rfl) (by kernel_rfl) (by kernel_rfl) (by kernel_rfl)) ?_
  intro W base args ds gs before hval0 hW hcnd _
  have hval : ∀ (j : Nat) t v, Try.f6.params[j]? = some t → args[j]? = some v → Value.okWide Try.prog W .any base t v := hval0
  have hW' := hW
  obtain ⟨p, q, hA0, hV, rfl, hfz, hnd⟩ := hW
  have hA : DataW.TrodAll enc Try.prog W 0 (fun _ => true) true Try.f6.params.toList args.toList ds p := hA0
  rw [Try.params6] at hA hval
  obtain ⟨v0, vs0, d0, ds0, p0, q0, hargs, rfl, rfl, h0, r0⟩ := trodAll_cons hA
  obtain ⟨v1, vs1, d1, ds1, p1, q1, rfl, rfl, rfl, h1, r1⟩ := trodAll_cons r0
  obtain ⟨rfl, rfl, rfl⟩ := trodAll_nil r1
  obtain rfl : args = #[v0, v1] := by cases args; simp_all
  obtain ⟨rfl, rfl⟩ := trodVars_none hV
  clear hA0 hval0
  have hlt : ∀ x ∈ p0 ++ (p1 ++ []), x.block < W.heap.size := fun x hx => by simpa using hW'.lt x (List.mem_append_left _ hx)
  have k0 := h0
  have k1 := h1
  obtain ⟨A0, l0, c0, rfl⟩ := okWide_slice Try.underlying22 (hval 0 22 v0 rfl rfl)
  obtain ⟨z0, rfl, n0, m0, w0, hh0⟩ := has_ints Try.underlying22 Try.underlying3 (by kernel_rfl) h0 (fun x hx => hlt x (List.mem_append_left _ hx))
  obtain ⟨a1, rfl, rfl, rfl⟩ := open_bool Try.underlying4 (hval 1 4 v1 rfl rfl) h1
  refine (walk A0 c0 z0 a1 W n0 m0 w0 hh0).mono fun e W' ⟨he, hb⟩ => ?_
  subst he
  exact ⟨_, rfl, _, _, _, [], _, [], hW', (trodAll_cons_mk (shut_bool Try.underlying4 _) trodAll_mk0), (trodAll_cons_mk (Below.trod laidOut (by kernel_rfl) (of_decide_eq_true (by kernel_rfl)) k0 hb (fun x hx => hlt x (List.mem_append_left _ hx))) (trodAll_cons_mk (Below.trod laidOut (by kernel_rfl) (of_decide_eq_true (by kernel_rfl)) k1 hb (fun x hx => hlt x (List.mem_append_right _ (List.mem_append_left _ hx)))) trodAll_mk0)), rfl, hb.frame _, fun h => by cases h⟩

theorem over : Rows.explicitKeepsRow.holds Try.pinned (OpenSpec.ofChange Rows.explicitKeepsSpec) :=
  OpenClaim.holds_of_wide 6 Try.f6 rfl rfl rfl rfl rfl rfl rfl ⟨rfl, rfl, rfl, rfl, rfl⟩ rfl rfl rfl rfl rfl (by kernel_rfl) Try.func6 (by kernel_rfl)
    (of_decide_eq_true (by kernel_rfl)) (by unfold Func.isWrapper; first | (rw [if_pos (by decide +kernel)]; kernel_rfl) | (rw [if_neg (by decide +kernel)]; exact ⟨rfl, rfl⟩))
    (fun os started H enc _ => lifted os started H enc)

/-- the statement -/
theorem proved : Rows.ExplicitKeepsSaid :=
  over
#print axioms proved
end Go.Proofs.Ythikjknikdacbaa.explicitKeeps
