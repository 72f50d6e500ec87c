/-
  For every []rune t and []int classes the statement BracketsNest returns true: the pairs rise, do not cross and share no place, their brackets are of class ON, the first opens and the second closes. No condition.
-/
import Derived.Test.YtlopddiplmjpfaaHas
import Derived.Test.YtlopddiplmjpfaaBch
set_option linter.unusedVariables false
namespace Go.Proofs.Ytlopddiplmjpfaa.bracketsNest
open Go.ChangeShapes Go.WideShapes Go.ChangeAt Go.RowKit Go.Proofs.Ytlopddiplmjpfaa
theorem own : ownKnob Try.prog.godebug = none := by kernel_rfl
theorem laidOut : laidOutB Try.prog = true := by kernel_rfl

set_option maxRecDepth 20000 in
set_option maxHeartbeats 8000000 in
theorem walk (A0 : Option Addr) (c0 : Nat) (z0 : List Int) (A1 : Option Addr) (c1 : Nat) (z1 : List Int) (w : World) (n0 : z0.length ≤ 9223372036854775807) (m0 : z0.length ≤ c0) (w0 : ∀ z ∈ z0, (Lit.int .i32 z).wf = true) (h0 : Has w w.heap.size A0 (z0.map (Value.int .i32))) (e0 : A0 = none → c0 = 0) (n1 : z1.length ≤ 9223372036854775807) (m1 : z1.length ≤ c1) (w1 : ∀ z ∈ z1, (Lit.int .i64 z).wf = true) (h1 : Has w w.heap.size A1 (z1.map (Value.int .i64))) (e1 : A1 = none → c1 = 0) :
    Calls Try.prog 5 #[.slice A0 z0.length c0, .slice A1 z1.length c1] w fun e w' => e = .returned (.bool true) ∧ Below w.heap.size w w' := by
  have HAL := Lib.hid (fun w => alive_ok w)
  by_cases hl : 150 < z0.length ∨ 150 < z1.length
  · have hld : decide (150 < z0.length ∨ 150 < z1.length) = true := decide_eq_true hl
    have HL := Lib.hid (fun w => long_ok A0 A1 z0.length z1.length c0 c1 w)
    rw [hld] at HL
    clear w0 m0 h0 w1 h1 m1 hl hld
    go_enter Try.func5, Try.ntmps5
    go_wp2_with (first
      | (go_at_call 16; (with_reducible refine (HAL.out _).mono ?_); rintro e u ⟨rfl, hb1⟩)
      | (go_at_call 8; (with_reducible refine (HL.out _).mono ?_); rintro e u2 ⟨rfl, rfl⟩))
    go_ret
    exact ⟨rfl, hb1⟩
  have hld : decide (150 < z0.length ∨ 150 < z1.length) = false := decide_eq_false hl
  have HL := Lib.hid (fun w => long_ok A0 A1 z0.length z1.length c0 c1 w)
  rw [hld] at HL
  have H10 := Lib.hid (fun w h h' => pairs_ok A0 A1 c0 c1 z0.length z1.length z0 z1 w rfl rfl (by omega) h h')
  have hz0 : z0.length ≤ 150 := by omega
  have hz1 : z1.length ≤ 150 := by omega
  clear w0 m0 w1 m1 hl hld n0 n1
  go_enter Try.func5, Try.ntmps5
  go_wp2_with (first
    | (go_at_call 16; (with_reducible refine (HAL.out _).mono ?_); rintro e ua ⟨rfl, hba⟩; have ga := h0.carry hba; have gb := h1.carry hba)
    | (go_at_call 8; (with_reducible refine (HL.out _).mono ?_); rintro e u0 ⟨rfl, rfl⟩)
    | (go_at_call 10; (with_reducible refine (H10.out _ ga gb).mono ?_); rintro e u1 ⟨l, ⟨v1, rfl, hv1, hb1⟩, hl⟩; have g0 := ga.carry hb1; have g1 := gb.carry hb1; obtain ⟨AP, cP, rfl, _, _, hhP⟩ := hv1.has))
  have hbw := below_trans hba hb1 hba.size
  have HV := Lib.hid hl
  have hml := hl.len
  obtain ⟨m, hm⟩ : ∃ m, l.length = m := ⟨_, rfl⟩
  rw [hm] at hml ⊢
  have HM := Lib.hid hm
  have hm2 : m ≤ 150 := by omega
  have HH := Lib.hid (fun u (hu : Up u1 u) => (⟨g0.up hu, g1.up hu, hhP.up hu⟩ : _ ∧ _ ∧ _))
  clear HAL HL H10 h0 h1 ga gb g0 g1 hhP hv1 hl hm hml hba hb1
  go_loopw [6] (fun v wr => ∃ i : Nat, i ≤ m ∧ v = .int .i64 i ∧ Up u1 wr) (fun v _ => m - (intOf v).toNat)
  case atStart => exact ⟨0, Nat.zero_le _, rfl, Up.refl _⟩
  case round =>
    obtain ⟨i, him, rfl, hU⟩ := hrel
    obtain ⟨WA, hWA⟩ : ∃ WA, WA = wr := ⟨_, rfl⟩
    subst hWA
    by_cases hlt : i < m
    · obtain ⟨gt, gc, gp⟩ := HH.out _ hU
      have hil : i < l.length := by have := HM.out; omega
      have hmem : l[i] ∈ l := List.getElem_mem hil
      obtain ⟨heq, hab, hbn, hop, hcl⟩ := HV.out.at _ hmem
      have HN : Hid (∀ k (hk : k < l.length), i < k → l[i].1 < l[k].1 ∧ (l[i].2 < l[k].1 ∨ l[k].2 < l[i].2)) := Lib.hid (fun k hk hik => HV.out.nest i k hik hk)
      have HPV : Hid (∀ r (hr : r < l.length), r < i → l[r].1 < l[i].1) := Lib.hid (fun r hr hri => (HV.out.nest r i hri hil).1)
      obtain ⟨b2, o2, hA2, hb2, hcx, hcy⟩ := gp.at_ hil
      subst hA2
      generalize l[i] = ab at *
      obtain ⟨a, b⟩ := ab
      simp only at hab hbn hop hcl HN HPV
      have d1 : WA.cell? ⟨b2, o2 + i * 2, none⟩ = some (.int .i64 (a : Int)) := hcx
      have d2 : WA.cell? ⟨b2, o2 + i * 2 + 1, none⟩ = some (.int .i64 (b : Int)) := hcy
      obtain ⟨oa1, oa2, oa3⟩ := opn_at hop
      obtain ⟨ob1, ob2, ob3⟩ := cls_at hcl
      have han : a < z0.length := by omega
      have hac : a < z1.length := by omega
      have hbc : b < z1.length := by omega
      obtain ⟨bt, ot, hAt, hbt, hta⟩ := gt.at_int han
      subst hAt
      obtain ⟨bt', ot', hAt', _, htb⟩ := gt.at_int hbn
      injection hAt' with hAt'
      injection hAt' with x1 x2
      subst x1; subst x2
      obtain ⟨bc, oc, hAc, hbcl, hca⟩ := gc.at_int hac
      subst hAc
      obtain ⟨bc', oc', hAc', _, hcb⟩ := gc.at_int hbc
      injection hAc' with hAc'
      injection hAc' with x1 x2
      subst x1; subst x2
      have ea : z1[a] = 14 := by rw [← oa1, List.getD_eq_getElem?_getD, List.getElem?_eq_getElem hac]; rfl
      have eb : z1[b] = 14 := by rw [← ob1, List.getD_eq_getElem?_getD, List.getElem?_eq_getElem hbc]; rfl
      have et : z0.getD a 0 = z0[a] := by rw [List.getD_eq_getElem?_getD, List.getElem?_eq_getElem han]; rfl
      have eu : z0.getD b 0 = z0[b] := by rw [List.getD_eq_getElem?_getD, List.getElem?_eq_getElem hbn]; rfl
      rw [ea] at hca
      rw [eb] at hcb
      rw [et] at oa2 oa3
      rw [eu] at ob2 ob3
      generalize z0[a] = X at hta oa2 oa3
      generalize z0[b] = Y at htb ob2 ob3
      clear ea eb et eu oa1 ob1 hop hcl hmem hcx hcy heq gt gc gp
      obtain ⟨p, hp⟩ : ∃ p, ofP X = p := ⟨_, rfl⟩
      obtain ⟨q, hq⟩ : ∃ q, ofP Y = q := ⟨_, rfl⟩
      rw [hp] at oa2 oa3
      rw [hq] at ob2 ob3
      have hca1 := fun w => of_x X p hp w
      have hcb1 := fun w => of_x Y q hq w
      have hfa := fun w => field_op p w
      have hfb := fun w => field_op q w
      have hfc := fun w => field_pa q w
      clear hp hq oa2
      obtain ⟨p0, p1, p2, p3, p4, p5, p6, p7, p8⟩ := p
      obtain ⟨q0, q1, q2, q3, q4, q5, q6, q7, q8⟩ := q
      dsimp only at hca1 hcb1 hfa hfb hfc oa3 ob2 ob3
      subst oa3
      subst ob3
      have HOA := Lib.hid hca1
      have HOB := Lib.hid hcb1
      have hpz : (q7 == 0) = false := by simpa using ob2
      clear hca1 hcb1 ob2
      have HCELLS := Lib.hid (fun u (hu : Up WA u) => (⟨hu.cell hta, hu.cell htb⟩ : _ ∧ _))
      have n0 : decide ((a : Int) < 0) = false := decide_eq_false (by omega)
      have n1 : ¬ (b : Int) ≤ a := by omega
      have n2 : ¬ (z0.length : Int) ≤ b := by omega
      have n3 : ¬ (z1.length : Int) ≤ b := by omega
      have hprev : Hid (0 < i → ∃ r x, i = r + 1 ∧ x < a ∧ WA.cell? ⟨b2, o2 + r * 2, none⟩ = some (.int .i64 ((x : Nat) : Int))) := Lib.hid (fun hi => by
        obtain ⟨r, rfl⟩ : ∃ r, i = r + 1 := ⟨i - 1, by omega⟩
        have hrl : r < l.length := by omega
        obtain ⟨b3, o3, hA3, _, hc3, _⟩ := (HH.out _ hU).2.2.at_ hrl
        injection hA3 with hA3
        injection hA3 with x1 x2
        subst x1; subst x2
        exact ⟨r, l[r].1, rfl, HPV.out r hrl (by omega), hc3⟩)
      clear HPV hil
      by_cases hi0 : 0 < i
      · obtain ⟨r, x, rfl, hxa, hcr⟩ := hprev.out hi0
        have hxd : ¬ (a : Int) ≤ x := by omega
        have hxe : decide (a ≤ x) = false := decide_eq_false (by omega)
        have hid0 : decide ((0 : Int) < ((r + 1 : Nat) : Int)) = true := decide_eq_true (by omega)
        clear hprev hi0
        go_wp2
        go_quiet (fail)
        go_wp2_with (first
          | (go_at_call 17; (with_reducible refine (HOA.out _).mono ?_); rintro e ub ⟨rfl, hub⟩; have hU6 := ((Up.refl WA).drewN nq).trans hub; obtain ⟨_, ca2⟩ := HCELLS.out _ hU6; clear HOA)
          | (go_at_call 17; (with_reducible refine (HOB.out _).mono ?_); rintro e uc ⟨rfl, huc⟩; have hU7 := hU6.trans huc; obtain ⟨_, cb2⟩ := HCELLS.out _ hU7)
          | (go_at_call 17; (with_reducible refine (HOB.out _).mono ?_); rintro e ud ⟨rfl, hud⟩; have hU8 := hU7.trans hud))
        have hU9 := hU.trans hU8
        clear hfa hfb hfc HOB HCELLS hta htb hca hcb hU6 hU7 hU8 d1 d2 hpz
        obtain ⟨WB, hWB⟩ : ∃ WB, WB = ud := ⟨_, rfl⟩
        subst hWB
        go_loopw [9] (fun v wr => ∃ k : Nat, r + 1 < k ∧ k ≤ m ∧ v = .int .i64 k ∧ ∃ z, wr = WB.drewN z) (fun v _ => m - (intOf v).toNat)
        case atStart => exact ⟨r + 1 + 1, by omega, by omega, by go_num, 0, rfl⟩
        case round =>
          obtain ⟨k, hik, hkm, rfl, z, rfl⟩ := hrel
          by_cases hkl : k < m
          · have hkl2 : k < l.length := by have := HM.out; omega
            obtain ⟨m1, m2⟩ := HN.out k hkl2 hik
            have m3 := (HV.out.at _ (List.getElem_mem hkl2)).2.1
            obtain ⟨b3, o3, hA3, _, hcx, hcy⟩ := (HH.out _ hU9).2.2.at_ hkl2
            injection hA3 with hA3
            injection hA3 with x1 x2
            subst x1; subst x2
            generalize l[k] = cd at m1 m2 m3 hcx hcy
            obtain ⟨cc, dd⟩ := cd
            simp only at m1 m2 m3
            have d1 : WB.cell? ⟨b2, o2 + k * 2, none⟩ = some (.int .i64 (cc : Int)) := hcx
            have d2 : WB.cell? ⟨b2, o2 + k * 2 + 1, none⟩ = some (.int .i64 (dd : Int)) := hcy
            have y1 : ((dd : Int) == (b : Int)) = false := by simp; omega
            have y2 : ((cc : Int) == (b : Int)) = false := by simp; omega
            clear hcx hcy
            by_cases hcb2 : cc < b
            · have y3 : decide ((cc : Int) < b) = true := decide_eq_true (by omega)
              have y4 : decide ((b : Int) < dd) = false := decide_eq_false (by omega)
              have y5 : ¬ (b : Int) < dd := by omega
              have y6 : decide (b < dd) = false := decide_eq_false (by omega)
              clear m2 m3
              go_wp2
              go_quiet (fail)
              go_wp2
              go_roundw
              case rel => exact ⟨k + 1, by omega, by omega, by go_num, _, rfl⟩
              case measure => simp [intOf] <;> omega
            · have y3 : decide ((cc : Int) < b) = false := decide_eq_false (by omega)
              clear m2 m3
              go_wp2
              go_quiet (fail)
              go_wp2
              go_roundw
              case rel => exact ⟨k + 1, by omega, by omega, by go_num, _, rfl⟩
              case measure => simp [intOf] <;> omega
          · obtain rfl : k = m := by omega
            go_wp2
            go_roundw
            case rel => exact ⟨r + 1 + 1, by omega, by go_num, hU9.drewN z⟩
            case measure => simp [intOf] <;> omega
      · have hid0 : decide ((0 : Int) < (i : Int)) = false := decide_eq_false (by omega)
        clear hprev
        go_wp2
        go_quiet (fail)
        go_wp2_with (first
          | (go_at_call 17; (with_reducible refine (HOA.out _).mono ?_); rintro e ub ⟨rfl, hub⟩; have hU6 := ((Up.refl WA).drewN nq).trans hub; obtain ⟨_, ca2⟩ := HCELLS.out _ hU6; clear HOA)
          | (go_at_call 17; (with_reducible refine (HOB.out _).mono ?_); rintro e uc ⟨rfl, huc⟩; have hU7 := hU6.trans huc; obtain ⟨_, cb2⟩ := HCELLS.out _ hU7)
          | (go_at_call 17; (with_reducible refine (HOB.out _).mono ?_); rintro e ud ⟨rfl, hud⟩; have hU8 := hU7.trans hud))
        have hU9 := hU.trans hU8
        clear hfa hfb hfc HOB HCELLS hta htb hca hcb hU6 hU7 hU8 d1 d2 hpz
        obtain ⟨WB, hWB⟩ : ∃ WB, WB = ud := ⟨_, rfl⟩
        subst hWB
        go_loopw [9] (fun v wr => ∃ k : Nat, i < k ∧ k ≤ m ∧ v = .int .i64 k ∧ ∃ z, wr = WB.drewN z) (fun v _ => m - (intOf v).toNat)
        case atStart => exact ⟨i + 1, by omega, by omega, by go_num, 0, rfl⟩
        case round =>
          obtain ⟨k, hik, hkm, rfl, z, rfl⟩ := hrel
          by_cases hkl : k < m
          · have hkl2 : k < l.length := by have := HM.out; omega
            obtain ⟨m1, m2⟩ := HN.out k hkl2 hik
            have m3 := (HV.out.at _ (List.getElem_mem hkl2)).2.1
            obtain ⟨b3, o3, hA3, _, hcx, hcy⟩ := (HH.out _ hU9).2.2.at_ hkl2
            injection hA3 with hA3
            injection hA3 with x1 x2
            subst x1; subst x2
            generalize l[k] = cd at m1 m2 m3 hcx hcy
            obtain ⟨cc, dd⟩ := cd
            simp only at m1 m2 m3
            have d1 : WB.cell? ⟨b2, o2 + k * 2, none⟩ = some (.int .i64 (cc : Int)) := hcx
            have d2 : WB.cell? ⟨b2, o2 + k * 2 + 1, none⟩ = some (.int .i64 (dd : Int)) := hcy
            have y1 : ((dd : Int) == (b : Int)) = false := by simp; omega
            have y2 : ((cc : Int) == (b : Int)) = false := by simp; omega
            clear hcx hcy
            by_cases hcb2 : cc < b
            · have y3 : decide ((cc : Int) < b) = true := decide_eq_true (by omega)
              have y4 : decide ((b : Int) < dd) = false := decide_eq_false (by omega)
              have y5 : ¬ (b : Int) < dd := by omega
              have y6 : decide (b < dd) = false := decide_eq_false (by omega)
              clear m2 m3
              go_wp2
              go_quiet (fail)
              go_wp2
              go_roundw
              case rel => exact ⟨k + 1, by omega, by omega, by go_num, _, rfl⟩
              case measure => simp [intOf] <;> omega
            · have y3 : decide ((cc : Int) < b) = false := decide_eq_false (by omega)
              clear m2 m3
              go_wp2
              go_quiet (fail)
              go_wp2
              go_roundw
              case rel => exact ⟨k + 1, by omega, by omega, by go_num, _, rfl⟩
              case measure => simp [intOf] <;> omega
          · obtain rfl : k = m := by omega
            go_wp2
            go_roundw
            case rel => exact ⟨i + 1, by omega, by go_num, hU9.drewN z⟩
            case measure => simp [intOf] <;> omega
    · obtain rfl : i = m := by omega
      go_wp2
      go_ret
      exact ⟨rfl, below_trans hbw hU.1 hbw.size⟩

set_option maxRecDepth 100000 in
theorem lifted (os : Os) (started : os.Started) (H : Type) (enc : TypeId × Value → H) :
    ReturnsInHanded {} Try.checked os 5 .any (Rows.bracketsNestSpec.pre6 enc Try.prog Try.f5 Rows.bracketsNestRow.domain false) (Rows.bracketsNestSpec.post enc Try.prog Try.f5 false true false false) := by
  refine returnsInHanded_of_change (C := Try.checked) own started (by kernel_rfl) Try.func5
    (ChangeSpec.witness6 (enc := enc) (C := Try.checked) false ⟨#[], #[.slice none 0 0, .slice none 0 0], []⟩ 8 (by kernel_rfl) (by kernel_rfl) (by kernel_rfl) (by kernel_rfl)) ?_
  intro W base args ds gs before hval0 hW hcnd _
  have hval : ∀ (j : Nat) t v, Try.f5.params[j]? = some t → args[j]? = some v → Value.okWide Try.prog W .any base t v := hval0
  have hW' := hW
  obtain ⟨p, q, hA0, hV, rfl, hfz, hnd⟩ := hW
  have hA : DataW.TrodAll enc Try.prog W 0 (fun _ => true) true Try.f5.params.toList args.toList ds p := hA0
  rw [Try.params5] at hA hval
  obtain ⟨v0, vs0, d0, ds0, p0, q0, hargs, rfl, rfl, h0, r0⟩ := trodAll_cons hA
  obtain ⟨v1, vs1, d1, ds1, p1, q1, rfl, rfl, rfl, h1, r1⟩ := trodAll_cons r0
  obtain ⟨rfl, rfl, rfl⟩ := trodAll_nil r1
  obtain rfl : args = #[v0, v1] := by cases args; simp_all
  obtain ⟨rfl, rfl⟩ := trodVars_none hV
  clear hA0 hval0
  have hlt : ∀ x ∈ p0 ++ (p1 ++ []), x.block < W.heap.size := fun x hx => by simpa using hW'.lt x (List.mem_append_left _ hx)
  have k0 := h0
  have k1 := h1
  obtain ⟨A0, l0, c0, rfl⟩ := okWide_slice Try.underlying22 (hval 0 22 v0 rfl rfl)
  obtain ⟨z0, rfl, n0, m0, w0, hh0⟩ := has_ints Try.underlying22 Try.underlying21 (by kernel_rfl) h0 (fun x hx => hlt x (List.mem_append_left _ hx))
  have e0 := none_cap Try.underlying22 Try.underlying21 (by kernel_rfl) k0
  obtain ⟨A1, l1, c1, rfl⟩ := okWide_slice Try.underlying23 (hval 1 23 v1 rfl rfl)
  obtain ⟨z1, rfl, n1, m1, w1, hh1⟩ := has_ints Try.underlying23 Try.underlying3 (by kernel_rfl) h1 (fun x hx => hlt x (List.mem_append_right _ (List.mem_append_left _ hx)))
  have e1 := none_cap Try.underlying23 Try.underlying3 (by kernel_rfl) k1
  refine (walk A0 c0 z0 A1 c1 z1 W n0 m0 w0 hh0 e0 n1 m1 w1 hh1 e1).mono fun e W' ⟨he, hb⟩ => ?_
  subst he
  exact ⟨_, rfl, _, _, _, [], _, [], hW', (trodAll_cons_mk (shut_bool Try.underlying4 _) trodAll_mk0), (trodAll_cons_mk (Below.trod laidOut (by kernel_rfl) (of_decide_eq_true (by kernel_rfl)) k0 hb (fun x hx => hlt x (List.mem_append_left _ hx))) (trodAll_cons_mk (Below.trod laidOut (by kernel_rfl) (of_decide_eq_true (by kernel_rfl)) k1 hb (fun x hx => hlt x (List.mem_append_right _ (List.mem_append_left _ hx)))) trodAll_mk0)), rfl, hb.frame _, fun h => by cases h⟩

theorem over : Rows.bracketsNestRow.holds Try.pinned (OpenSpec.ofChange Rows.bracketsNestSpec) :=
  OpenClaim.holds_of_wide 5 Try.f5 rfl rfl rfl rfl rfl rfl rfl ⟨rfl, rfl, rfl, rfl, rfl⟩ rfl rfl rfl rfl rfl (by kernel_rfl) Try.func5 (by kernel_rfl)
    (of_decide_eq_true (by kernel_rfl)) (by unfold Func.isWrapper; first | (rw [if_pos (by decide +kernel)]; kernel_rfl) | (rw [if_neg (by decide +kernel)]; exact ⟨rfl, rfl⟩))
    (fun os started H enc _ => lifted os started H enc)

/-- the statement -/
theorem proved : Rows.BracketsNestSaid :=
  over
#print axioms proved
end Go.Proofs.Ytlopddiplmjpfaa.bracketsNest
