/-
  For every []rune t the statement WordsCover returns true: the word boundaries rise from 0 to the end, are clusters', and each place's word is the one around it. No condition.
-/
import Derived.Test.YtcplhbafbjpnlaaHas
import Derived.Test.YtcplhbafbjpnlaaWAro
set_option linter.unusedVariables false
namespace Go.Proofs.Ytcplhbafbjpnlaa.wordsCover
open Go.ChangeShapes Go.WideShapes Go.ChangeAt Go.RowKit Go.Proofs.Ytcplhbafbjpnlaa
theorem own : ownKnob Try.prog.godebug = none := by kernel_rfl
theorem laidOut : laidOutB Try.prog = true := by kernel_rfl

open Go.Sort
theorem long_ok (A : Option Addr) (n c : Nat) (w : World) : Calls Try.prog 8 #[.slice A n c] w fun e w' => e = .returned (.bool (decide (40 < n))) ∧ w = w' := by
  by_cases h : 40 < n
  · have hd : decide ((40 : Int) < n) = true := decide_eq_true (by omega)
    have hd2 : decide (40 < n) = true := decide_eq_true h
    go_enter Try.func8, Try.ntmps8
    go_wp2
    go_ret
    exact ⟨by simp [h], rfl⟩
  · have hd : decide ((40 : Int) < n) = false := decide_eq_false (by omega)
    have hd2 : decide (40 < n) = false := decide_eq_false h
    go_enter Try.func8, Try.ntmps8
    go_wp2
    go_ret
    exact ⟨by simp [h], rfl⟩
theorem neC_run (a b : Nat) (w : World) : (binOp .neq 29 (.agg #[.int .i64 a, .int .i64 b]) (.agg #[.int .i64 a, .int .i64 b])).run Try.prog w = .ok (.bool false) w := by
  simp [go_sem]
theorem around_v (A : Option Addr) (c : Nat) (i : Int) (x y : Nat) (zs : List Int) (w : World) (hn : zs.length ≤ 1000) (hc : zs.length ≤ c) (hv : AroV zs i x y) (h : Has w w.heap.size A (zs.map (Value.int .i32))) :
    Calls Try.prog 14 #[.slice A zs.length c, .int .i64 i] w fun e w' => e = .returned (.agg #[.int .i64 x, .int .i64 y]) ∧ Up w w' :=
  (waround_ok A c i zs w hn hc h).mono fun e w' ⟨⟨a, b, he, hab⟩, hu⟩ => by
    obtain ⟨rfl, rfl⟩ := hab.unique hv
    exact ⟨he, hu⟩
theorem gap_facts (zs : List Int) (k X Y : Nat) (hx : (wbs zs)[k]? = some X) (hy : (wbs zs)[k + 1]? = some Y) :
    X < Y ∧ Y ≤ zs.length ∧ (∀ j : Nat, X ≤ j → j < Y → AroV zs j X Y) ∧ ∀ j : Nat, X < j → j < Y → isW zs j = false := by
  obtain ⟨h1, h2, h3, h4, h5⟩ := wbs_gap zs k X Y hx hy
  exact ⟨h1, h2, fun j h6 h7 => aro_word zs k X Y j hx hy (.inl ⟨by omega, by omega⟩), fun j h6 h7 => by rw [isW_nat zs j (by omega)]; exact h5 j h6 h7⟩
theorem is_facts (zs : List Int) (k X : Nat) (hx : (wbs zs)[k]? = some X) : isW zs X = true ∧ isV (cls zs) X = true := by
  have hm := List.mem_of_getElem? hx
  obtain ⟨h1, h2, h3⟩ := mem_wbs.1 hm
  exact ⟨(isW_true zs X).2 ⟨X, rfl, hm⟩, by rw [isV_nat _ _ (by rw [cls_len]; exact h1)]; exact h2⟩

theorem has_zb {w : World} {B : Nat} {A : Option Addr} {bl : List Nat} (h : Has w B A ((zb bl).map (Value.int .i64))) (hne : 0 < bl.length) :
    ∃ b off, A = some ⟨b, off, none⟩ ∧ b < B ∧ ∀ (j X : Nat), bl[j]? = some X → w.cell? ⟨b, off + j, none⟩ = some (.int .i64 X) := by
  obtain ⟨b, off, e, hb, hc⟩ := h (fun e => by rw [List.map_eq_nil_iff] at e; have := congrArg List.length e; rw [zb_len] at this; simp at this; rw [this] at hne; simp at hne)
  refine ⟨b, off, e, hb, fun j X hj => hc j _ ?_⟩
  unfold zb
  rw [List.map_map, List.getElem?_map, hj]; rfl

set_option maxRecDepth 20000 in
set_option maxHeartbeats 8000000 in
theorem walk (A0 : Option Addr) (c0 : Nat) (z0 : List Int) (w : World) (n0 : z0.length ≤ 9223372036854775807) (m0 : z0.length ≤ c0) (w0 : ∀ z ∈ z0, (Lit.int .i32 z).wf = true) (h0 : Has w w.heap.size A0 (z0.map (Value.int .i32))) :
    Calls Try.prog 6 #[.slice A0 z0.length c0] w fun e w' => e = .returned (.bool true) ∧ Below w.heap.size w w' := by
  by_cases hl : 40 < z0.length
  · have hld : decide (40 < z0.length) = true := decide_eq_true hl
    have HL := Lib.hid (fun w => long_ok A0 z0.length c0 w)
    rw [hld] at HL
    clear w0 m0 h0
    go_enter Try.func6, Try.ntmps6
    go_wp2_with (first | (go_at_call 8; (with_reducible refine (HL.out _).mono ?_); rintro e u ⟨rfl, rfl⟩))
    go_ret
    exact ⟨rfl, Below.refl _ _⟩
  have hld : decide (40 < z0.length) = false := decide_eq_false hl
  have HL := Lib.hid (fun w => long_ok A0 z0.length c0 w)
  rw [hld] at HL
  have hn : z0.length ≤ 1000 := by omega
  have H10 := Lib.hid (fun w h => wbounds_ok A0 c0 z0 w hn m0 h)
  rcases Nat.eq_zero_or_pos z0.length with hz | hz
  · have H14 := Lib.hid (fun w h => around_v A0 c0 0 0 0 z0 w hn m0 (aro_out z0 0 (.inl hz)) h)
    have hb := wbs_nil z0 hz
    rw [hb] at H10
    have hH := Lib.hid h0
    have he := fun w => neC_run 0 0 w
    have hq : ∀ w, (binOp .eql 29 (.agg #[.int .i64 ((0 : Nat) : Int), .int .i64 ((0 : Nat) : Int)]) (.agg #[.int .i64 0, .int .i64 0])).run Try.prog w = .ok (.bool true) w := fun w => by simp [go_sem]
    clear hb w0 h0 hl hld
    rw [hz] at HL H10 H14 ⊢
    clear hz n0 hn m0
    go_enter Try.func6, Try.ntmps6
    go_wp2_with (first
      | (go_at_call 8; (with_reducible refine (HL.out _).mono ?_); rintro e u0 ⟨rfl, rfl⟩)
      | (go_at_call 10; (with_reducible refine (H10.out _ hH.out).mono ?_); rintro e u1 ⟨v1, rfl, A1, c1, rfl, _, hc1, hb1⟩; have g1 := hH.out.carry hb1; rw [show (zb []).length = 0 from rfl])
      | (go_at_call 14; (with_reducible refine (H14.out _ g1).mono ?_); rintro e u2 ⟨rfl, hu2⟩; have B2 := below_trans hb1 hu2.1 hb1.size))
    go_ret
    exact ⟨rfl, B2⟩
  have H12 := Lib.hid (fun i w h => wis_ok A0 c0 i z0 w hn m0 h)
  have H20 := Lib.hid (fun i w h => is_ok A0 c0 i z0 w hn m0 h)
  have H14 := Lib.hid (fun i x y w hv h => around_v A0 c0 i x y z0 w hn m0 hv h)
  have HGF := Lib.hid (gap_facts z0)
  have HIF := Lib.hid (is_facts z0)
  have htwo := wbs_two z0 hz
  have hfst := wbs_first z0 hz
  have hlst := wbs_last z0 hz
  have hbn := wbs_le z0
  have hH := Lib.hid h0
  generalize isW z0 = iw at *
  generalize isV (cls z0) = iv at *
  generalize AroV z0 = R at *
  generalize wbs z0 = bl at *
  have hzl := zb_len bl
  have hzb : ((z0.length : Int) == 0) = false := beq_eq_false_iff_ne.2 (by omega)
  have HLS := Lib.hid hlst
  have HFS := Lib.hid hfst
  have hlb : ¬ (bl.length : Int) < 2 := by omega
  have hlbd : decide ((bl.length : Int) < 2) = false := decide_eq_false hlb
  have kl : IntKind.i64.wrap ((bl.length : Int) - 1) = ((bl.length - 1 : Nat) : Int) := by rw [IntWalk.i64_in _ (by omega)]; omega
  have hpos : bl.length - 1 < bl.length := by omega
  have hlbn : decide (bl.length < 2) = false := decide_eq_false (by omega)
  clear w0 h0 hl hld hlst hfst
  go_enter Try.func6, Try.ntmps6
  go_wp2_with (first
    | (go_at_call 8; (with_reducible refine (HL.out _).mono ?_); rintro e u0 ⟨rfl, rfl⟩)
    | (go_at_call 10; (with_reducible refine (H10.out _ hH.out).mono ?_); rintro e u1 ⟨v1, rfl, A1, c1, rfl, _, hc1, hb1⟩; rw [hzl]; obtain ⟨b, off, rfl, hbu, hcel⟩ := has_zb hc1 (by omega); have cf := hcel 0 0 HFS.out; rw [Nat.add_zero] at cf; have cl := hcel _ _ HLS.out; have HCEL := Lib.hid hcel; clear hcel hc1))
  have mixed : Try.prog.follows .mixedOrders = true := by kernel_rfl
  clear hlb hlbd kl hpos hlbn cf cl htwo
  go_loopw [4] (fun v wr => ∃ k : Nat, k ≤ bl.length ∧ v = .int .i64 k ∧ Below u1.heap.size u1 wr) (fun v _ => bl.length - (intOf v).toNat)
  case atStart => exact ⟨0, by omega, rfl, Below.refl _ _⟩
  case round =>
    obtain ⟨k, hk, rfl, hbl⟩ := hrel
    by_cases hlt : k < bl.length
    · obtain ⟨Y, hY⟩ : ∃ Y, bl[k] = Y := ⟨_, rfl⟩
      have hYs := get_some hlt hY
      clear hY
      have hy0 := HCEL.out k Y hYs
      have cy := (hbl.cell (p := ⟨b, off + k, none⟩) hbu).trans hy0
      obtain ⟨t1, t2⟩ := HIF.out k Y hYs
      have HX12 := Lib.hid (fun w h => H12.out Y w h)
      have HX20 := Lib.hid (fun w h => H20.out Y w h)
      rw [t1] at HX12
      rw [t2] at HX20
      have hhr := (hH.out.carry hb1).carry hbl
      have HYS := Lib.hid hYs
      clear t1 t2 hYs
      by_cases h0 : k = 0
      · subst h0
        rw [Nat.add_zero] at cy hy0
        go_wp2_with (first
          | (go_at_call 12; (with_reducible refine (HX12.out _ hhr).mono ?_); rintro e u2 ⟨rfl, hu2⟩; have hh2 := hhr.up hu2; have hb2 := below_trans hbl hu2.1 hbl.size; have cy2 := hu2.cell cy)
          | (go_at_call 20; (with_reducible refine (HX20.out _ hh2).mono ?_); rintro e u3 ⟨rfl, hu3⟩; have hb3 := below_trans hb2 hu3.1 hb2.size))
        go_roundw
        case rel => exact ⟨0 + 1, by omega, by go_num, hb3⟩
        case measure => simp [intOf] <;> omega
      · obtain ⟨X, hX⟩ : ∃ X, bl[k - 1]'(by omega) = X := ⟨_, rfl⟩
        have hXs := get_some (by omega) hX
        clear hX
        have hx0 := HCEL.out (k - 1) X hXs
        obtain ⟨g1, g2, g3, g4⟩ := HGF.out (k - 1) X Y hXs (by rw [show k - 1 + 1 = k by omega]; exact HYS.out)
        have HG3 := Lib.hid g3
        have HG4 := Lib.hid g4
        have kw : IntKind.i64.wrap ((k : Int) - 1) = ((k - 1 : Nat) : Int) := by rw [IntWalk.i64_in _ (by omega)]; omega
        have hk0 : ((k : Int) == 0) = false := beq_eq_false_iff_ne.2 (by omega)
        have hk0' : ¬ (k : Int) = 0 := by omega
        have hkl : k - 1 < bl.length := by omega
        have hle : decide ((Y : Int) ≤ (X : Int)) = false := decide_eq_false (by omega)
        have hle2 : decide (Y ≤ X) = false := decide_eq_false (by omega)
        clear g3 g4 hXs h0
        go_wp2_with (first
          | (go_at_call 12; (with_reducible refine (HX12.out _ hhr).mono ?_); rintro e u2 ⟨rfl, hu2⟩; have hh2 := hhr.up hu2; have hb2 := below_trans hbl hu2.1 hbl.size; have cy2 := hu2.cell cy)
          | (go_at_call 20; (with_reducible refine (HX20.out _ hh2).mono ?_); rintro e u3 ⟨rfl, hu3⟩; have hh3 := hh2.up hu3; have hb3 := below_trans hb2 hu3.1 hb2.size; have cy3 := (hb3.cell (p := ⟨b, off + k, none⟩) hbu).trans hy0; have cx3 := (hb3.cell (p := ⟨b, off + (k - 1), none⟩) hbu).trans hx0))
        go_quiet (fail)
        go_wp2
        have hbn2 : Below u1.heap.size u1 (u3.drewN nq) := below_drewN hb3 nq
        have HB3 := Lib.hid hbn2
        clear hbn2 hb3 hb2 hh3 hh2 hu2 hu3 cy2 cy3 cx3 hhr cy hle hle2 hbl
        go_loopw [5] (fun v w2 => ∃ j : Nat, X ≤ j ∧ j ≤ Y ∧ v = .int .i64 j ∧ Below u1.heap.size u1 w2) (fun v _ => Y - (intOf v).toNat)
        case atStart => exact ⟨X, by omega, by omega, rfl, HB3.out⟩
        case round =>
          obtain ⟨j, hXj, hjY, rfl, hbj⟩ := hrel
          have cy := (hbj.cell (p := ⟨b, off + k, none⟩) hbu).trans hy0
          have cx := (hbj.cell (p := ⟨b, off + (k - 1), none⟩) hbu).trans hx0
          by_cases hlj : j < Y
          · have hhj := (hH.out.carry hb1).carry hbj
            have hbW : b < wr.heap.size := by have := hbj.size; omega
            have hl1 : ∀ n os, (grow (wr.drewN n) os).cell? ⟨b, off + k, none⟩ = some (.int .i64 Y) := fun n os => cell_grown hbW cy n os
            have hl2 : ∀ n os, (grow (wr.drewN n) os).cell? ⟨b, off + (k - 1), none⟩ = some (.int .i64 X) := fun n os => cell_grown hbW cx n os
            have HAG : Hid (∀ n os, Calls Try.prog 14 #[.slice A0 z0.length c0, .int .i64 j] (grow (wr.drewN n) os) fun e w' => e = .returned (.agg #[.int .i64 X, .int .i64 Y]) ∧ ∃ q os', w' = grow ((grow (wr.drewN n) os).drewN q) os') :=
              Lib.hid (fun n os => (H14.out j X Y _ (HG3.out j hXj hlj) (hhj.up (Up.of_grow _ _ _))).mono fun _ _ ⟨he, hu⟩ => ⟨he, hu.grow⟩)
            have hne := fun w => neC_run X Y w
            have hbg : ∀ n os, Below u1.heap.size u1 (grow (wr.drewN n) os) := fun n os => hbj.trans ((Up.of_grow wr n os).1.mono hbj.size)
            have hYn : Y ≤ 1000 := by omega
            by_cases hXe : j = X
            · subst hXe
              have hd : decide ((j : Int) < (j : Int)) = false := decide_eq_false (by omega)
              have hd2 : decide (j < j) = false := decide_eq_false (by omega)
              go_wp2
              clear hhj cy cx hbj
              refine wp_region_quiet_grown mixed (by kernel_rfl) ?_
              repeat (go_big_quiet_step (first | (go_at_call 14; with_reducible exact Calls.grown_of (HAG.out _ _))))
              refine wpQuiet_nil ?_
              intro _ hw'
              obtain ⟨⟨nq2, osq⟩, hw''⟩ := hw'
              subst hw''
              go_wp2
              go_roundw
              case rel => exact ⟨j + 1, by omega, by omega, by go_num, hbg _ _⟩
              case measure => simp [intOf] <;> omega
            · have hd : decide ((X : Int) < (j : Int)) = true := decide_eq_true (by omega)
              have hd2 : decide (X < j) = true := decide_eq_true (by omega)
              have HIG : Hid (∀ n os, Calls Try.prog 12 #[.slice A0 z0.length c0, .int .i64 j] (grow (wr.drewN n) os) fun e w' => e = .returned (.bool false) ∧ ∃ q os', w' = grow ((grow (wr.drewN n) os).drewN q) os') :=
                Lib.hid (fun n os => (H12.out j _ (hhj.up (Up.of_grow _ _ _))).mono fun _ _ ⟨he, hu⟩ => ⟨by rw [he, HG4.out j (by omega) hlj], hu.grow⟩)
              go_wp2
              clear hhj cy cx hbj
              refine wp_region_quiet_grown mixed (by kernel_rfl) ?_
              repeat (go_big_quiet_step (first | (go_at_call 14; with_reducible exact Calls.grown_of (HAG.out _ _)) | (go_at_call 12; with_reducible exact Calls.grown_of (HIG.out _ _))))
              refine wpQuiet_nil ?_
              intro _ hw'
              obtain ⟨⟨nq2, osq⟩, hw''⟩ := hw'
              subst hw''
              go_wp2
              go_roundw
              case rel => exact ⟨j + 1, by omega, by omega, by go_num, hbg _ _⟩
              case measure => simp [intOf] <;> omega
          · obtain rfl : j = Y := by omega
            have hd : decide ((j : Int) < (j : Int)) = false := decide_eq_false (by omega)
            go_wp2
            go_roundw
            case rel => exact ⟨k + 1, by omega, by go_num, hbj⟩
            case measure => simp [intOf] <;> omega
    · obtain rfl : k = bl.length := by omega
      go_wp2
      go_ret
      exact ⟨rfl, below_trans hb1 hbl hb1.size⟩

set_option maxRecDepth 100000 in
theorem lifted (os : Os) (started : os.Started) (H : Type) (enc : TypeId × Value → H) :
    ReturnsInHanded {} Try.checked os 6 .any (Rows.wordsCoverSpec.pre6 enc Try.prog Try.f6 Rows.wordsCoverRow.domain false) (Rows.wordsCoverSpec.post enc Try.prog Try.f6 false true false false) := by
  refine returnsInHanded_of_change (C := Try.checked) own started (by kernel_rfl) Try.func6
    (ChangeSpec.witness6 (enc := enc) (C := Try.checked) false ⟨#[], #[.slice none 0 0], []⟩ 8 (by kernel_rfl) (by kernel_rfl) (by kernel_rfl) (by kernel_rfl)) ?_
  intro W base args ds gs before hval0 hW hcnd _
  have hval : ∀ (j : Nat) t v, Try.f6.params[j]? = some t → args[j]? = some v → Value.okWide Try.prog W .any base t v := hval0
  have hW' := hW
  obtain ⟨p, q, hA0, hV, rfl, hfz, hnd⟩ := hW
  have hA : DataW.TrodAll enc Try.prog W 0 (fun _ => true) true Try.f6.params.toList args.toList ds p := hA0
  rw [Try.params6] at hA hval
  obtain ⟨v0, vs0, d0, ds0, p0, q0, hargs, rfl, rfl, h0, r0⟩ := trodAll_cons hA
  obtain ⟨rfl, rfl, rfl⟩ := trodAll_nil r0
  obtain rfl : args = #[v0] := by cases args; simp_all
  obtain ⟨rfl, rfl⟩ := trodVars_none hV
  clear hA0 hval0
  have hlt : ∀ x ∈ p0 ++ [], x.block < W.heap.size := fun x hx => by simpa using hW'.lt x (List.mem_append_left _ hx)
  have k0 := h0
  obtain ⟨A0, l0, c0, rfl⟩ := okWide_slice Try.underlying22 (hval 0 22 v0 rfl rfl)
  obtain ⟨z0, rfl, n0, m0, w0, hh0⟩ := has_ints Try.underlying22 Try.underlying21 (by kernel_rfl) h0 (fun x hx => hlt x (List.mem_append_left _ hx))
  refine (walk A0 c0 z0 W n0 m0 w0 hh0).mono fun e W' ⟨he, hb⟩ => ?_
  subst he
  exact ⟨_, rfl, _, _, _, [], _, [], hW', (trodAll_cons_mk (shut_bool Try.underlying4 _) trodAll_mk0), (trodAll_cons_mk (Below.trod laidOut (by kernel_rfl) (of_decide_eq_true (by kernel_rfl)) k0 hb (fun x hx => hlt x (List.mem_append_left _ hx))) trodAll_mk0), rfl, hb.frame _, fun h => by cases h⟩

theorem over : Rows.wordsCoverRow.holds Try.pinned (OpenSpec.ofChange Rows.wordsCoverSpec) :=
  OpenClaim.holds_of_wide 6 Try.f6 rfl rfl rfl rfl rfl rfl rfl ⟨rfl, rfl, rfl, rfl, rfl⟩ rfl rfl rfl rfl rfl (by kernel_rfl) Try.func6 (by kernel_rfl)
    (of_decide_eq_true (by kernel_rfl)) (by unfold Func.isWrapper; first | (rw [if_pos (by decide +kernel)]; kernel_rfl) | (rw [if_neg (by decide +kernel)]; exact ⟨rfl, rfl⟩))
    (fun os started H enc _ => lifted os started H enc)

/-- the statement -/
theorem proved : Rows.WordsCoverSaid :=
  over
#print axioms proved
end Go.Proofs.Ytcplhbafbjpnlaa.wordsCover
