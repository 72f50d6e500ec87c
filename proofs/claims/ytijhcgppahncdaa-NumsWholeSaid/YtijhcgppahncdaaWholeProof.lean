/-
  For every int n and every slice l of ints the statement NumsWhole returns true: of a small total and at most 20 small weights, the parts of nums.Share add up to the total, none is negative of a total that is not, a weight that is not positive has part 0, and each part differs by less than 1 from its proportional part. No condition.
-/
import Derived.Test.YtijhcgppahncdaaHas
import Derived.Test.YtijhcgppahncdaaWhole
set_option linter.unusedVariables false
namespace Go.Proofs.Ytijhcgppahncdaa.numsWhole
open Go.ChangeShapes Go.WideShapes Go.ChangeAt Go.RowKit Go.Proofs.Ytijhcgppahncdaa
theorem own : ownKnob Try.prog.godebug = none := by kernel_rfl
theorem laidOut : laidOutB Try.prog = true := by kernel_rfl

theorem last_of {k : IntKind} {e : TypeId} {w : World} {B : Nat} {v : Value} {xs : List Int} {y : Int} {n : Nat} (h : Mine k e w B v (xs ++ [y])) (hl : xs.length = n) :
    ∃ g c, v = .slice (some ⟨g, 0, none⟩) (n + 1) c ∧ w.cell? ⟨g, n, none⟩ = some (.int k y) := by
  obtain ⟨g, c, hv, h1, h2, hc⟩ := h.form (by simp)
  exact ⟨g, c, by rw [hv]; simp [hl], hc n y (by rw [← hl]; simp)⟩
theorem share_smalls (t : Int) (t0 : -1048576 < t) (t1 : t < 1048576) (A : Option Addr) (c n : Nat) (zs : List Int) (hl : (smalls zs).length = n) (hn : n ≤ 20) (w : World) (h : Has w w.heap.size A ((smalls zs).map (Value.int .i64))) (hs : 0 < psum (smalls zs)) (hs' : psum (smalls zs) ≤ 20971520) :
    Calls Try.prog 18 #[.int .i64 t, .slice A n c] w fun e w' => ∃ g, e = .returned (.slice (some ⟨g, 0, none⟩) n n) ∧ Hid (∀ j, j < n → w'.cell? ⟨g, j, none⟩ = some (.int .i64 (onePart t (smalls zs) j))) ∧ Below w.heap.size w w' := by
  have h2 := share_any t (by omega) (by omega) A c (smalls zs) w h (by omega) (smalls_wf zs) hs (by omega)
  rw [hl] at h2
  refine h2.mono ?_
  rintro e w' ⟨g, rfl, _, hrow, hb⟩
  refine ⟨g, rfl, Lib.hid fun j hj => ?_, hb⟩
  rw [hrow.cell hj]
  simp [filled, hj]
theorem share_none (t : Int) (A : Option Addr) (c n : Nat) (zs : List Int) (hl : (smalls zs).length = n) (hn : n ≤ 20) (w : World) (h : Has w w.heap.size A ((smalls zs).map (Value.int .i64))) (hs : psum (smalls zs) = 0) :
    Calls Try.prog 18 #[.int .i64 t, .slice A n c] w fun e w' => e = .returned (.slice none 0 0) ∧ Below w.heap.size w w' := by
  have h2 := share_nil t A c (smalls zs) w h (by omega) (smalls_wf zs) hs
  rw [hl] at h2
  exact h2
set_option maxRecDepth 100000 in
set_option maxHeartbeats 4000000 in
theorem walk (a0 : Int) (A1 : Option Addr) (c1 : Nat) (z1 : List Int) (w : World) (w0 : (Lit.int .i64 a0).wf = true) (n1 : z1.length ≤ 9223372036854775807) (w1 : ∀ z ∈ z1, (Lit.int .i64 z).wf = true) (h1 : Has w w.heap.size A1 (z1.map (Value.int .i64))) :
    Calls Try.prog 8 #[.int .i64 a0, .slice A1 z1.length c1] w fun e w' => e = .returned (.bool true) ∧ Below w.heap.size w w' := by
  have hb0 := wf64 w0
  by_cases hl : 20 < z1.length
  · go_enter Try.func8, Try.ntmps8
    go_wp2
    go_ret
    exact ⟨rfl, Below.refl _ _⟩
  · have hsm := small_any a0 hb0.1 hb0.2 w
    obtain ⟨t0, t1⟩ := sm_in a0
    obtain ⟨t, ht⟩ : ∃ t, sm a0 = t := ⟨_, rfl⟩
    rw [ht] at hsm t0 t1
    clear ht hb0 w0
    have HL := Lib.hid (smalls_length z1)
    have hps := psum_small z1
    have HPS : Hid (psum (smalls z1) ≤ 20971520) := Lib.hid (by omega)
    clear hps
    have HWF := Lib.hid w1
    clear w1
    go_enter Try.func8, Try.ntmps8
    go_wp2_with (go_at_call 22; refine hsm.mono ?_; rintro e w' ⟨rfl, rfl⟩)
    clear hsm
    go_loopw [6, 7, 8] (fun a v i wr => ∃ k : Nat, k ≤ z1.length ∧ i = .int .i64 k ∧ a = .int .i64 (psum ((smalls z1).take k)) ∧ Mine .i64 3 wr w.heap.size v ((smalls z1).take k) ∧ Below w.heap.size w wr) (fun _ _ i _ => z1.length - (intOf i).toNat)
    case atStart => exact ⟨0, by omega, rfl, by simp [psum], by simpa using Mine.nil_ _ _ _ _, Below.refl _ _⟩
    case round =>
      obtain ⟨k, hk, rfl, rfl, hown, hbl⟩ := hrel
      have hp0 := psum_nonneg ((smalls z1).take k)
      have hp1 := Int.le_trans (psum_le (smalls z1) k) HPS.out
      have hsz := hbl.size
      by_cases hlt : k < z1.length
      · obtain ⟨b, off, rfl, hb, hc0⟩ := h1.at_int hlt
        have hc := (hbl.cell (p := ⟨b, off + k, none⟩) hb).trans hc0
        have hz := wf64 (HWF.out z1[k] (List.getElem_mem hlt))
        have hst := smalls_take z1 k hlt
        have hpt := psum_take (smalls z1) k (by rw [HL.out]; exact hlt)
        rw [smalls_get z1 k hlt] at hpt
        have hp2 := Int.le_trans (psum_le (smalls z1) (k + 1)) HPS.out
        obtain ⟨y0, y1⟩ := sm_in z1[k]
        have hsc := fun (W : World) => small_any z1[k] hz.1 hz.2 W
        obtain ⟨z, hz'⟩ : ∃ z, z1[k] = z := ⟨_, rfl⟩
        rw [hz'] at hc hsc hst hpt y0 y1
        obtain ⟨y, hy⟩ : ∃ y, sm z = y := ⟨_, rfl⟩
        rw [hy] at hsc hst hpt y0 y1
        have hlen : ((smalls z1).take k).length = k := by rw [List.length_take, HL.out]; omega
        have HLEN := Lib.hid hlen
        obtain ⟨S0, hS0⟩ : ∃ S, psum ((smalls z1).take k) = S := ⟨_, rfl⟩
        rw [hS0] at hpt hp0 hp1 ⊢
        rw [hpt] at hp2
        have HST := Lib.hid hst
        have HPT := Lib.hid hpt
        clear hc0 hz hst hpt hz' hy hlen hS0 h1
        by_cases hp : 0 < y
        · have HPW := Lib.hid (pw_pos hp)
          have hp3 : S0 + y ≤ 20971520 := by have := HPW.out; omega
          clear hp2
          go_wp2_with (first
            | (go_at_call 22; refine (hsc _).mono ?_; rintro e w' ⟨rfl, rfl⟩)
            | (at_builtin; refine wpList_push rfl _ _ 27 rfl Try.underlying27 Try.info3 (by omega) w.heap.size _ ((smalls z1).take k) y w _ hown rfl rfl hbl hsz (by rw [HLEN.out]; omega) ?_; intro v' w1 hown' hbl'; obtain ⟨g, cp, rfl, hcl⟩ := last_of hown' HLEN.out; clear hown hbl))
          go_roundw
          case rel => exact ⟨k + 1, by omega, by go_num, by rw [HPT.out, HPW.out], by rw [HST.out]; exact hown', hbl'⟩
          case measure => simp [intOf]; omega
        · have HPW := Lib.hid (pw_neg hp)
          clear hp2
          go_wp2_with (first
            | (go_at_call 22; refine (hsc _).mono ?_; rintro e w' ⟨rfl, rfl⟩)
            | (at_builtin; refine wpList_push rfl _ _ 27 rfl Try.underlying27 Try.info3 (by omega) w.heap.size _ ((smalls z1).take k) y w _ hown rfl rfl hbl hsz (by rw [HLEN.out]; omega) ?_; intro v' w1 hown' hbl'; obtain ⟨g, cp, rfl, hcl⟩ := last_of hown' HLEN.out; clear hown hbl))
          go_roundw
          case rel => exact ⟨k + 1, by omega, by go_num, by rw [HPT.out, HPW.out]; go_num, by rw [HST.out]; exact hown', hbl'⟩
          case measure => simp [intOf]; omega
      · obtain rfl : k = z1.length := by omega
        have hta : (smalls z1).take z1.length = smalls z1 := by rw [← HL.out]; exact List.take_length
        rw [hta] at hown hp0 hp1 ⊢
        obtain ⟨A2, c2, hv, hh⟩ := hown.reads
        rw [HL.out] at hv
        subst hv
        obtain ⟨W, hW⟩ : ∃ W, psum (smalls z1) = W := ⟨_, rfl⟩
        by_cases h0 : W = 0
        · have hs := share_none t A2 c2 z1.length z1 HL.out (by omega) wr hh (by rw [hW]; exact h0)
          rw [hW]
          clear hW hown hh hta hp0 hp1 h1
          subst h0
          go_wp2_with (go_at_call 18; refine hs.mono ?_; rintro e W1 ⟨rfl, hb1⟩)
          go_ret
          exact ⟨rfl, below_trans hbl hb1 hsz⟩
        · have hs := share_smalls t t0 t1 A2 c2 z1.length z1 HL.out (by omega) wr hh (by omega) HPS.out
          rw [hW] at hp0 hp1 ⊢
          have HW := Lib.hid hW
          have hwp : 0 < W := by omega
          have hnz : (W == 0) = false := by simp; omega
          have HH := Lib.hid hh
          clear hW hown hh hta h1 h0 hp0
          go_wp2_with (go_at_call 18; refine hs.mono ?_; rintro e W1 ⟨g, rfl, HC, hb1⟩)
          clear hnz hs
          have HH1 := Lib.hid (HH.out.carry hb1)
          have HZ := Lib.hid (por_zero t W)
          go_loop [10, 11] (fun s i => ∃ k : Nat, k ≤ z1.length ∧ i = .int .i64 k ∧ s = .int .i64 (por t (psum ((smalls z1).take k)) W)) (fun _ i => z1.length - (intOf i).toNat)
          case atStart => exact ⟨0, by omega, rfl, by simp [psum]; exact HZ.out.symm⟩
          case round =>
            obtain ⟨k, hk, rfl, rfl⟩ := hrel
            by_cases hlt : k < z1.length
            · have hkk : k < (smalls z1).length := by rw [HL.out]; exact hlt
              obtain ⟨b, off, rfl, hb, hc⟩ := HH1.out.at_int hkk
              have hpt := psum_take (smalls z1) k hkk
              have q0 := psum_nonneg ((smalls z1).take k)
              have q1 := psum_le (smalls z1) k
              have q2 := psum_le (smalls z1) (k + 1)
              rw [HW.out] at q1 q2
              have ho := HC.out k hlt
              unfold onePart at ho
              rw [HW.out] at ho
              have hyb := sm_in z1[k]
              rw [← smalls_get z1 k hlt] at hyb
              obtain ⟨y, hy⟩ : ∃ y, (smalls z1)[k] = y := ⟨_, rfl⟩
              rw [hy] at hc hpt hyb
              obtain ⟨S0, hS0⟩ : ∃ S, psum ((smalls z1).take k) = S := ⟨_, rfl⟩
              obtain ⟨S1, hS1⟩ : ∃ S, psum ((smalls z1).take (k + 1)) = S := ⟨_, rfl⟩
              rw [hS0] at hpt q0 q1 ho ⊢
              rw [hS1] at hpt q2 ho
              have HS1 := Lib.hid hS1
              have hpn := pw_nonneg y
              have hA := part_in (t := t) (W := W) (S0 := S0) (S1 := S1) ⟨t0, t1, hwp, hp1, q0, by omega, q2⟩
              have hx : S1 - S0 = pw y := by omega
              rw [hx] at hA
              have hbd0 := por_in t W S0 q0 q1 hwp
              have hbd1 := por_in t W S1 (by omega) q2 hwp
              obtain ⟨P0, hP0⟩ : ∃ P, por t S0 W = P := ⟨_, rfl⟩
              obtain ⟨P1, hP1⟩ : ∃ P, por t S1 W = P := ⟨_, rfl⟩
              rw [hP0] at hA ho hbd0 ⊢
              rw [hP1] at hA ho hbd1
              have HP1 := Lib.hid hP1
              have bP0 : -1048576 ≤ P0 ∧ P0 ≤ 1048576 := by
                rcases Int.lt_or_le t 0 with h | h
                · have := hbd0.2 h; omega
                · have := hbd0.1 h; omega
              have bP1 : -1048576 ≤ P1 ∧ P1 ≤ 1048576 := by
                rcases Int.lt_or_le t 0 with h | h
                · have := hbd1.2 h; omega
                · have := hbd1.1 h; omega
              rw [IntWalk.wrap64_in _ (by omega)] at ho
              have hD0 : pw y = 0 → P1 - P0 = 0 := fun h => by
                have : S1 = S0 := by omega
                rw [← hP1, ← hP0, this]; omega
              obtain ⟨D, hD⟩ : ∃ D, P1 - P0 = D := ⟨_, rfl⟩
              rw [hD] at hA ho hD0
              have HD : Hid (P0 + D = P1) := Lib.hid (by omega)
              obtain ⟨A0, A1', A2', A3, A4, A5, A6, A7, A8⟩ := hA
              clear hpt hx hbd0 hbd1 hP0 hP1 hS0 hS1 hy hD q1 q2 hpn bP1
              by_cases hp : 0 < y
              · rw [pw_pos hp] at A3 A4 A7 A8
                have hyz : (y == 0) = false := by simp; omega
                clear hD0
                rcases Int.lt_or_le t 0 with ht | ht
                · clear A0
                  go_wp2
                  go_round
                  case rel => exact ⟨k + 1, by omega, by go_num, by rw [HS1.out, HP1.out, ← HD.out]⟩
                  case measure => simp [intOf]; omega
                · have hdn := A0 ht
                  clear A0
                  go_wp2
                  go_round
                  case rel => exact ⟨k + 1, by omega, by go_num, by rw [HS1.out, HP1.out, ← HD.out]⟩
                  case measure => simp [intOf]; omega
              · rw [pw_neg hp] at A3 A4 A7 A8
                have hd : D = 0 := hD0 (pw_neg hp)
                subst hd
                clear hD0 A0
                have HP : Hid (P1 = P0) := Lib.hid (by have := HD.out; omega)
                go_wp2
                all_goals
                  go_round
                  case rel => exact ⟨k + 1, by omega, by go_num, by rw [HS1.out, HP1.out, HP.out]⟩
                  case measure => simp [intOf]; omega
            · obtain rfl : k = z1.length := by omega
              have hta : (smalls z1).take z1.length = smalls z1 := by rw [← HL.out]; exact List.take_length
              rw [hta, HW.out, por_whole t W hwp]
              clear hta
              go_wp2
              go_ret
              exact ⟨rfl, below_trans hbl hb1 hsz⟩

set_option maxRecDepth 100000 in
theorem lifted (os : Os) (started : os.Started) (H : Type) (enc : TypeId × Value → H) :
    ReturnsInHanded {} Try.checked os 8 .any (Rows.numsWholeSpec.pre6 enc Try.prog Try.f8 Rows.numsWholeRow.domain false) (Rows.numsWholeSpec.post enc Try.prog Try.f8 false true false false) := by
  refine returnsInHanded_of_change (C := Try.checked) own started (by kernel_rfl) Try.func8
    (ChangeSpec.witness6 (enc := enc) (C := Try.checked) false ⟨#[], #[.int .i64 0, .slice none 0 0], []⟩ 8 (by kernel_rfl) (by kernel_rfl) (by kernel_rfl) (by kernel_rfl)) ?_
  intro W base args ds gs before hval0 hW hcnd _
  have hval : ∀ (j : Nat) t v, Try.f8.params[j]? = some t → args[j]? = some v → Value.okWide Try.prog W .any base t v := hval0
  have hW' := hW
  obtain ⟨p, q, hA0, hV, rfl, hfz, hnd⟩ := hW
  have hA : DataW.TrodAll enc Try.prog W 0 (fun _ => true) true Try.f8.params.toList args.toList ds p := hA0
  rw [Try.params8] at hA hval
  obtain ⟨v0, vs0, d0, ds0, p0, q0, hargs, rfl, rfl, h0, r0⟩ := trodAll_cons hA
  obtain ⟨v1, vs1, d1, ds1, p1, q1, rfl, rfl, rfl, h1, r1⟩ := trodAll_cons r0
  obtain ⟨rfl, rfl, rfl⟩ := trodAll_nil r1
  obtain rfl : args = #[v0, v1] := by cases args; simp_all
  obtain ⟨rfl, rfl⟩ := trodVars_none hV
  clear hA0 hval0
  have hlt : ∀ x ∈ p0 ++ (p1 ++ []), x.block < W.heap.size := fun x hx => by simpa using hW'.lt x (List.mem_append_left _ hx)
  have k0 := h0
  have k1 := h1
  obtain ⟨a0, rfl, rfl, rfl, w0⟩ := open_int Try.underlying3 (hval 0 3 v0 rfl rfl) h0
  obtain ⟨A1, l1, c1, rfl⟩ := okWide_slice Try.underlying27 (hval 1 27 v1 rfl rfl)
  obtain ⟨z1, rfl, n1, w1, hh1⟩ := has_ints Try.underlying27 Try.underlying3 (by kernel_rfl) h1 (fun x hx => hlt x (List.mem_append_right _ (List.mem_append_left _ hx)))
  refine (walk a0 A1 c1 z1 W w0 n1 w1 hh1).mono fun e W' ⟨he, hb⟩ => ?_
  subst he
  exact ⟨_, rfl, _, _, _, [], _, [], hW', (trodAll_cons_mk (shut_bool Try.underlying4 _) trodAll_mk0), (trodAll_cons_mk (Below.trod laidOut (by kernel_rfl) (of_decide_eq_true (by kernel_rfl)) k0 hb (fun x hx => hlt x (List.mem_append_left _ hx))) (trodAll_cons_mk (Below.trod laidOut (by kernel_rfl) (of_decide_eq_true (by kernel_rfl)) k1 hb (fun x hx => hlt x (List.mem_append_right _ (List.mem_append_left _ hx)))) trodAll_mk0)), rfl, hb.frame _, fun h => by cases h⟩

theorem over : Rows.numsWholeRow.holds Try.pinned (OpenSpec.ofChange Rows.numsWholeSpec) :=
  OpenClaim.holds_of_wide 8 Try.f8 rfl rfl rfl rfl rfl rfl rfl ⟨rfl, rfl, rfl, rfl, rfl⟩ rfl rfl rfl rfl rfl (by kernel_rfl) Try.func8 (by kernel_rfl)
    (of_decide_eq_true (by kernel_rfl)) (by unfold Func.isWrapper; first | (rw [if_pos (by decide +kernel)]; kernel_rfl) | (rw [if_neg (by decide +kernel)]; exact ⟨rfl, rfl⟩))
    (fun os started H enc _ => lifted os started H enc)

/-- the statement -/
theorem proved : Rows.NumsWholeSaid :=
  over
#print axioms proved
end Go.Proofs.Ytijhcgppahncdaa.numsWhole
