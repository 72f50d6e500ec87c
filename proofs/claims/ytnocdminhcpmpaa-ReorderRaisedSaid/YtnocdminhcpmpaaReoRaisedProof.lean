/-
  For every []int the statement ReorderRaised returns true: all levels one more turn the order round; within one level places rise or fall by one. No condition.
-/
import Derived.Test.YtnocdminhcpmpaaHas
import Derived.Test.YtnocdminhcpmpaaRon
set_option linter.unusedVariables false
namespace Go.Proofs.Ytnocdminhcpmpaa.reorderRaised
open Go.ChangeShapes Go.WideShapes Go.ChangeAt Go.RowKit Go.Proofs.Ytnocdminhcpmpaa
theorem own : ownKnob Try.prog.godebug = none := by kernel_rfl
theorem laidOut : laidOutB Try.prog = true := by kernel_rfl

/-- the levels of the statement -/
def lvsR (z : List Int) (k : Nat) : List Nat := (z.take k).map levP
def lvs1 (z : List Int) (k : Nat) : List Nat := (lvsR z k).map (· + 1)
theorem lvsR_len (z : List Int) (k : Nat) (h : k ≤ z.length) : (lvsR z k).length = k := by simp [lvsR]; omega
theorem lvs1_len (z : List Int) (k : Nat) (h : k ≤ z.length) : (lvs1 z k).length = k := by unfold lvs1; rw [List.length_map, lvsR_len z k h]
theorem lvsR_snoc (z : List Int) (k : Nat) (x : Int) (h : z[k]? = some x) : lvsR z (k + 1) = lvsR z k ++ [levP x] := by
  unfold lvsR
  rw [List.take_add_one, h, List.map_append]; rfl
theorem lvs1_snoc (z : List Int) (k : Nat) (x : Int) (h : z[k]? = some x) : lvs1 z (k + 1) = lvs1 z k ++ [levP x + 1] := by
  unfold lvs1
  rw [lvsR_snoc z k x h, List.map_append]; rfl
theorem lvsR_le (z : List Int) (k : Nat) : ∀ x ∈ lvsR z k, x ≤ 125 := fun x hx => by
  unfold lvsR at hx
  obtain ⟨y, _, rfl⟩ := List.mem_map.1 hx
  exact lev_le y
theorem two_swap {w wr : World} {B : Nat} {v u : Value} {L M : List Nat} (h : TwoS w B wr v u L M) : TwoS w B wr u v M L := ⟨h.two, h.one, h.far.symm, h.bel⟩
theorem has_get {W : World} {B : Nat} {A : Option Addr} {P : List Int} {i : Nat} {x : Int} (h : Has W B A (P.map (Value.int .i64))) (hi : P[i]? = some x) : ∃ b off, A = some ⟨b, off, none⟩ ∧ W.cell? ⟨b, off + i, none⟩ = some (.int .i64 x) := by
  have hlt := (List.getElem?_eq_some_iff.1 hi).1
  obtain ⟨b, off, e, _, hc⟩ := h.at_int hlt
  rw [List.getElem?_eq_getElem hlt] at hi
  injection hi with hi
  rw [hi] at hc
  exact ⟨b, off, e, hc⟩
theorem walk (A0 : Option Addr) (c0 : Nat) (z0 : List Int) (w : World) (n0 : z0.length ≤ 9223372036854775807) (m0 : z0.length ≤ c0) (w0 : ∀ z ∈ z0, (Lit.int .i64 z).wf = true) (h0 : Has w w.heap.size A0 (z0.map (Value.int .i64))) :
    Calls Try.prog 7 #[.slice A0 z0.length c0] w fun e w' => e = .returned (.bool true) ∧ Below w.heap.size w w' := by
  have HLG := Lib.hid (fun W => long_ok A0 z0.length c0 W)
  by_cases hl : 30 < z0.length
  · rw [decide_eq_true hl] at HLG
    clear w0 m0 h0
    go_enter Try.func7, Try.ntmps7
    go_wp2_with (go_at_call 9; (with_reducible refine (HLG.out _).mono ?_); rintro e u ⟨rfl, rfl⟩)
    go_ret
    exact ⟨rfl, Below.refl _ _⟩
  rw [decide_eq_false hl] at HLG
  have hn2 : z0.length ≤ 30 := by omega
  have HH := Lib.hid (fun (W : World) (hb : Below w.heap.size w W) => h0.below hb)
  obtain ⟨n, hn⟩ : ∃ n, z0.length = n := ⟨_, rfl⟩
  have HN := Lib.hid hn
  rw [hn] at HLG hn2
  rw [hn]
  have H00 : Hid (TwoS w w.heap.size w (.slice none 0 0) (.slice none 0 0) (lvsR z0 0) (lvs1 z0 0)) := Lib.hid ⟨Mine.nil_ _ _ _ _, Mine.nil_ _ _ _ _, apart_nil _, Below.refl _ _⟩
  clear w0 m0 h0 hl n0 hn
  go_enter Try.func7, Try.ntmps7
  go_wp2_with (go_at_call 9; (with_reducible refine (HLG.out _).mono ?_); rintro e u ⟨rfl, rfl⟩)
  clear HLG
  go_loopw [3, 4, 5] (fun v3 v4 v5 wr => ∃ k : Nat, k ≤ n ∧ v5 = .int .i64 (k : Int) ∧ Hid (TwoS w w.heap.size wr v3 v4 (lvsR z0 k) (lvs1 z0 k))) (fun _ _ v _ => n - (intOf v).toNat)
  case atStart => exact ⟨0, by omega, rfl, H00⟩
  case round =>
    clear H00
    obtain ⟨k, hkn, rfl, HS⟩ := hrel
    by_cases hlt : k < n
    · have hk1 : k < z0.length := by have := HN.out; omega
      have h1 := HS.out.one
      have hb := HS.out.bel
      have hB := hb.size
      obtain ⟨b0, o0, rfl, hb0, hcc⟩ := (HH.out _ hb).at_int hk1
      have hx : z0[k]? = some z0[k] := List.getElem?_eq_getElem hk1
      have HS1 := Lib.hid (lvsR_snoc z0 k _ hx)
      have HS2 := Lib.hid (lvs1_snoc z0 k _ hx)
      have HLV := Lib.hid (fun W => level_ok z0[k] W)
      have hle := lev_le z0[k]
      have hl1 : (inN (lvsR z0 k)).length ≤ 1000000000 := by rw [inN_len, lvsR_len z0 k (by omega)]; omega
      have hl2 : (inN (lvs1 z0 k)).length ≤ 1000000000 := by rw [inN_len, lvs1_len z0 k (by omega)]; omega
      generalize levP z0[k] = V at *
      generalize z0[k] = X at *
      have HBW := Lib.hid hb
      clear hx hk1 hb
      go_wp2_with (first
        | (go_at_call 22; (with_reducible refine (HLV.out _).mono ?_); rintro e u ⟨rfl, rfl⟩)
        | (at_builtin; (refine wpList_push_far (k := .i64) (bytes := 8) rfl _ _ 22 rfl Try.underlying22 fullI (by decide) w.heap.size _ (inN (lvsR z0 k)) (V : Int) _ h1 rfl rfl hB hl1 ?_; intro v1 w1 hM1 hb1 hf1; have S1 := two_swap (HS.out.push hM1 hb1 hf1); have h2 := S1.one; have hB2 := S1.bel.size; have hccx : w1.cell? ⟨b0, o0 + k, none⟩ = some (.int .i64 X) := (hb1.cell (p := ⟨b0, o0 + k, none⟩) hb0).trans hcc))
        | (at_builtin; (refine wpList_push_far (k := .i64) (bytes := 8) rfl _ _ 22 rfl Try.underlying22 fullI (by decide) w.heap.size _ (inN (lvs1 z0 k)) ((V : Int) + 1) _ h2 rfl rfl hB2 hl2 ?_; intro v2 w2 hM2 hb2 hf2; have S2 := two_swap (S1.push (x := V + 1) hM2 hb2 hf2))))
      go_roundw
      case rel => exact ⟨k + 1, by omega, by go_num, Lib.hid (by rw [HS1.out, HS2.out]; exact S2)⟩
      case measure => simp [intOf] <;> omega
    · obtain rfl : k = n := by omega
      have la : (inN (lvsR z0 k)).length = k := by rw [inN_len, lvsR_len z0 k (by have := HN.out; omega)]
      have lb : (inN (lvs1 z0 k)).length = k := by rw [inN_len, lvs1_len z0 k (by have := HN.out; omega)]
      obtain ⟨A3, c3, e3, _, _, s3⟩ := HS.out.one.size
      obtain ⟨A4, c4, e4, _, _, s4⟩ := HS.out.two.size
      rw [la] at e3
      rw [lb] at e4
      subst e3; subst e4
      have hle := lvsR_le z0 k
      have hup := ord_up (lvsR z0 k) (lvs1 z0 k) hle rfl
      rw [lvsR_len z0 k (by have := HN.out; omega)] at hup
      have HVA := Lib.hid (visual_ok A3 k c3 (inN (lvsR z0 k)) wr la.symm (by omega) s3)
      have HVB := Lib.hid (fun (W : World) (hb : Below wr.heap.size wr W) => visual_ok A4 k c4 (inN (lvs1 z0 k)) W lb.symm (by omega) (s4.carry hb))
      have HLA := Lib.hid (fun (W : World) (hb : Below wr.heap.size wr W) => logical_ok A3 k c3 (inN (lvsR z0 k)) W la.symm (by omega) (s3.carry hb))
      rw [hup] at HVB
      have HPN := Lib.hid (fun i h he => put_near (lvX (inN (lvsR z0 k))) k i (fun i => lv_le _ i) h he)
      have HLV := Lib.hid (fun i (hi : i < k) => lvX_inN (lvsR z0 k) i (fun x hx => by have := hle x hx; omega) (by rw [lvsR_len z0 k (by have := HN.out; omega)]; exact hi))
      have HOG := Lib.hid (fun i hi => ord_get (lvX (inN (lvsR z0 k))) k i hi)
      have HOL := Lib.hid (ord_len (lvX (inN (lvsR z0 k))) k)
      have HPL := Lib.hid (put_len k (ordX (lvX (inN (lvsR z0 k))) k) k)
      have HOX := Lib.hid (fun i hi => ord_getlt (lvX (inN (lvsR z0 k))) k i hi)
      generalize lvX (inN (lvsR z0 k)) = lv at *
      generalize putK k (ordX lv k) k = P at *
      generalize ordX lv k = V at *
      have HAL : Hid ((lvsR z0 k).length = k ∧ ∀ x ∈ lvsR z0 k, x ≤ 125) := Lib.hid ⟨lvsR_len z0 k (by have := HN.out; omega), hle⟩
      have HB0 := Lib.hid HS.out.bel
      have LV : Hid ((inN V).length = k) := Lib.hid (by rw [inN_len, HOL.out])
      have LR : Hid ((inN V.reverse).length = k) := Lib.hid (by rw [inN_len, List.length_reverse, HOL.out])
      generalize lvsR z0 k = La at *
      have S3 := Lib.hid s3
      clear hup hle la lb s3 s4 HS hlt HH
      go_wp2_with (first
        | (go_at_call 11; (with_reducible refine HVA.out.mono ?_); rintro e z1 ⟨v, rfl, m1, b1⟩; obtain ⟨A6, c6, e6, _, _, s6⟩ := m1.size; rw [LV.out] at e6; subst e6)
        | (go_at_call 11; (with_reducible refine (HVB.out _ b1).mono ?_); rintro e z2 ⟨v, rfl, m2, b2⟩; obtain ⟨A7, c7, e7, _, _, s7⟩ := m2.size; rw [LR.out] at e7; subst e7; have b12 := below_trans b1 b2 b1.size)
        | (go_at_call 13; (with_reducible refine (HLA.out _ b12).mono ?_); rintro e z3 ⟨v, rfl, m3, b3⟩; obtain ⟨A8, c8, e8, _, _, s8⟩ := m3.size; rw [HPL.out] at e8; subst e8; have b13 := below_trans b12 b3 b12.size))
      have HZ : Hid (Has z3 z3.heap.size A3 ((inN La).map (Value.int .i64)) ∧ Has z3 z3.heap.size A6 ((inN V).map (Value.int .i64)) ∧ Has z3 z3.heap.size A7 ((inN V.reverse).map (Value.int .i64)) ∧ Has z3 z3.heap.size A8 (P.map (Value.int .i64))) :=
        Lib.hid ⟨S3.out.carry b13, (s6.carry b2).carry b3, s7.carry b3, s8⟩
      have HBZ := Lib.hid b13
      clear m1 m2 m3 s6 s7 s8 b1 b2 b3 b12 b13 HVA HVB HLA S3
      go_loopw [9] (fun v wr => ∃ i : Nat, i ≤ k ∧ v = .int .i64 (i : Int) ∧ ∃ q, wr = z3.drewN q) (fun v _ => k - (intOf v).toNat)
      case atStart => exact ⟨0, by omega, rfl, 0, rfl⟩
      case round =>
        obtain ⟨i, hik, rfl, q, rfl⟩ := hrel
        by_cases hlt : i < k
        · have hx := HOG.out i hlt
          generalize V.getD i 0 = x at *
          obtain ⟨e, he⟩ : ∃ e, e = k - 1 - i := ⟨_, rfl⟩
          have hek : e < k := by omega
          have hez : ((k : Int) - 1 - (i : Int)) = (e : Int) := by omega
          have hrx : V.reverse[e]? = some x := by
            rw [List.getElem?_reverse (by rw [HOL.out]; omega), HOL.out, show k - 1 - e = i by omega]
            exact hx
          obtain ⟨b6, o6, rfl, c6x⟩ := has_get HZ.out.2.1 (inN_get V i x hx)
          obtain ⟨b7, o7, rfl, c7x⟩ := has_get HZ.out.2.2.1 (inN_get V.reverse e x hrx)
          clear hrx hx he
          rcases Nat.eq_zero_or_pos i with h0 | h0
          · have hi0 : ¬ ((0 : Int) < (i : Int)) := by omega
            have hi1 : ¬ (0 < i) := by omega
            clear h0
            go_wp2
            go_quiet (fail)
            go_wp2
            go_quiet (fail)
            go_wp2
            go_roundw
            case rel => exact ⟨i + 1, by omega, by go_num, _, rfl⟩
            case measure => simp [intOf] <;> omega
          · obtain ⟨j, hj⟩ : ∃ j, i = j + 1 := ⟨i - 1, by omega⟩
            have hji : ((i : Int) - 1) = (j : Int) := by omega
            have hi0 : ((0 : Int) < (i : Int)) := by omega
            have hjk : j < k := by omega
            have hai : La[i]? = some (La.getD i 0) := by rw [List.getD_eq_getElem?_getD, List.getElem?_eq_getElem (by have := HAL.out.1; omega)]; rfl
            have haj : La[j]? = some (La.getD j 0) := by rw [List.getD_eq_getElem?_getD, List.getElem?_eq_getElem (by have := HAL.out.1; omega)]; rfl
            have hlai := HAL.out.2 _ (List.mem_of_getElem? hai)
            have hlaj := HAL.out.2 _ (List.mem_of_getElem? haj)
            obtain ⟨b3, o3, rfl, c3i⟩ := has_get HZ.out.1 (inN_get La i _ hai)
            obtain ⟨b3', o3', hE, c3j⟩ := has_get HZ.out.1 (inN_get La j _ haj)
            cases hE
            have hnr := HPN.out j (by omega)
            rw [← hj, HLV.out j hjk, HLV.out i hlt] at hnr
            have HJ := Lib.hid hj
            generalize La.getD i 0 = ai at *
            generalize La.getD j 0 = aj at *
            clear hai haj hj
            by_cases hab : aj = ai
            · subst hab
              obtain ⟨p, hpk, hp⟩ := hnr rfl
              obtain ⟨p0, p1, hp0, hp1, hpr⟩ : ∃ p0 p1 : Int, P[j]? = some p0 ∧ P[i]? = some p1 ∧ 0 ≤ p0 ∧ p0 ≤ 1000 ∧ 0 ≤ p1 ∧ p1 ≤ 1000 ∧ ((aj % 2 = 0 ∧ (aj : Int).tmod 2 = 0 ∧ p1 - p0 = 1) ∨ (aj % 2 = 1 ∧ (aj : Int).tmod 2 = 1 ∧ p1 - p0 = -1)) := by
                rcases nat_mod2 aj with ⟨e1, e2⟩ | ⟨e1, e2⟩
                · rw [if_neg (by omega)] at hp
                  exact ⟨_, _, hp.1, hp.2, by omega, by omega, by omega, by omega, .inr ⟨e1, e2, by omega⟩⟩
                · rw [if_pos e1] at hp
                  exact ⟨_, _, hp.1, hp.2, by omega, by omega, by omega, by omega, .inl ⟨e1, e2, by omega⟩⟩
              obtain ⟨q1, q2, q3, q4, hpr⟩ := hpr
              obtain ⟨b8, o8, rfl, c8i⟩ := has_get HZ.out.2.2.2 hp1
              obtain ⟨b8', o8', hE, c8j⟩ := has_get HZ.out.2.2.2 hp0
              cases hE
              clear hp hp0 hp1 hnr hpk
              rcases hpr with ⟨_, hm, hd⟩ | ⟨_, hm, hd⟩
              all_goals
                go_wp2
                go_quiet (fail)
                go_wp2
                go_quiet (fail)
                go_wp2
                go_roundw
                case rel => exact ⟨i + 1, by omega, by go_num, _, rfl⟩
                case measure => simp [intOf] <;> omega
            · have hab2 : ¬ ((ai : Int) = (aj : Int)) := by omega
              have hab3 : ¬ (ai = aj) := by omega
              have hab4 : ((ai : Int) == (aj : Int)) = false := by simp; omega
              clear hnr hab
              go_wp2
              go_quiet (fail)
              go_wp2
              go_quiet (fail)
              go_wp2
              go_roundw
              case rel => exact ⟨i + 1, by omega, by go_num, _, rfl⟩
              case measure => simp [intOf] <;> omega
        · obtain rfl : i = k := by omega
          go_wp2
          go_ret
          exact ⟨rfl, below_drewN (HB0.out.trans (HBZ.out.mono HB0.out.size)) _⟩

set_option maxRecDepth 100000 in
theorem lifted (os : Os) (started : os.Started) (H : Type) (enc : TypeId × Value → H) :
    ReturnsInHanded {} Try.checked os 7 .any (Rows.reorderRaisedSpec.pre6 enc Try.prog Try.f7 Rows.reorderRaisedRow.domain false) (Rows.reorderRaisedSpec.post enc Try.prog Try.f7 false true false false) := by
  refine returnsInHanded_of_change (C := Try.checked) own started (by kernel_rfl) Try.func7
    (ChangeSpec.witness6 (enc := enc) (C := Try.checked) false ⟨#[], #[.slice none 0 0], []⟩ 8 (by kernel_rfl) (by kernel_rfl) (by kernel_rfl) (by kernel_rfl)) ?_
  intro W base args ds gs before hval0 hW hcnd _
  have hval : ∀ (j : Nat) t v, Try.f7.params[j]? = some t → args[j]? = some v → Value.okWide Try.prog W .any base t v := hval0
  have hW' := hW
  obtain ⟨p, q, hA0, hV, rfl, hfz, hnd⟩ := hW
  have hA : DataW.TrodAll enc Try.prog W 0 (fun _ => true) true Try.f7.params.toList args.toList ds p := hA0
  rw [Try.params7] at hA hval
  obtain ⟨v0, vs0, d0, ds0, p0, q0, hargs, rfl, rfl, h0, r0⟩ := trodAll_cons hA
  obtain ⟨rfl, rfl, rfl⟩ := trodAll_nil r0
  obtain rfl : args = #[v0] := by cases args; simp_all
  obtain ⟨rfl, rfl⟩ := trodVars_none hV
  clear hA0 hval0
  have hlt : ∀ x ∈ p0 ++ [], x.block < W.heap.size := fun x hx => by simpa using hW'.lt x (List.mem_append_left _ hx)
  have k0 := h0
  obtain ⟨A0, l0, c0, rfl⟩ := okWide_slice Try.underlying22 (hval 0 22 v0 rfl rfl)
  obtain ⟨z0, rfl, n0, m0, w0, hh0⟩ := has_ints Try.underlying22 Try.underlying3 (by kernel_rfl) h0 (fun x hx => hlt x (List.mem_append_left _ hx))
  refine (walk A0 c0 z0 W n0 m0 w0 hh0).mono fun e W' ⟨he, hb⟩ => ?_
  subst he
  exact ⟨_, rfl, _, _, _, [], _, [], hW', (trodAll_cons_mk (shut_bool Try.underlying4 _) trodAll_mk0), (trodAll_cons_mk (Below.trod laidOut (by kernel_rfl) (of_decide_eq_true (by kernel_rfl)) k0 hb (fun x hx => hlt x (List.mem_append_left _ hx))) trodAll_mk0), rfl, hb.frame _, fun h => by cases h⟩

theorem over : Rows.reorderRaisedRow.holds Try.pinned (OpenSpec.ofChange Rows.reorderRaisedSpec) :=
  OpenClaim.holds_of_wide 7 Try.f7 rfl rfl rfl rfl rfl rfl rfl ⟨rfl, rfl, rfl, rfl, rfl⟩ rfl rfl rfl rfl rfl (by kernel_rfl) Try.func7 (by kernel_rfl)
    (of_decide_eq_true (by kernel_rfl)) (by unfold Func.isWrapper; first | (rw [if_pos (by decide +kernel)]; kernel_rfl) | (rw [if_neg (by decide +kernel)]; exact ⟨rfl, rfl⟩))
    (fun os started H enc _ => lifted os started H enc)

/-- the statement -/
theorem proved : Rows.ReorderRaisedSaid :=
  over
#print axioms proved
end Go.Proofs.Ytnocdminhcpmpaa.reorderRaised
