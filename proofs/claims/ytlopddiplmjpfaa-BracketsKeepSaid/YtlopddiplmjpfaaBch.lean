/-
  The statement's changes, where it answers yes, and its example. Condition: at most 1000 characters.
-/
import Derived.Test.YtlopddiplmjpfaaBss
set_option linter.unusedVariables false
set_option linter.unusedSimpArgs false
namespace Go.Proofs.Ytlopddiplmjpfaa
open Go.ChangeShapes Go.WideShapes Go.ChangeAt Go.RowKit Go.Sort

set_option maxHeartbeats 4000000 in
theorem changes_ok (A L : Option Addr) (ca cl n m i0 j q : Nat) (ts : List Int) (l : List (Nat × Nat)) (p : Nat × Nat) (w : World) (hn : n = ts.length) (hm : m = l.length) (hmax : n ≤ 1000) (hmm : m ≤ 1000) (hj : j < n) (hi : i0 ≤ j)
    (h0 : nsmB ts i0 = false) (h1 : ∀ x, i0 < x → x ≤ j → nsmB ts x = true) (hq : l[q]? = some p) (hp : i0 = p.1 ∨ i0 = p.2) (ht : Has w w.heap.size A (ts.map (Value.int .i32))) (hl : HasP w w.heap.size L l) :
    Calls Try.prog 18 #[.slice A n ca, .slice L m cl, .int .i64 j] w fun e w' => e = .returned (.bool true) ∧ Up w w' := by
  have HN := Lib.hid hn
  have HM := Lib.hid hm
  have HT := Lib.hid (fun (w' : World) (hu : Up w w') => ht.up hu)
  have HL := Lib.hid (fun (w' : World) (hu : Up w w') => hl.up hu)
  have HQ := Lib.hid hq
  have H0 := Lib.hid h0
  have H1 := Lib.hid h1
  have HP := Lib.hid hp
  have hql : q < m := by rw [hm]; exact (List.getElem?_eq_some_iff.1 hq).1
  clear hn hm ht hl hq h0 h1 hp
  go_enter Try.func18, Try.ntmps18
  go_wp2
  go_loopw [2] (fun v wr => ∃ k : Nat, i0 ≤ k ∧ k ≤ j ∧ v = .int .i64 k ∧ Up w wr) (fun v _ => (intOf v).toNat)
  case atStart => exact ⟨j, hi, Nat.le_refl _, rfl, Up.refl _⟩
  case round =>
    obtain ⟨k, hik, hkj, rfl, hU⟩ := hrel
    have hlt2 : k < ts.length := by have := HN.out; omega
    obtain ⟨b, off, rfl, hb, hcc⟩ := (HT.out _ hU).at_int hlt2
    have hnk := nsm_at ts k hlt2
    generalize ts[k] = X at hcc hnk
    obtain ⟨pr, hpr⟩ : ∃ pr, ofP X = pr := ⟨_, rfl⟩
    rw [hpr] at hnk
    have hc := fun w => of_x X pr hpr w
    have hfb := fun w => field_bd pr w
    clear hpr
    obtain ⟨pb, p1, p2, p3, p4, p5, p6, p7, p8⟩ := pr
    dsimp only at hc hfb hnk
    have HC := Lib.hid hc
    clear hc
    by_cases hki : k = i0
    · have HK := Lib.hid hki
      have e9 : (pb == 9) = false := by rw [← hnk, hki]; exact H0.out
      clear hnk hki
      by_cases hk0 : 0 < k
      · have hgt : decide ((0 : Int) < k) = true := decide_eq_true (by omega)
        go_wp2_with (first | (go_at_call 17; refine (HC.out _).mono ?_; rintro e u ⟨rfl, hu⟩; have hU5 := hU.trans hu))
        clear hfb e9 HC hgt hU hcc
        obtain ⟨WA, hWA⟩ : ∃ WA, WA = u := ⟨_, rfl⟩
        subst hWA
        go_loopw [7] (fun v wr => ∃ i : Nat, i ≤ q ∧ v = .int .i64 i ∧ ∃ z, wr = WA.drewN z) (fun v _ => m - (intOf v).toNat)
        case atStart => exact ⟨0, Nat.zero_le _, rfl, 0, rfl⟩
        case round =>
          obtain ⟨i, hiq, rfl, z, rfl⟩ := hrel
          have him : i < l.length := by have := HM.out; omega
          obtain ⟨b2, o2, hA2, hb2, hcx, hcy⟩ := (HL.out _ hU5).at_ him
          subst hA2
          have hxi : l[i]? = some l[i] := List.getElem?_eq_getElem him
          generalize l[i] = r at hcx hcy hxi
          obtain ⟨x, y⟩ := r
          have d1 : WA.cell? ⟨b2, o2 + i * 2, none⟩ = some (.int .i64 (x : Int)) := hcx
          have d2 : WA.cell? ⟨b2, o2 + i * 2 + 1, none⟩ = some (.int .i64 (y : Int)) := hcy
          have him2 : i < m := by omega
          by_cases hx : x = k
          · have hxd : ((x : Int) == (k : Int)) = true := by simp [hx]
            clear hcx hcy hxi hx him
            go_wp2
            go_ret
            exact ⟨rfl, hU5.drewN z⟩
          · have hxd : ((x : Int) == (k : Int)) = false := by simp; omega
            by_cases hy : y = k
            · have hyd : ((y : Int) == (k : Int)) = true := by simp [hy]
              clear hcx hcy hxi hx hy him
              go_wp2
              go_ret
              exact ⟨rfl, hU5.drewN z⟩
            · have hyd : ((y : Int) == (k : Int)) = false := by simp; omega
              have hne : i ≠ q := fun e => by
                subst e
                rw [HQ.out] at hxi
                injection hxi with hxi
                have := HP.out
                have := HK.out
                rw [hxi] at *
                simp only at *
                omega
              clear hcx hcy hxi hx hy him
              go_wp2
              go_roundw
              case rel => exact ⟨i + 1, by omega, by go_num, z, rfl⟩
              case measure => simp [intOf] <;> omega
      · have hgt : decide ((0 : Int) < k) = false := decide_eq_false (by omega)
        go_wp2
        have hU5 := hU
        clear hfb e9 HC hgt hU hcc
        obtain ⟨WA, hWA⟩ : ∃ WA, WA = wr := ⟨_, rfl⟩
        subst hWA
        go_loopw [7] (fun v wr => ∃ i : Nat, i ≤ q ∧ v = .int .i64 i ∧ ∃ z, wr = WA.drewN z) (fun v _ => m - (intOf v).toNat)
        case atStart => exact ⟨0, Nat.zero_le _, rfl, 0, rfl⟩
        case round =>
          obtain ⟨i, hiq, rfl, z, rfl⟩ := hrel
          have him : i < l.length := by have := HM.out; omega
          obtain ⟨b2, o2, hA2, hb2, hcx, hcy⟩ := (HL.out _ hU5).at_ him
          subst hA2
          have hxi : l[i]? = some l[i] := List.getElem?_eq_getElem him
          generalize l[i] = r at hcx hcy hxi
          obtain ⟨x, y⟩ := r
          have d1 : WA.cell? ⟨b2, o2 + i * 2, none⟩ = some (.int .i64 (x : Int)) := hcx
          have d2 : WA.cell? ⟨b2, o2 + i * 2 + 1, none⟩ = some (.int .i64 (y : Int)) := hcy
          have him2 : i < m := by omega
          by_cases hx : x = k
          · have hxd : ((x : Int) == (k : Int)) = true := by simp [hx]
            clear hcx hcy hxi hx him
            go_wp2
            go_ret
            exact ⟨rfl, hU5.drewN z⟩
          · have hxd : ((x : Int) == (k : Int)) = false := by simp; omega
            by_cases hy : y = k
            · have hyd : ((y : Int) == (k : Int)) = true := by simp [hy]
              clear hcx hcy hxi hx hy him
              go_wp2
              go_ret
              exact ⟨rfl, hU5.drewN z⟩
            · have hyd : ((y : Int) == (k : Int)) = false := by simp; omega
              have hne : i ≠ q := fun e => by
                subst e
                rw [HQ.out] at hxi
                injection hxi with hxi
                have := HP.out
                have := HK.out
                rw [hxi] at *
                simp only at *
                omega
              clear hcx hcy hxi hx hy him
              go_wp2
              go_roundw
              case rel => exact ⟨i + 1, by omega, by go_num, z, rfl⟩
              case measure => simp [intOf] <;> omega
    · have h9 : pb = 9 := by
        have := H1.out k (by omega) hkj
        rw [hnk] at this
        simpa using this
      subst h9
      have hk0 : 0 < k := by omega
      have hgt : decide ((0 : Int) < k) = true := decide_eq_true (by omega)
      clear hnk
      go_wp2_with (first | (go_at_call 17; refine (HC.out _).mono ?_; rintro e u ⟨rfl, hu⟩; have hU5 := hU.trans hu))
      go_roundw
      case rel => exact ⟨k - 1, by omega, by omega, by go_num, hU5⟩
      case measure => simp [intOf] <;> omega

theorem lit_has (w : World) (q : IntKind) (e : TypeId) (xs : List Int) : Has (w.alloc (.cells (xs.map (Value.int q)).toArray e)) (w.alloc (.cells (xs.map (Value.int q)).toArray e)).heap.size (some ⟨w.heap.size, 0, none⟩) (xs.map (Value.int q)) := has_lit w q e xs
theorem alive_pairs : PairsV [40, 41] [14, 14] [(0, 1)] := by
  have h : (scanS [40, 41] [14, 14] 2).out = [(0, 1)] := by kernel_rfl
  refine ⟨fun h => absurd rfl h, fun _ => ⟨by simp, fun p => ?_⟩⟩
  show p ∈ [(0, 1)] ↔ p ∈ (scanS [40, 41] [14, 14] 2).out
  rw [h]
set_option maxHeartbeats 2000000 in
theorem alive_ok (w : World) : Calls Try.prog 16 #[] w fun e w' => e = .returned (.bool true) ∧ Below w.heap.size w w' := by
  have hb1 : Below w.heap.size w (w.alloc (.cells #[.int .i32 40, .int .i32 41] 21)) := (Below.refl _ _).alloc (Nat.le_refl _) _
  have hb2 : Below w.heap.size w ((w.alloc (.cells #[.int .i32 40, .int .i32 41] 21)).alloc (.cells #[.int .i64 14, .int .i64 14] 3)) := hb1.alloc hb1.size _
  have h1 : Has (w.alloc (.cells #[.int .i32 40, .int .i32 41] 21)) (w.alloc (.cells #[.int .i32 40, .int .i32 41] 21)).heap.size (some ⟨w.heap.size, 0, none⟩) (([40, 41] : List Int).map (Value.int .i32)) := has_lit w .i32 21 [40, 41]
  have h2 : Has ((w.alloc (.cells #[.int .i32 40, .int .i32 41] 21)).alloc (.cells #[.int .i64 14, .int .i64 14] 3)) ((w.alloc (.cells #[.int .i32 40, .int .i32 41] 21)).alloc (.cells #[.int .i64 14, .int .i64 14] 3)).heap.size (some ⟨(w.alloc (.cells #[.int .i32 40, .int .i32 41] 21)).heap.size, 0, none⟩) (([14, 14] : List Int).map (Value.int .i64)) := has_lit _ .i64 3 [14, 14]
  have h1' := h1.carry ((Below.refl _ _).alloc (Nat.le_refl _) (.cells #[.int .i64 14, .int .i64 14] 3))
  have hsz : (w.alloc (.cells #[.int .i32 40, .int .i32 41] 21)).heap.size = w.heap.size + 1 := by simp
  have HP := Lib.hid (fun c d => pairs_ok (some ⟨w.heap.size, 0, none⟩) (some ⟨(w.alloc (.cells #[.int .i32 40, .int .i32 41] 21)).heap.size, 0, none⟩) c d 2 2 [40, 41] [14, 14] _ rfl rfl (by omega) h1' h2)
  rw [hsz] at HP
  clear hsz
  have HU : Hid (∀ l, PairsV [40, 41] [14, 14] l → l.length = 1) := Lib.hid (fun l h => by rw [h.unique alive_pairs]; rfl)
  clear h1 h2 h1' hb1
  go_enter Try.func16, Try.ntmps16
  go_wp2_with (first | (go_at_call 10; refine (HP.out _ _).mono ?_; rintro e u ⟨l, ⟨v, rfl, hv, hb⟩, hl⟩; obtain ⟨A, c, rfl, _, _, _⟩ := hv.has; have hb3 := below_trans hb2 hb hb2.size; rw [HU.out l hl]))
  go_ret
  exact ⟨rfl, hb3⟩

theorem field_op (p : Pr) (w : World) : (Instr.field 37 (.agg #[.int .i64 p.bidi, .int .i64 p.cl, .int .i64 p.br, .int .i64 p.sc, .int .i64 p.jn, .int .i64 p.wd, .int .i32 p.mi, .int .i32 p.pa, .bool p.op]) 8).run Try.prog w = .ok (.bool p.op) w := by
  simp [Instr.field, go_sem, part, asAgg, Try.isAgg37]
theorem field_pa (p : Pr) (w : World) : (Instr.field 37 (.agg #[.int .i64 p.bidi, .int .i64 p.cl, .int .i64 p.br, .int .i64 p.sc, .int .i64 p.jn, .int .i64 p.wd, .int .i32 p.mi, .int .i32 p.pa, .bool p.op]) 7).run Try.prog w = .ok (.int .i32 p.pa) w := by
  simp [Instr.field, go_sem, part, asAgg, Try.isAgg37]
/-- what is known of a bracket that opens, and of one that closes -/
theorem opn_at {t cs : List Int} {i : Nat} (h : opnB t cs i = true) : cs.getD i 0 = 14 ∧ (ofP (t.getD i 0)).pa ≠ 0 ∧ (ofP (t.getD i 0)).op = true := by
  unfold opnB at h
  simp only [Bool.and_eq_true, beq_iff_eq, bne_iff_ne] at h
  exact ⟨h.1.1, h.1.2, h.2⟩
theorem cls_at {t cs : List Int} {i : Nat} (h : clsB t cs i = true) : cs.getD i 0 = 14 ∧ (ofP (t.getD i 0)).pa ≠ 0 ∧ (ofP (t.getD i 0)).op = false := by
  unfold clsB at h
  simp only [Bool.and_eq_true, beq_iff_eq, bne_iff_ne, Bool.not_eq_true'] at h
  exact ⟨h.1.1, h.1.2, h.2⟩
end Go.Proofs.Ytlopddiplmjpfaa
