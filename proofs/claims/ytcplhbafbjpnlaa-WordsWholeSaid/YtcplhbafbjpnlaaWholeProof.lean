/-
  For every []rune t and uint8 gap the statement WordsWhole returns true: letters and digits alone are one word, so are spaces, and two words with a gap between them are three. No condition.
-/
import Derived.Test.YtcplhbafbjpnlaaHas
import Derived.Test.YtcplhbafbjpnlaaWCnt
import Derived.Test.YtcplhbafbjpnlaaWWho
import Derived.Test.YtcplhbafbjpnlaaPush
set_option linter.unusedVariables false
namespace Go.Proofs.Ytcplhbafbjpnlaa.wordsWhole
open Go.ChangeShapes Go.WideShapes Go.ChangeAt Go.RowKit Go.Proofs.Ytcplhbafbjpnlaa
theorem own : ownKnob Try.prog.godebug = none := by kernel_rfl
theorem laidOut : laidOutB Try.prog = true := by kernel_rfl

theorem long_ok (A : Option Addr) (n c : Nat) (w : World) : Calls Try.prog 8 #[.slice A n c] w fun e w' => e = .returned (.bool (decide (40 < n))) ∧ w = w' := by
  by_cases h : 40 < n
  · have hd : decide ((40 : Int) < n) = true := decide_eq_true (by omega)
    have hd2 : decide (40 < n) = true := decide_eq_true h
    go_enter Try.func8, Try.ntmps8
    go_wp2
    go_ret
    exact ⟨by simp [h], rfl⟩
  · have hd : decide ((40 : Int) < n) = false := decide_eq_false (by omega)
    have hd2 : decide (40 < n) = false := decide_eq_false h
    go_enter Try.func8, Try.ntmps8
    go_wp2
    go_ret
    exact ⟨by simp [h], rfl⟩
theorem letter_ok (r : Int) (w : World) (hr : (Lit.int .i32 r).wf = true) : Calls Try.prog 21 #[.int .i32 r] w fun e w' => e = .returned (.int .i32 (letN r)) ∧ w = w' := by
  have h1 : (r.tmod 36).natAbs < 36 := by
    rw [Int.natAbs_tmod]
    exact Nat.mod_lt _ (by decide)
  unfold letN
  obtain ⟨q, hq⟩ : ∃ q, r.tmod 36 = q := ⟨_, rfl⟩
  rw [hq] at h1 ⊢
  obtain ⟨V, hV⟩ : ∃ V, (if q.natAbs < 10 then 48 + (q.natAbs : Int) else 87 + (q.natAbs : Int)) = V := ⟨_, rfl⟩
  rw [hV]
  have HV := Lib.hid hV
  clear hV
  have b1 : -36 < q := by omega
  have b2 : q < 36 := by omega
  by_cases h0 : q < 0
  · by_cases h10 : -q < 10
    · have HE : Hid (V = 48 + -q) := Lib.hid (by rw [← HV.out, if_pos (by omega)]; omega)
      clear h1
      go_enter Try.func21, Try.ntmps21
      go_wp2
      go_ret
      exact ⟨by rw [HE.out]; first | rfl | go_num, rfl⟩
    · have HE : Hid (V = 97 + -q - 10) := Lib.hid (by rw [← HV.out, if_neg (by omega)]; omega)
      clear h1
      go_enter Try.func21, Try.ntmps21
      go_wp2
      go_ret
      exact ⟨by rw [HE.out]; first | rfl | go_num, rfl⟩
  · by_cases h10 : q < 10
    · have HE : Hid (V = 48 + q) := Lib.hid (by rw [← HV.out, if_pos (by omega)]; omega)
      clear h1
      go_enter Try.func21, Try.ntmps21
      go_wp2
      go_ret
      exact ⟨by rw [HE.out]; first | rfl | go_num, rfl⟩
    · have HE : Hid (V = 97 + q - 10) := Lib.hid (by rw [← HV.out, if_neg (by omega)]; omega)
      clear h1
      go_enter Try.func21, Try.ntmps21
      go_wp2
      go_ret
      exact ⟨by rw [HE.out]; first | rfl | go_num, rfl⟩

theorem two_eq (A : Option Addr) (c : Nat) (x : Int) (u : World) (h : Has u u.heap.size A ([0, x].map (Value.int .i64))) :
    Calls Try.prog 9 #[.slice A 2 c, .slice (some ⟨u.heap.size, 0, none⟩) 2 2] (u.alloc (.cells #[.int .i64 0, .int .i64 x] 3)) fun e w' => e = .returned (.bool true) ∧ Below u.heap.size u w' :=
  (eqs_ok A (some ⟨u.heap.size, 0, none⟩) c 2 2 [0, x] (u.alloc (.cells #[.int .i64 0, .int .i64 x] 3)) rfl (by decide) (h.carry ((Below.refl _ _).alloc (Nat.le_refl _) _)) (has_lit u .i64 3 [0, x])).mono
    fun e w' ⟨he, hb⟩ => ⟨he, below_trans ((Below.refl u.heap.size u).alloc (Nat.le_refl _) _) hb ((Below.refl u.heap.size u).alloc (Nat.le_refl _) _).size⟩
theorem four_eq (A : Option Addr) (c : Nat) (x y z : Int) (u : World) (h : Has u u.heap.size A ([0, x, y, z].map (Value.int .i64))) :
    Calls Try.prog 9 #[.slice A 4 c, .slice (some ⟨u.heap.size, 0, none⟩) 4 4] (u.alloc (.cells #[.int .i64 0, .int .i64 x, .int .i64 y, .int .i64 z] 3)) fun e w' => e = .returned (.bool true) ∧ Below u.heap.size u w' :=
  (eqs_ok A (some ⟨u.heap.size, 0, none⟩) c 4 4 [0, x, y, z] (u.alloc (.cells #[.int .i64 0, .int .i64 x, .int .i64 y, .int .i64 z] 3)) rfl (by decide) (h.carry ((Below.refl _ _).alloc (Nat.le_refl _) _)) (has_lit u .i64 3 [0, x, y, z])).mono
    fun e w' ⟨he, hb⟩ => ⟨he, below_trans ((Below.refl u.heap.size u).alloc (Nat.le_refl _) _) hb ((Below.refl u.heap.size u).alloc (Nat.le_refl _) _).size⟩

set_option maxRecDepth 20000 in
set_option maxHeartbeats 8000000 in
theorem walk (A0 : Option Addr) (c0 : Nat) (z0 : List Int) (a1 : Int) (w : World) (n0 : z0.length ≤ 9223372036854775807) (m0 : z0.length ≤ c0) (w0 : ∀ z ∈ z0, (Lit.int .i32 z).wf = true) (h0 : Has w w.heap.size A0 (z0.map (Value.int .i32))) (w1 : (Lit.int .u8 a1).wf = true) :
    Calls Try.prog 7 #[.slice A0 z0.length c0, .int .u8 a1] w fun e w' => e = .returned (.bool true) ∧ Below w.heap.size w w' := by
  by_cases hl : 40 < z0.length
  · have hld : decide (40 < z0.length) = true := decide_eq_true hl
    have HL := Lib.hid (fun w => long_ok A0 z0.length c0 w)
    rw [hld] at HL
    clear w0 m0 h0 w1
    go_enter Try.func7, Try.ntmps7
    go_wp2_with (first | (go_at_call 8; (with_reducible refine (HL.out _).mono ?_); rintro e u ⟨rfl, rfl⟩))
    go_ret
    exact ⟨rfl, Below.refl _ _⟩
  have hld : decide (40 < z0.length) = false := decide_eq_false hl
  have HL := Lib.hid (fun w => long_ok A0 z0.length c0 w)
  rw [hld] at HL
  rcases Nat.eq_zero_or_pos z0.length with hz | hz
  · rw [hz] at HL ⊢
    clear w0 m0 h0 w1 hl hld hz n0
    go_enter Try.func7, Try.ntmps7
    go_wp2_with (first | (go_at_call 8; (with_reducible refine (HL.out _).mono ?_); rintro e u ⟨rfl, rfl⟩))
    go_ret
    exact ⟨rfl, Below.refl _ _⟩
  have hzb : ((z0.length : Int) == 0) = false := beq_eq_false_iff_ne.2 (by omega)
  have hw1 : 0 ≤ a1 ∧ a1 ≤ 255 := by
    have h := w1
    simp [Lit.wf, IntKind.min, IntKind.max, IntKind.signed, IntKind.bits] at h
    omega
  obtain ⟨m, hm⟩ : ∃ m : Nat, 1 + a1 % 4 = m := ⟨(1 + a1 % 4).toNat, by omega⟩
  have hm4 : 1 ≤ m ∧ m ≤ 4 := by omega
  have HLT := Lib.hid (fun (k : Nat) (hk : k < z0.length) w => letter_ok z0[k] w (w0 _ (List.getElem_mem hk)))
  have hH := Lib.hid h0
  have HTK := Lib.hid (show ∀ (k : Nat) (hk : k < z0.length), (z0.take (k + 1)).map letN = (z0.take k).map letN ++ [letN z0[k]] from fun k hk => by rw [take_step z0 k hk, List.map_append]; rfl)
  have HLL := Lib.hid (show ((z0.take z0.length).map letN) = z0.map letN by rw [List.take_length])
  clear w0 h0
  have hn40 : z0.length ≤ 40 := by omega
  clear hl hld n0 w1
  go_enter Try.func7, Try.ntmps7
  go_wp2_with (first | (go_at_call 8; (with_reducible refine (HL.out _).mono ?_); rintro e u ⟨rfl, rfl⟩))
  go_loopw [7, 10] (fun v i wr => ∃ k : Nat, k ≤ z0.length ∧ i = .int .i64 k ∧ Mine .i32 21 wr w.heap.size v ((z0.take k).map letN) ∧ Below w.heap.size w wr) (fun _ i _ => z0.length - (intOf i).toNat)
  case atStart => exact ⟨0, by omega, rfl, Mine.nil_ _ _ _ _, Below.refl _ _⟩
  case round =>
    obtain ⟨k, hk, rfl, hown, hbw⟩ := hrel
    by_cases hlt : k < z0.length
    · obtain ⟨b, off, rfl, hb, hcc⟩ := (hH.out.carry hbw).at_int hlt
      have HLK := Lib.hid (HLT.out k hlt)
      have HT := Lib.hid (HTK.out k hlt)
      have hlen : ((z0.take k).map letN).length ≤ 1001 := by rw [List.length_map, List.length_take]; omega
      generalize z0[k] = X at hcc HLK HT
      generalize letN X = y at HLK HT
      generalize (z0.take k).map letN = acc at hown hlen HT
      go_wp2_with (first
        | (go_at_call 21; (with_reducible refine (HLK.out _).mono ?_); rintro e u ⟨rfl, rfl⟩)
        | (at_builtin; refine wpList_push rfl _ _ 22 rfl Try.underlying22 Try.full21 (by omega) w.heap.size _ acc y w _ hown rfl rfl hbw hbw.size (by omega) ?_; intro v2 w2 hM3 hb3))
      go_roundw
      case rel => exact ⟨k + 1, by omega, by go_num, by rw [HT.out]; exact hM3, hb3⟩
      case measure => simp [intOf] <;> omega
    · obtain rfl : k = z0.length := by omega
      rw [HLL.out] at hown
      obtain ⟨W1, rfl⟩ : ∃ W1, W1 = wr := ⟨_, rfl⟩
      clear hlt hk
      go_wp2
      go_loopw [9, 11] (fun v i w2 => ∃ k : Nat, k ≤ m ∧ i = .int .i64 k ∧ Mine .i32 21 w2 W1.heap.size v (List.replicate k 32) ∧ Below W1.heap.size W1 w2) (fun _ i _ => m - (intOf i).toNat)
      case atStart => exact ⟨0, by omega, rfl, Mine.nil_ _ _ _ _, Below.refl _ _⟩
      case round =>
        obtain ⟨k, hk, rfl, hown2, hbw2⟩ := hrel
        by_cases hlt : k < m
        · have HT := Lib.hid (show List.replicate (k + 1) (32 : Int) = List.replicate k 32 ++ [32] from List.replicate_succ')
          have hlen : (List.replicate k (32 : Int)).length ≤ 1001 := by rw [List.length_replicate]; omega
          generalize List.replicate k (32 : Int) = acc at hown2 hlen HT
          go_wp2_with (first | (at_builtin; refine wpList_push rfl _ _ 22 rfl Try.underlying22 Try.full21 (by omega) W1.heap.size _ acc 32 W1 _ hown2 rfl rfl hbw2 hbw2.size (by omega) ?_; intro v2 w2 hM3 hb3))
          go_roundw
          case rel => exact ⟨k + 1, by omega, by go_num, by rw [HT.out]; exact hM3, hb3⟩
          case measure => simp [intOf] <;> omega
        · obtain rfl : k = m := by omega
          obtain ⟨W2, rfl⟩ : ∃ W2, W2 = wr := ⟨_, rfl⟩
          have hB2 := below_trans hbw hbw2 hbw.size
          have hownB := hown.below hbw2
          have hL1 : ∀ x ∈ z0.map letN, cl x = 0 ∧ alB (wd x) = true := fun x hx => by
            rw [List.mem_map] at hx
            obtain ⟨r, _, rfl⟩ := hx
            exact let_al r
          have hL2 : ∀ x ∈ List.replicate k (32 : Int), cl x = 0 ∧ wd x = 7 := fun x hx => by
            rw [List.eq_of_mem_replicate hx]
            exact sp_cl
          have hpl : (z0.map letN).length = z0.length := List.length_map ..
          have hql : (List.replicate k (32 : Int)).length = k := List.length_replicate
          generalize z0.map letN = p at *
          generalize List.replicate k (32 : Int) = q at *
          obtain ⟨f1, f2⟩ := own_wbs p (by omega) hL1
          obtain ⟨f3, f4⟩ := gap_wbs q (by omega) hL2
          obtain ⟨f5, f6, f7⟩ := all_wbs p q (by omega) (by omega) hL1 hL2
          have hall : (p ++ q ++ p).length = 2 * z0.length + k := by rw [List.length_append, List.length_append]; omega
          rw [hpl] at f1
          rw [hql] at f3
          rw [hpl, hql] at f5 f7
          have HB1 : Hid (∀ A c w, p.length ≤ c → Has w w.heap.size A (p.map (Value.int .i32)) → Calls Try.prog 10 #[.slice A z0.length c] w fun e w' => SliceOf .i64 w w' e [0, (z0.length : Int)]) := Lib.hid (fun A c w hc h => by
            have := wbounds_ok A c p w (by omega) hc h
            rw [f1, hpl] at this
            exact this)
          have HB2 : Hid (∀ A c w, q.length ≤ c → Has w w.heap.size A (q.map (Value.int .i32)) → Calls Try.prog 10 #[.slice A k c] w fun e w' => SliceOf .i64 w w' e [0, (k : Int)]) := Lib.hid (fun A c w hc h => by
            have := wbounds_ok A c q w (by omega) hc h
            rw [f3, hql] at this
            exact this)
          have HB3 : Hid (∀ A c w, (p ++ q ++ p).length ≤ c → Has w w.heap.size A ((p ++ q ++ p).map (Value.int .i32)) → Calls Try.prog 10 #[.slice A (2 * z0.length + k) c] w fun e w' => SliceOf .i64 w w' e [0, (z0.length : Int), (z0.length : Int) + k, 2 * (z0.length : Int) + k]) := Lib.hid (fun A c w hc h => by
            have := wbounds_ok A c (p ++ q ++ p) w (by omega) hc h
            rw [f5, hall] at this
            exact this)
          have HC1 : Hid (∀ A c w, p.length ≤ c → Has w w.heap.size A (p.map (Value.int .i32)) → Calls Try.prog 18 #[.slice A z0.length c] w fun e w' => e = .returned (.int .i64 1) ∧ Below w.heap.size w w') := Lib.hid (fun A c w hc h => by
            have := wcount_ok A c p w (by omega) hc h
            rw [f2, hpl] at this
            exact this)
          have HC2 : Hid (∀ A c w, q.length ≤ c → Has w w.heap.size A (q.map (Value.int .i32)) → Calls Try.prog 18 #[.slice A k c] w fun e w' => e = .returned (.int .i64 0) ∧ Below w.heap.size w w') := Lib.hid (fun A c w hc h => by
            have := wcount_ok A c q w (by omega) hc h
            rw [f4, hql] at this
            exact this)
          have HC3 : Hid (∀ A c w, (p ++ q ++ p).length ≤ c → Has w w.heap.size A ((p ++ q ++ p).map (Value.int .i32)) → Calls Try.prog 18 #[.slice A (2 * z0.length + k) c] w fun e w' => e = .returned (.int .i64 2) ∧ Below w.heap.size w w') := Lib.hid (fun A c w hc h => by
            have := wcount_ok A c (p ++ q ++ p) w (by omega) hc h
            rw [f6, hall] at this
            exact this)
          have HK3 : Hid (∀ A c w, (p ++ q ++ p).length ≤ c → Has w w.heap.size A ((p ++ q ++ p).map (Value.int .i32)) → Calls Try.prog 16 #[.slice A (2 * z0.length + k) c, .agg #[.int .i64 z0.length, .int .i64 ((z0.length : Int) + k)]] w fun e w' => e = .returned (.int .i64 7) ∧ Up w w') := Lib.hid (fun A c w hc h => by
            have := wKind_ok A c z0.length ((z0.length : Int) + k) (p ++ q ++ p) w (by omega) hc h
            rw [show ((z0.length : Int) + k) = ((z0.length + k : Nat) : Int) from rfl, f7, hall] at this
            exact this)
          have HQ2 := Lib.hid two_eq
          have HQ4 := Lib.hid four_eq
          obtain ⟨A1, c1, rfl, ⟨hc1, _⟩, hs1, _⟩ := hownB.sliceV hB2
          obtain ⟨A2, c2, rfl, ⟨hc2, _⟩, hs2, _⟩ := hown2.sliceV hbw2
          have e1 : A1 = none → c1 = 0 := fun e => by
            obtain ⟨b, off, e2, _⟩ := hs1 (fun e3 => by rw [List.map_eq_nil_iff] at e3; rw [e3] at hpl; simp at hpl; omega)
            rw [e] at e2; cases e2
          have e2 : A2 = none → c2 = 0 := fun e => by
            obtain ⟨b, off, e2, _⟩ := hs2 (fun e3 => by rw [List.map_eq_nil_iff] at e3; rw [e3] at hql; simp at hql; omega)
            rw [e] at e2; cases e2
          rw [hpl, hql]
          have hm0 : Mine .i32 21 W2 W2.heap.size (.slice none 0 0) [] := Mine.nil_ _ _ _ _
          have HPL := Lib.hid hpl
          have HQL := Lib.hid hql
          have HAL := Lib.hid hall
          have hkd : ¬ (k : Int) < k := by omega
          have hcp := Lib.hid hc1
          have hcq := Lib.hid hc2
          have hp1 : p.length ≤ 1000 := by omega
          have hq1 : q.length ≤ 1000 := by omega
          clear f1 f2 f3 f4 f5 f6 f7 hL1 hL2 hpl hql hall hown hownB hown2 hc1 hc2 HLT HTK HLL hH hlt hk
          go_wp2_with (first
            | (at_builtin; (refine wpList_pushall rfl _ _ 22 rfl Try.underlying22 Try.full21 (by omega) W2.heap.size _ [] p W2 _ A1 z0.length c1 HPL.out.symm e1 hs1 hm0 rfl rfl (Below.refl _ _) (Nat.le_refl _) (by simp) (by omega) ?_); intro v3 w3 hm3 hb3 _; rw [List.nil_append] at hm3; have g2 := hs2.carry hb3)
            | (at_builtin; (refine wpList_pushall rfl _ _ 22 rfl Try.underlying22 Try.full21 (by omega) W2.heap.size _ p q W2 _ A2 k c2 HQL.out.symm e2 g2 hm3 rfl rfl hb3 hb3.size (by omega) (by omega) ?_); intro v4 w4 hm4' hb4 _; have g3 := hs1.carry hb4)
            | (at_builtin; (refine wpList_pushall rfl _ _ 22 rfl Try.underlying22 Try.full21 (by omega) W2.heap.size _ (p ++ q) p W2 _ A1 z0.length c1 HPL.out.symm e1 g3 hm4' rfl rfl hb4 hb4.size (by rw [List.length_append]; omega) (by omega) ?_); intro v5 w5 hm5 hb5 _; obtain ⟨A5, c5, rfl, ⟨hc5, _⟩, hs5, _⟩ := hm5.sliceV hb5; have hcr := Lib.hid hc5; rw [HAL.out]; have hs1 := hs1.carry hb5; have hs2 := hs2.carry hb5; have hB5 := below_trans hB2 hb5 hB2.size; have hb : Below w5.heap.size w5 w5 := Below.refl _ _; clear hm5 hm4' hm3 hc5)
            | (go_at_call 10; first
                | (with_reducible refine (HB1.out _ _ _ hcp.out (hs1.carry hb)).mono ?_)
                | (with_reducible refine (HB2.out _ _ _ hcq.out (hs2.carry hb)).mono ?_)
                | (with_reducible refine (HB3.out _ _ _ hcr.out (hs5.carry hb)).mono ?_)
               rintro e ub ⟨vb, rfl, Ab, cb, rfl, _, hx, hbx⟩
               have hb := below_trans hb hbx hb.size)
            | (go_at_call 9; first
                | (with_reducible refine (HQ2.out _ _ _ _ hx).mono ?_)
                | (with_reducible refine (HQ4.out _ _ _ _ _ _ hx).mono ?_)
               rintro e uq ⟨rfl, hbq⟩
               have hb := below_trans hb hbq hb.size)
            | (go_at_call 18; first
                | (with_reducible refine (HC1.out _ _ _ hcp.out (hs1.carry hb)).mono ?_)
                | (with_reducible refine (HC2.out _ _ _ hcq.out (hs2.carry hb)).mono ?_)
                | (with_reducible refine (HC3.out _ _ _ hcr.out (hs5.carry hb)).mono ?_)
               rintro e uc ⟨rfl, hbc⟩
               have hb := below_trans hb hbc hb.size)
            | (go_at_call 16; (with_reducible refine (HK3.out _ _ _ hcr.out (hs5.carry hb)).mono ?_); rintro e uk ⟨rfl, hbk⟩; have hb := below_trans hb hbk.1 hb.size))
          go_ret
          exact ⟨rfl, below_trans hB5 hb hB5.size⟩

set_option maxRecDepth 100000 in
theorem lifted (os : Os) (started : os.Started) (H : Type) (enc : TypeId × Value → H) :
    ReturnsInHanded {} Try.checked os 7 .any (Rows.wordsWholeSpec.pre6 enc Try.prog Try.f7 Rows.wordsWholeRow.domain false) (Rows.wordsWholeSpec.post enc Try.prog Try.f7 false true false false) := by
  refine returnsInHanded_of_change (C := Try.checked) own started (by kernel_rfl) Try.func7
    (ChangeSpec.witness6 (enc := enc) (C := Try.checked) false ⟨#[], #[.slice none 0 0, .int .u8 0], []⟩ 8 (by kernel_rfl) (by kernel_rfl) (by kernel_rfl) (by kernel_rfl)) ?_
  intro W base args ds gs before hval0 hW hcnd _
  have hval : ∀ (j : Nat) t v, Try.f7.params[j]? = some t → args[j]? = some v → Value.okWide Try.prog W .any base t v := hval0
  have hW' := hW
  obtain ⟨p, q, hA0, hV, rfl, hfz, hnd⟩ := hW
  have hA : DataW.TrodAll enc Try.prog W 0 (fun _ => true) true Try.f7.params.toList args.toList ds p := hA0
  rw [Try.params7] at hA hval
  obtain ⟨v0, vs0, d0, ds0, p0, q0, hargs, rfl, rfl, h0, r0⟩ := trodAll_cons hA
  obtain ⟨v1, vs1, d1, ds1, p1, q1, rfl, rfl, rfl, h1, r1⟩ := trodAll_cons r0
  obtain ⟨rfl, rfl, rfl⟩ := trodAll_nil r1
  obtain rfl : args = #[v0, v1] := by cases args; simp_all
  obtain ⟨rfl, rfl⟩ := trodVars_none hV
  clear hA0 hval0
  have hlt : ∀ x ∈ p0 ++ (p1 ++ []), x.block < W.heap.size := fun x hx => by simpa using hW'.lt x (List.mem_append_left _ hx)
  have k0 := h0
  have k1 := h1
  obtain ⟨A0, l0, c0, rfl⟩ := okWide_slice Try.underlying22 (hval 0 22 v0 rfl rfl)
  obtain ⟨z0, rfl, n0, m0, w0, hh0⟩ := has_ints Try.underlying22 Try.underlying21 (by kernel_rfl) h0 (fun x hx => hlt x (List.mem_append_left _ hx))
  obtain ⟨a1, rfl, rfl, rfl, w1⟩ := open_int Try.underlying5 (hval 1 5 v1 rfl rfl) h1
  refine (walk A0 c0 z0 a1 W n0 m0 w0 hh0 w1).mono fun e W' ⟨he, hb⟩ => ?_
  subst he
  exact ⟨_, rfl, _, _, _, [], _, [], hW', (trodAll_cons_mk (shut_bool Try.underlying4 _) trodAll_mk0), (trodAll_cons_mk (Below.trod laidOut (by kernel_rfl) (of_decide_eq_true (by kernel_rfl)) k0 hb (fun x hx => hlt x (List.mem_append_left _ hx))) (trodAll_cons_mk (Below.trod laidOut (by kernel_rfl) (of_decide_eq_true (by kernel_rfl)) k1 hb (fun x hx => hlt x (List.mem_append_right _ (List.mem_append_left _ hx)))) trodAll_mk0)), rfl, hb.frame _, fun h => by cases h⟩

theorem over : Rows.wordsWholeRow.holds Try.pinned (OpenSpec.ofChange Rows.wordsWholeSpec) :=
  OpenClaim.holds_of_wide 7 Try.f7 rfl rfl rfl rfl rfl rfl rfl ⟨rfl, rfl, rfl, rfl, rfl⟩ rfl rfl rfl rfl rfl (by kernel_rfl) Try.func7 (by kernel_rfl)
    (of_decide_eq_true (by kernel_rfl)) (by unfold Func.isWrapper; first | (rw [if_pos (by decide +kernel)]; kernel_rfl) | (rw [if_neg (by decide +kernel)]; exact ⟨rfl, rfl⟩))
    (fun os started H enc _ => lifted os started H enc)

/-- the statement -/
theorem proved : Rows.WordsWholeSaid :=
  over
#print axioms proved
end Go.Proofs.Ytcplhbafbjpnlaa.wordsWhole
