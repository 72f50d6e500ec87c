/-
  Contracts of the document's Bounds, Is and Words. Condition: at most 1000 code points.
-/
import Derived.Test.YtcplhbafbjpnlaaWKinds
import Derived.Test.YtcplhbafbjpnlaaWHang
set_option linter.unusedVariables false
set_option linter.unusedSimpArgs false
namespace Go.Proofs.Ytcplhbafbjpnlaa
open Go.ChangeShapes Go.WideShapes Go.ChangeAt Go.RowKit Go.Sort

theorem K_take (zs : List Int) (k X Y : Nat) (h1 : (bnds (cls zs))[k]? = some X) (h2 : (bnds (cls zs))[k + 1]? = some Y) : X ≤ Y ∧ Y ≤ zs.length ∧ (KL zs).take (k + 1) = (KL zs).take k ++ [kOf zs X Y] := by
  obtain ⟨g1, g2⟩ := List.getElem?_eq_some_iff.1 h1
  obtain ⟨g3, g4⟩ := List.getElem?_eq_some_iff.1 h2
  have h : (cutsL (cls zs))[k]? = some (X, Y) := by
    unfold cutsL
    rw [List.getElem?_eq_getElem (by rw [pairs_len]; omega), pairs_get _ _ g3, g2, g4]
  obtain ⟨a, b, c⟩ := cut_facts zs k X Y h
  exact ⟨by omega, b, c⟩

set_option maxHeartbeats 4000000 in
theorem rwbounds_ok (A : Option Addr) (c : Nat) (zs : List Int) (w : World) (hn : zs.length ≤ 1000) (hc : zs.length ≤ c) (h : Has w w.heap.size A (zs.map (Value.int .i32))) :
    Calls Try.prog 11 #[.slice A zs.length c] w fun e w' => SliceOf .i64 w w' e (zb (wbs zs)) := by
  have HC := Lib.hid (fun w h => rbounds_ok A c zs w hn hc h)
  have hbn : (bnds (cls zs)).length ≤ 1001 := by have := Bs_len (cls zs) ((cls zs).length + 1); have := cls_len zs; unfold bnds; omega
  have HKT := Lib.hid (K_take zs)
  have HST := Lib.hid (wbk_step zs)
  have HLK := Lib.hid (show ∀ k, k ≤ 1002 → (zb (wbk zs k)).length ≤ 1002 from fun k hk => by rw [zb_len]; have := wbk_len zs k; omega)
  have HKL := Lib.hid (KL_len zs)
  have HZ0 := Lib.hid (wbk_zero zs)
  have HE := Lib.hid (cutAt_end (KL zs))
  have HEV := Lib.hid (cutAt_zero (KL zs))
  have HHG := Lib.hid (fun A cp i w h1 hi hn h => hang_ok A cp i (KL zs) w h1 hi hn h)
  rw [← wbk_all zs]
  generalize bnds (cls zs) = bl at *
  generalize KL zs = K at *
  have hzl := zb_len bl
  have hHas := Lib.hid h
  clear h
  go_enter Try.func11, Try.ntmps11
  go_wp2_with (go_at_call 25; refine (HC.out _ hHas.out).mono ?_; rintro e u ⟨v1, rfl, A1, c1, rfl, hf1, hh1, hb1⟩; rw [hzl])
  go_loopw [4, 5] (fun v i wr => ∃ k : Nat, k ≤ K.length ∧ i = .int .i64 k ∧ Mine .i64 3 wr u.heap.size v (K.take k) ∧ Below u.heap.size u wr) (fun _ i _ => K.length - (intOf i).toNat)
  case atStart => exact ⟨0, by omega, rfl, Mine.nil_ _ _ _ _, Below.refl _ _⟩
  case round =>
    obtain ⟨k, hk, rfl, hown, hbl⟩ := hrel
    have hkl := HKL.out
    by_cases hlt : k < K.length
    · obtain ⟨b, off, rfl, hbu, hw0⟩ := hh1.at_int (k := k) (by rw [hzl]; omega)
      obtain ⟨b2, off2, hAe, _, hw1⟩ := hh1.at_int (k := k + 1) (by rw [hzl]; omega)
      cases hAe
      rw [zb_get _ _ (by omega)] at hw0
      rw [zb_get _ _ (by omega)] at hw1
      have hcc1 := (hbl.cell (p := ⟨b, off + k, none⟩) hbu).trans hw0
      have hcc2 := (hbl.cell (p := ⟨b, off + (k + 1), none⟩) hbu).trans hw1
      obtain ⟨X, hX⟩ : ∃ X, bl[k]'(by omega) = X := ⟨_, rfl⟩
      obtain ⟨Y, hY⟩ : ∃ Y, bl[k + 1]'(by omega) = Y := ⟨_, rfl⟩
      rw [hX] at hcc1 hw0
      rw [hY] at hcc2 hw1
      obtain ⟨hXY, hYn, hT⟩ := HKT.out k X Y (get_some (by omega) hX) (get_some (by omega) hY)
      have hlen : (K.take k).length ≤ 1001 := by rw [List.length_take]; omega
      have HT := Lib.hid hT
      have HK := Lib.hid (fun w h => rkind_ok A c X Y zs w hn hXY hYn h)
      generalize kOf zs X Y = y at HT HK
      generalize K.take k = acc at hown hlen HT
      have hm : (k : Int) + 1 < (bl.length : Int) := by omega
      have hm2 : (k : Int) < (bl.length : Int) := by omega
      have hk9 : k ≤ 1001 := by omega
      clear hX hY hT
      have hsz := hbl.size
      have HZ := Lib.hid hzl
      have HkL := Lib.hid hkl
      have Hlt := Lib.hid hlt
      clear hzl hkl hlt
      have kw : IntKind.i64.wrap ((k : Int) + 1) = (k : Int) + 1 := IntWalk.i64_in _ (by omega)
      go_wp2
      have kn : (0 : Int) ≤ (k : Int) + 1 := by omega
      have kt : ((k : Int) + 1).toNat = k + 1 := by omega
      have kz : (0 : Int) ≤ (k : Int) := by omega
      have hbd : Below u.heap.size u wr.drew := hbl.drew
      have hhr : Hid (Has wr.drew wr.drew.heap.size A (zs.map (Value.int .i32))) := Lib.hid ((hHas.out.carry hb1).carry hbd)
      go_region_held3 (fun w' => w'.cell? ⟨b, off + k, none⟩ = some (.int .i64 X) ∧ w'.cell? ⟨b, off + (k + 1), none⟩ = some (.int .i64 Y)) (first | go_keep | exact ⟨(hb3.cell (p := ⟨b, off + k, none⟩) hbu).trans hw0, (hb3.cell (p := ⟨b, off + (k + 1), none⟩) hbu).trans hw1⟩ | exact ⟨(hb4.cell (p := ⟨b, off + k, none⟩) hbu).trans hw0, (hb4.cell (p := ⟨b, off + (k + 1), none⟩) hbu).trans hw1⟩)
        (first
          | (go_at_call 26; (with_reducible refine (HK.out _ hhr.out).mono ?_); rintro e u2 ⟨rfl, hu2⟩; have hb3 := below_trans hbd hu2.1 hbd.size; have hM2 := hown.below (w := wr.drew) hu2.1)
          | (refine step_push (by rfl) _ _ 25 (by rfl) Try.underlying25 Try.full3 (by omega) u.heap.size _ acc y u u2.heap.size (hM2.alloc _) (by rfl) (by rfl) (push_cell u2 _ _ 0 _ rfl) (hb3.alloc hb3.size _) (by simp; exact Nat.le_succ_of_le hb3.size) (by omega) ?_; intro v' w1 hown' hb4))
      clear hown hbl hcc1 hcc2 kw kn kt kz hm hm2
      go_wp2
      go_roundw
      case rel =>
        have h8 := Hlt.out
        have h9 := HkL.out
        exact ⟨k + 1, by omega, by go_num, by rw [HT.out]; exact hown', hb4⟩
      case measure =>
        have h8 := Hlt.out
        have h9 := HkL.out
        simp [intOf] <;> omega
    · obtain rfl : k = K.length := by omega
      rw [List.take_length] at hown
      obtain ⟨A2, c2, rfl, hh2⟩ := hown.reads
      have hm : ¬ (K.length : Int) + 1 < bl.length := by omega
      have kw : IntKind.i64.wrap ((K.length : Int) + 1) = (K.length : Int) + 1 := IntWalk.i64_in _ (by omega)
      have HkL := Lib.hid hkl
      clear hkl hown hlt hk
      go_wp2
      clear hm kw
      obtain ⟨WA, rfl⟩ : ∃ WA, WA = wr := ⟨_, rfl⟩
      go_loopw [6, 7] (fun v i w2 => ∃ k : Nat, k ≤ bl.length ∧ i = .int .i64 k ∧ Mine .i64 3 w2 WA.heap.size v (zb (wbk zs k)) ∧ Below WA.heap.size WA w2) (fun _ i _ => bl.length - (intOf i).toNat)
      case atStart => exact ⟨0, by omega, rfl, by rw [HZ0.out]; exact Mine.nil_ _ _ _ _, Below.refl _ _⟩
      case round =>
        obtain ⟨k, hk, rfl, hown, hb2⟩ := hrel
        by_cases hlt : k < bl.length
        · have hlen := HLK.out k (by omega)
          obtain ⟨b, off, rfl, hbu, hw0⟩ := hh1.at_int (k := k) (by rw [hzl]; omega)
          rw [zb_get _ _ (by omega)] at hw0
          obtain ⟨X, hX⟩ : ∃ X, bl[k]'(by omega) = X := ⟨_, rfl⟩
          rw [hX] at hw0
          have hst := HST.out k X (get_some hlt hX)
          have hkl := HkL.out
          have hbW := below_trans hbl hb2 hbl.size
          have hcc := (hbW.cell (p := ⟨b, off + k, none⟩) hbu).trans hw0
          by_cases hyes : cutAt K k = true
          · have HT := Lib.hid (show zb (wbk zs (k + 1)) = zb (wbk zs k) ++ [(X : Int)] by rw [hst, hyes]; exact zb_snoc _ _)
            generalize zb (wbk zs k) = acc at hown hlen HT
            clear hst hX hw0
            by_cases h0 : k = 0
            · subst h0
              clear hyes hkl hzl
              rw [Nat.add_zero] at hcc
              go_wp2_with (first | (at_builtin; refine wpList_push rfl _ _ 25 rfl Try.underlying25 Try.full3 (by omega) WA.heap.size _ acc X WA _ hown rfl rfl hb2 hb2.size (by omega) ?_; intro v2 w2 hM3 hb3))
              go_roundw
              case rel => exact ⟨0 + 1, by omega, by go_num, by rw [HT.out]; exact hM3, hb3⟩
              case measure => simp [intOf] <;> omega
            · have hk0 : ((k : Int) == 0) = false := beq_eq_false_iff_ne.2 (by omega)
              have hk0' : ¬ (k : Int) = 0 := by omega
              by_cases hE : k = K.length
              · have hkE : (k : Int) = K.length := by omega
                have hkE' : ((k : Int) == K.length) = true := beq_iff_eq.2 hkE
                clear hyes hkl hzl
                subst hE
                clear hkE hkE'
                go_wp2_with (first | (at_builtin; refine wpList_push rfl _ _ 25 rfl Try.underlying25 Try.full3 (by omega) WA.heap.size _ acc X WA _ hown rfl rfl hb2 hb2.size (by omega) ?_; intro v2 w2 hM3 hb3))
                go_roundw
                case rel => exact ⟨K.length + 1, by omega, by go_num, by rw [HT.out]; exact hM3, hb3⟩
                case measure => simp [intOf] <;> omega
              · have hkE : ((k : Int) == (K.length : Int)) = false := beq_eq_false_iff_ne.2 (by omega)
                have hkE' : ¬ (k : Int) = K.length := by omega
                have HG := Lib.hid (fun w h => HHG.out A2 c2 k w (by omega) (by omega) (by omega) h)
                rw [hyes] at HG
                have HH2 := Lib.hid (hh2.carry hb2)
                have hM1 := hown
                clear hyes hkl hzl h0 hE
                go_wp2_with (first
                  | (go_at_call 27; refine (HG.out _ HH2.out).mono ?_; rintro e u3 ⟨rfl, hu3⟩; have hM2 := hown.below hu3.1; have hB3 := below_trans hb2 hu3.1 hb2.size; have hcc := hu3.cell hcc)
                  | (at_builtin; refine wpList_push rfl _ _ 25 rfl Try.underlying25 Try.full3 (by omega) WA.heap.size _ acc X WA _ hM2 rfl rfl hB3 hB3.size (by omega) ?_; intro v2 w2 hM3 hb3))
                go_roundw
                case rel => exact ⟨k + 1, by omega, by go_num, by rw [HT.out]; exact hM3, hb3⟩
                case measure => simp [intOf] <;> omega
          · have hno : cutAt K k = false := by simpa using hyes
            have HT := Lib.hid (show zb (wbk zs (k + 1)) = zb (wbk zs k) by rw [hst, hno]; simp)
            have h0 : k ≠ 0 := fun e => by subst e; rw [HEV.out] at hno; cases hno
            have hE : k ≠ K.length := fun e => by rw [e, HE.out] at hno; cases hno
            generalize zb (wbk zs k) = acc at hown hlen HT
            have hk0 : ((k : Int) == 0) = false := beq_eq_false_iff_ne.2 (by omega)
            have hk0' : ¬ (k : Int) = 0 := by omega
            have hkE : ((k : Int) == (K.length : Int)) = false := beq_eq_false_iff_ne.2 (by omega)
            have hkE' : ¬ (k : Int) = K.length := by omega
            have HG := Lib.hid (fun w h => HHG.out A2 c2 k w (by omega) (by omega) (by omega) h)
            rw [hno] at HG
            have HH2 := Lib.hid (hh2.carry hb2)
            clear hst hX hw0 hyes hno hkl hzl h0 hE
            go_wp2_with (first | (go_at_call 27; refine (HG.out _ HH2.out).mono ?_; rintro e u3 ⟨rfl, hu3⟩; have hM2 := hown.below hu3.1; have hB3 := below_trans hb2 hu3.1 hb2.size))
            go_roundw
            case rel => exact ⟨k + 1, by omega, by go_num, by rw [HT.out]; exact hM2, hB3⟩
            case measure => simp [intOf] <;> omega
        · obtain rfl : k = bl.length := by omega
          go_wp2
          go_ret
          exact ⟨_, rfl, (hown.sliceV hb2).trans (below_trans hb1 hbl hb1.size)⟩

theorem isW_found (zs : List Int) (k X : Nat) (h : (wbs zs)[k]? = some X) : isW zs (X : Int) = true := (isW_true zs X).2 ⟨X, rfl, List.mem_of_getElem? h⟩
theorem isW_none (zs : List Int) (i : Int) (h : ∀ k X, k < (wbs zs).length → (wbs zs)[k]? = some X → ((X : Nat) : Int) ≠ i) : isW zs i = false := by
  cases hv : isW zs i with
  | false => rfl
  | true =>
    exfalso
    obtain ⟨j, rfl, hj⟩ := (isW_true zs i).1 hv
    obtain ⟨q, hq, he⟩ := List.getElem_of_mem hj
    exact h q j hq (get_some hq he) rfl

set_option maxHeartbeats 1000000 in
theorem rwis_ok (A : Option Addr) (c : Nat) (i : Int) (zs : List Int) (w : World) (hn : zs.length ≤ 1000) (hc : zs.length ≤ c) (h : Has w w.heap.size A (zs.map (Value.int .i32))) :
    Calls Try.prog 13 #[.slice A zs.length c, .int .i64 i] w fun e w' => e = .returned (.bool (isW zs i)) ∧ Below w.heap.size w w' := by
  have HC := Lib.hid (fun w h => rwbounds_ok A c zs w hn hc h)
  have hbn := wbs_le zs
  have HF := Lib.hid (isW_found zs)
  have HN := Lib.hid (isW_none zs i)
  generalize wbs zs = bl at *
  have hzl := zb_len bl
  obtain ⟨V, hV⟩ : ∃ V, isW zs = V := ⟨_, rfl⟩
  rw [hV] at HF HN ⊢
  clear hV
  go_enter Try.func13, Try.ntmps13
  go_wp2_with (go_at_call 11; refine (HC.out _ h).mono ?_; rintro e u ⟨v1, rfl, A1, c1, rfl, hf1, hh1, hb1⟩; rw [hzl])
  clear h
  go_loopw [6] (fun v wr => ∃ k : Nat, k ≤ bl.length ∧ v = .int .i64 k ∧ Hid (∀ q X, q < k → bl[q]? = some X → ((X : Nat) : Int) ≠ i) ∧ Below u.heap.size u wr) (fun v _ => bl.length - (intOf v).toNat)
  case atStart => exact ⟨0, by omega, rfl, Lib.hid (fun q X h => absurd h (by omega)), Below.refl _ _⟩
  case round =>
    obtain ⟨k, hk, rfl, HT, hbl⟩ := hrel
    by_cases hlt : k < bl.length
    · obtain ⟨b, off, rfl, hbu, hw0⟩ := hh1.at_int (k := k) (by rw [hzl]; omega)
      rw [zb_get _ _ (by omega)] at hw0
      have hcc := (hbl.cell (p := ⟨b, off + k, none⟩) hbu).trans hw0
      obtain ⟨X, hX⟩ : ∃ X, bl[k] = X := ⟨_, rfl⟩
      rw [hX] at hcc hw0
      have hst := Lib.hid (get_some hlt hX)
      clear hX hw0 hzl
      by_cases he : (X : Int) = i
      · subst he
        go_wp2
        go_ret
        exact ⟨by rw [HF.out _ _ hst.out]; rfl, below_trans hb1 hbl hb1.size⟩
      · have hne : ((X : Int) == i) = false := beq_eq_false_iff_ne.2 he
        go_wp2
        go_roundw
        case rel => exact ⟨k + 1, by omega, by go_num, Lib.hid (fun q Z hq hz => by
            rcases Nat.lt_or_ge q k with h3 | h3
            · exact HT.out q Z h3 hz
            · obtain rfl : q = k := by omega
              rw [hst.out] at hz
              injection hz with hz
              rw [← hz]; exact he), hbl⟩
        case measure => simp [intOf] <;> omega
    · obtain rfl : k = bl.length := by omega
      go_wp2
      go_ret
      exact ⟨by rw [HN.out HT.out]; rfl, below_trans hb1 hbl hb1.size⟩

set_option maxHeartbeats 2000000 in
theorem rwords_ok (A : Option Addr) (c : Nat) (zs : List Int) (w : World) (hn : zs.length ≤ 1000) (hc : zs.length ≤ c) (h : Has w w.heap.size A (zs.map (Value.int .i32))) :
    Calls Try.prog 31 #[.slice A zs.length c] w fun e w' => CutsOf w w' e (pairs (wbs zs)) := by
  have HC := Lib.hid (fun w h => rwbounds_ok A c zs w hn hc h)
  have hbn := wbs_le zs
  generalize wbs zs = bl at *
  have hzl := zb_len bl
  go_enter Try.func31, Try.ntmps31
  go_wp2_with (go_at_call 11; refine (HC.out _ h).mono ?_; rintro e u ⟨v1, rfl, A1, c1, rfl, hf1, hh1, hb1⟩; rw [hzl])
  go_loopw [4, 5] (fun v i wr => ∃ k : Nat, k ≤ bl.length ∧ i = .int .i64 k ∧ MineC wr u.heap.size v ((pairs bl).take k) ∧ Below u.heap.size u wr) (fun _ i _ => bl.length + 1 - (intOf i).toNat)
  case atStart => exact ⟨0, by omega, rfl, MineC.nil_ _ _, Below.refl _ _⟩
  case round =>
    obtain ⟨k, hk, rfl, hown, hbl⟩ := hrel
    by_cases hlt : k + 1 < bl.length
    · have hpl := pairs_len bl
      have hT := take_step (pairs bl) k (by omega)
      rw [pairs_get bl k hlt] at hT
      have hlen : ((pairs bl).take k).length ≤ 1001 := by rw [List.length_take]; omega
      obtain ⟨b, off, rfl, hbu, hw0⟩ := hh1.at_int (k := k) (by rw [hzl]; omega)
      obtain ⟨b2, off2, hAe, _, hw1⟩ := hh1.at_int (k := k + 1) (by rw [hzl]; omega)
      cases hAe
      rw [zb_get _ _ (by omega)] at hw0
      rw [zb_get _ _ hlt] at hw1
      have hcc1 := (hbl.cell (p := ⟨b, off + k, none⟩) hbu).trans hw0
      have hcc2 := (hbl.cell (p := ⟨b, off + (k + 1), none⟩) hbu).trans hw1
      obtain ⟨X, hX⟩ : ∃ X, bl[k] = X := ⟨_, rfl⟩
      obtain ⟨Y, hY⟩ : ∃ Y, bl[k + 1] = Y := ⟨_, rfl⟩
      rw [hX] at hcc1 hw0 hT
      rw [hY] at hcc2 hw1 hT
      have HT := Lib.hid hT
      generalize (pairs bl).take k = acc at hown hlen HT
      clear hX hY hT h hpl
      have hsz := hbl.size
      have HZ := Lib.hid hzl
      clear hzl
      have hm : (k : Int) + 1 < (bl.length : Int) := by omega
      have hm2 : (k : Int) < (bl.length : Int) := by omega
      have kw : IntKind.i64.wrap ((k : Int) + 1) = (k : Int) + 1 := IntWalk.i64_in _ (by omega)
      go_wp2
      have kn : (0 : Int) ≤ (k : Int) + 1 := by omega
      have kt : ((k : Int) + 1).toNat = k + 1 := by omega
      have kz : (0 : Int) ≤ (k : Int) := by omega
      go_region_held3 (fun w' => w'.cell? ⟨b, off + k, none⟩ = some (.int .i64 X) ∧ w'.cell? ⟨b, off + (k + 1), none⟩ = some (.int .i64 Y)) (first | go_keep | exact ⟨(hbl'.cell (p := ⟨b, off + k, none⟩) hbu).trans hw0, (hbl'.cell (p := ⟨b, off + (k + 1), none⟩) hbu).trans hw1⟩)
        (first | (refine step_pushC (by rfl) _ _ 36 (by rfl) _ Try.underlying36 Try.full29 rfl (by omega) u.heap.size _ acc (X, Y) u wr.heap.size (ownC_alloc hown _) (by rfl) (by rfl) (push_c0 wr (X, Y)) (push_c1 wr (X, Y)) ((hbl.alloc hsz _).drew) (by simp; omega) (by omega) ?_; intro v' w1 hown' hbl'))
      clear hown hbl hcc1 hcc2 kw kn kt kz hm2 hm
      go_wp2
      go_roundw
      case rel => exact ⟨k + 1, by omega, by go_num, by rw [HT.out]; exact hown', hbl'⟩
      case measure => simp [intOf] <;> omega
    · have hT : (pairs bl).take k = pairs bl := List.take_of_length_le (by rw [pairs_len]; omega)
      rw [hT] at hown
      clear hT h
      have hlt2 : ¬ (k : Int) + 1 < bl.length := by omega
      go_wp2
      go_ret
      exact ⟨_, rfl, by
        obtain ⟨A9, c9, hv, hc9, hf9, hh9⟩ := hown.has
        exact ⟨A9, c9, hv, ⟨hc9, fun a ha => Nat.le_trans hb1.size (hf9 a ha)⟩, hh9, below_trans hb1 hbl hb1.size⟩⟩
end Go.Proofs.Ytcplhbafbjpnlaa
