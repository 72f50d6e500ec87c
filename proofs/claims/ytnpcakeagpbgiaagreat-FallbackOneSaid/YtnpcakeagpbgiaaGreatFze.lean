/-
  The library's partition at code points in a slice of the call's own: it leaves the elements that there were. Condition: at most 1000000 elements.
-/
import Derived.Test.YtnpcakeagpbgiaaGreatFzd
import Derived.Deep.CutBlock
import Derived.Deep.DeepCutAuto
import Derived.Deep.LoopGhost
import Derived.Test.YtnpcakeagpbgiaaGreatFzc
import Derived.Lib.SliceRun
set_option linter.unusedVariables false
set_option linter.unusedSimpArgs false
namespace Go.Proofs.YtnpcakeagpbgiaaGreat
open Go.ChangeShapes Go.WideShapes Go.ChangeAt Go.RowKit Go.Sort

set_option maxRecDepth 20000 in
set_option maxHeartbeats 8000000 in
theorem part_ok (D : List Int) (w0 : World) (B g n c a b p : Nat) (w : World) (h : PS D w0 B g n c w) (hmax : n ≤ 1000000) (hap : a ≤ p) (hpb : p < b) (hb : b ≤ n) :
    Calls Tryz.prog 97 #[.slice (some ⟨g, 0, none⟩) n c, .int .i64 a, .int .i64 b, .int .i64 p] w fun e w' => ∃ (q : Nat) (t : Bool), e = .returned (.tuple #[.int .i64 q, .bool t]) ∧ (a ≤ q ∧ q < b) ∧ PS D w0 B g n c w' := by
  have HLe := Lib.hid (fun x y W => less_ok x y W)
  have han : a < n := by omega
  have hpn : p < n := by omega
  obtain ⟨x, y, ⟨c1, c2⟩, ⟨f1, f2⟩, ⟨c3, f3⟩, hZ⟩ := h.exch han hpn
  have HM := Lib.hid hZ
  clear hZ h
  go_enter Tryz.func97, Tryz.ntmps97
  go_wp2_with fail
  go_region
  clear c1 c2 f1 f2 c3 f3
  generalize ((w.setCell ⟨g, a, none⟩ (.int .i32 y)).setCell ⟨g, p, none⟩ (.int .i32 x)).drew = w2 at *
  obtain ⟨i0, hi0⟩ : ∃ i0, a + 1 = i0 := ⟨_, rfl⟩
  have hi0I : (a : Int) + 1 = (i0 : Int) := by omega
  obtain ⟨j0, hj0⟩ : ∃ j0, b - 1 = j0 := ⟨_, rfl⟩
  have hj0I : (b : Int) - 1 = (j0 : Int) := by omega
  have hb0 : a < i0 ∧ i0 ≤ b ∧ a ≤ j0 ∧ j0 < b := by omega
  clear hi0 hj0
  go_upto_block 0 with fail
  go_cut [10] (fun u wx => ∃ i1 : Nat, (i0 ≤ i1 ∧ i1 ≤ b) ∧ u = .int .i64 i1 ∧ Hid (PS D w0 B g n c wx))
  case first =>
    go_wp2_with fail
    go_loopg [10] (n - (i0)) (fun g1 u wr => ∃ i1 : Nat, (i0 ≤ i1 ∧ i1 ≤ b) ∧ n - (i1) ≤ g1 ∧ u = .int .i64 i1 ∧ Hid (PS D w0 B g n c wr))
    case atStart => exact ⟨i0, by omega, Nat.le_refl _, rfl, HM⟩
    case round =>
      clear HM
      obtain ⟨i1, hb, hg1, rfl, HM⟩ := hrel
      by_cases hc : i1 ≤ j0
      · have h1n : i1 < n := by omega
        have h2n : a < n := by omega
        obtain ⟨x, c1⟩ := HM.out.cell h1n
        obtain ⟨y, c2⟩ := HM.out.cell h2n
        have HC := Lib.hid (HLe.out x y)
        have HP := Lib.hid HM.out.drew
        clear HM
        go_wp2_with fail
        go_region_held3 (fun W => W.cell? ⟨g, i1, none⟩ = some (.int .i32 x) ∧ W.cell? ⟨g, a, none⟩ = some (.int .i32 y))
          (exact ⟨by assumption, by assumption⟩) ((go_at_call 95; refine (HC.out _).mono ?_; rintro e u ⟨⟨t, rfl⟩, rfl⟩))
        clear c1 c2 HC
        generalize wr.drew = w1 at *
        go_wp2_with fail
        · go_roundg (n - (i1 + 1))
          case measure => omega
          case rel => exact ⟨i1 + 1, by omega, Nat.le_refl _, by go_num, HP⟩
        · go_meet
          case rel => exact ⟨i1, by omega, rfl, HP⟩
      · have hd : decide ((i1 : Int) ≤ (j0 : Int)) = false := decide_eq_false (by omega)
        have HP := Lib.hid HM.out.drew
        clear HM
        go_wp2_with fail
        go_region
        generalize wr.drew = w1 at *
        go_wp2_with fail
        go_meet
        case rel => exact ⟨i1, by omega, rfl, HP⟩
  case rest =>
    clear HM
    obtain ⟨i1, hb10, rfl, HM⟩ := hcut
    go_upto_block 2 with fail
    go_cut [11] (fun u wx => ∃ j1 : Nat, (a ≤ j1 ∧ j1 ≤ j0) ∧ u = .int .i64 j1 ∧ Hid (PS D w0 B g n c wx))
    case first =>
      go_wp2_with fail
      go_loopg [11] (j0) (fun g1 u wr => ∃ j1 : Nat, (a ≤ j1 ∧ j1 ≤ j0) ∧ j1 ≤ g1 ∧ u = .int .i64 j1 ∧ Hid (PS D w0 B g n c wr))
      case atStart => exact ⟨j0, by omega, Nat.le_refl _, rfl, HM⟩
      case round =>
        clear HM
        obtain ⟨j1, hb, hg1, rfl, HM⟩ := hrel
        by_cases hc : i1 ≤ j1
        · obtain ⟨j1', hj1'⟩ : ∃ j1', j1 - 1 = j1' := ⟨_, rfl⟩
          have hj1I : (j1 : Int) - 1 = (j1' : Int) := by omega
          have h1n : j1 < n := by omega
          have h2n : a < n := by omega
          obtain ⟨x, c1⟩ := HM.out.cell h1n
          obtain ⟨y, c2⟩ := HM.out.cell h2n
          have HC := Lib.hid (HLe.out x y)
          have HP := Lib.hid HM.out.drew
          clear HM
          go_wp2_with fail
          go_region_held3 (fun W => W.cell? ⟨g, j1, none⟩ = some (.int .i32 x) ∧ W.cell? ⟨g, a, none⟩ = some (.int .i32 y))
            (exact ⟨by assumption, by assumption⟩) ((go_at_call 95; refine (HC.out _).mono ?_; rintro e u ⟨⟨t, rfl⟩, rfl⟩))
          clear c1 c2 HC
          generalize wr.drew = w1 at *
          go_wp2_with fail
          · go_roundg (j1')
            case measure => omega
            case rel => exact ⟨j1', by omega, Nat.le_refl _, by go_num, HP⟩
          · go_meet
            case rel => exact ⟨j1, by omega, rfl, HP⟩
        · have hd : decide ((i1 : Int) ≤ (j1 : Int)) = false := decide_eq_false (by omega)
          have HP := Lib.hid HM.out.drew
          clear HM
          go_wp2_with fail
          go_region
          generalize wr.drew = w1 at *
          go_wp2_with fail
          go_meet
          case rel => exact ⟨j1, by omega, rfl, HP⟩
    case rest =>
      clear HM
      obtain ⟨j1, hb11, rfl, HM⟩ := hcut
      by_cases hij : i1 ≤ j1
      · have hdn : decide (j1 < i1) = false := decide_eq_false (by omega)
        have hdi : decide ((j1 : Int) < (i1 : Int)) = false := decide_eq_false (by omega)
        have h1n : i1 < n := by omega
        have h2n : j1 < n := by omega
        obtain ⟨x, y, ⟨c1, c2⟩, ⟨f1, f2⟩, ⟨c3, f3⟩, hZ⟩ := HM.out.exch h1n h2n
        have HZ := Lib.hid hZ
        clear hZ HM
        go_wp2_with fail
        go_region
        generalize ((wc.setCell ⟨g, i1, none⟩ (.int .i32 y)).setCell ⟨g, j1, none⟩ (.int .i32 x)).drew = w3 at *
        clear c1 c2 f1 f2 c3 f3
        obtain ⟨i2, hi2⟩ : ∃ i2, i1 + 1 = i2 := ⟨_, rfl⟩
        have hi2I : (i1 : Int) + 1 = (i2 : Int) := by omega
        obtain ⟨j2, hj2⟩ : ∃ j2, j1 - 1 = j2 := ⟨_, rfl⟩
        have hj2I : (j1 : Int) - 1 = (j2 : Int) := by omega
        have HIJ : Hid (a < i2 ∧ i2 ≤ b ∧ a ≤ j2 ∧ j2 < b) := Lib.hid (by omega)
        clear hi2 hj2
        go_wp2_with fail
        go_loopg [10, 11] (n + 2) (fun g0 u v wr => ∃ i j : Nat, (a < i ∧ i ≤ b ∧ a ≤ j ∧ j < b) ∧ j + 2 - i ≤ g0 ∧ u = .int .i64 i ∧ v = .int .i64 j ∧ Hid (PS D w0 B g n c wr))
        case atStart => exact ⟨i2, j2, HIJ.out, by have := HIJ.out; omega, rfl, rfl, HZ⟩
        case round =>
          clear HZ
          obtain ⟨i, j, hb1, hg0, rfl, rfl, HM⟩ := hrel
          go_upto_block 6 with fail
          go_cut [10] (fun u wx => ∃ i3 : Nat, (i ≤ i3 ∧ i3 ≤ b) ∧ u = .int .i64 i3 ∧ Hid (PS D w0 B g n c wx))
          case first =>
            go_wp2_with fail
            go_loopg [10] (n - (i)) (fun g1 u wr => ∃ i3 : Nat, (i ≤ i3 ∧ i3 ≤ b) ∧ n - (i3) ≤ g1 ∧ u = .int .i64 i3 ∧ Hid (PS D w0 B g n c wr))
            case atStart => exact ⟨i, by omega, Nat.le_refl _, rfl, HM⟩
            case round =>
              clear HM
              obtain ⟨i3, hb, hg1, rfl, HM⟩ := hrel
              by_cases hc : i3 ≤ j
              · have h1n : i3 < n := by omega
                have h2n : a < n := by omega
                obtain ⟨x, c1⟩ := HM.out.cell h1n
                obtain ⟨y, c2⟩ := HM.out.cell h2n
                have HC := Lib.hid (HLe.out x y)
                have HP := Lib.hid HM.out.drew
                clear HM
                go_wp2_with fail
                go_region_held3 (fun W => W.cell? ⟨g, i3, none⟩ = some (.int .i32 x) ∧ W.cell? ⟨g, a, none⟩ = some (.int .i32 y))
                  (exact ⟨by assumption, by assumption⟩) ((go_at_call 95; refine (HC.out _).mono ?_; rintro e u ⟨⟨t, rfl⟩, rfl⟩))
                clear c1 c2 HC
                generalize wr.drew = w1 at *
                go_wp2_with fail
                · go_roundg (n - (i3 + 1))
                  case measure => omega
                  case rel => exact ⟨i3 + 1, by omega, Nat.le_refl _, by go_num, HP⟩
                · go_meet
                  case rel => exact ⟨i3, by omega, rfl, HP⟩
              · have hd : decide ((i3 : Int) ≤ (j : Int)) = false := decide_eq_false (by omega)
                have HP := Lib.hid HM.out.drew
                clear HM
                go_wp2_with fail
                go_region
                generalize wr.drew = w1 at *
                go_wp2_with fail
                go_meet
                case rel => exact ⟨i3, by omega, rfl, HP⟩
          case rest =>
            clear HM
            obtain ⟨i3, hb10, rfl, HM⟩ := hcut
            go_upto_block 8 with fail
            go_cut [11] (fun u wx => ∃ j3 : Nat, (a ≤ j3 ∧ j3 ≤ j) ∧ u = .int .i64 j3 ∧ Hid (PS D w0 B g n c wx))
            case first =>
              go_wp2_with fail
              go_loopg [11] (j) (fun g1 u wr => ∃ j3 : Nat, (a ≤ j3 ∧ j3 ≤ j) ∧ j3 ≤ g1 ∧ u = .int .i64 j3 ∧ Hid (PS D w0 B g n c wr))
              case atStart => exact ⟨j, by omega, Nat.le_refl _, rfl, HM⟩
              case round =>
                clear HM
                obtain ⟨j3, hb, hg1, rfl, HM⟩ := hrel
                by_cases hc : i3 ≤ j3
                · obtain ⟨j3', hj3'⟩ : ∃ j3', j3 - 1 = j3' := ⟨_, rfl⟩
                  have hj3I : (j3 : Int) - 1 = (j3' : Int) := by omega
                  have h1n : j3 < n := by omega
                  have h2n : a < n := by omega
                  obtain ⟨x, c1⟩ := HM.out.cell h1n
                  obtain ⟨y, c2⟩ := HM.out.cell h2n
                  have HC := Lib.hid (HLe.out x y)
                  have HP := Lib.hid HM.out.drew
                  clear HM
                  go_wp2_with fail
                  go_region_held3 (fun W => W.cell? ⟨g, j3, none⟩ = some (.int .i32 x) ∧ W.cell? ⟨g, a, none⟩ = some (.int .i32 y))
                    (exact ⟨by assumption, by assumption⟩) ((go_at_call 95; refine (HC.out _).mono ?_; rintro e u ⟨⟨t, rfl⟩, rfl⟩))
                  clear c1 c2 HC
                  generalize wr.drew = w1 at *
                  go_wp2_with fail
                  · go_roundg (j3')
                    case measure => omega
                    case rel => exact ⟨j3', by omega, Nat.le_refl _, by go_num, HP⟩
                  · go_meet
                    case rel => exact ⟨j3, by omega, rfl, HP⟩
                · have hd : decide ((i3 : Int) ≤ (j3 : Int)) = false := decide_eq_false (by omega)
                  have HP := Lib.hid HM.out.drew
                  clear HM
                  go_wp2_with fail
                  go_region
                  generalize wr.drew = w1 at *
                  go_wp2_with fail
                  go_meet
                  case rel => exact ⟨j3, by omega, rfl, HP⟩
            case rest =>
              clear HM
              obtain ⟨j3, hb11, rfl, HM⟩ := hcut
              by_cases hij3 : i3 ≤ j3
              · have h1n : i3 < n := by omega
                have h2n : j3 < n := by omega
                obtain ⟨x, y, ⟨c1, c2⟩, ⟨f1, f2⟩, ⟨c3, f3⟩, hZ⟩ := HM.out.exch h1n h2n
                have HZ := Lib.hid hZ
                clear hZ HM
                go_wp2_with fail
                go_region
                generalize ((wc.setCell ⟨g, i3, none⟩ (.int .i32 y)).setCell ⟨g, j3, none⟩ (.int .i32 x)).drew = w4 at *
                clear c1 c2 f1 f2 c3 f3
                obtain ⟨j4, hj4⟩ : ∃ j4, j3 - 1 = j4 := ⟨_, rfl⟩
                have hj4I : (j3 : Int) - 1 = (j4 : Int) := by omega
                go_wp2_with fail
                go_roundg (j4 + 2 - (i3 + 1))
                case measure => omega
                case rel => exact ⟨i3 + 1, j4, by omega, by omega, by go_num, by go_num, HZ⟩
              · have h1n : j3 < n := by omega
                obtain ⟨x, y, ⟨c1, c2⟩, ⟨f1, f2⟩, ⟨c3, f3⟩, hZ⟩ := HM.out.exch h1n han
                have HZ := Lib.hid hZ
                clear hZ HM
                go_wp2_with fail
                go_region
                generalize ((wc.setCell ⟨g, j3, none⟩ (.int .i32 y)).setCell ⟨g, a, none⟩ (.int .i32 x)).drew = w5 at *
                clear c1 c2 f1 f2 c3 f3
                go_wp2_with fail
                (try simp only [Exit.inBlock, Exit.then])
                exact bodyPost_ret (results_tmp2 rfl _ _ _) rfl ⟨j3, _, rfl, by omega, HZ.out⟩
      · have h1n : j1 < n := by omega
        obtain ⟨x, y, ⟨c1, c2⟩, ⟨f1, f2⟩, ⟨c3, f3⟩, hZ⟩ := HM.out.exch h1n han
        have HZ := Lib.hid hZ
        clear hZ HM
        go_wp2_with fail
        go_region
        generalize ((wc.setCell ⟨g, j1, none⟩ (.int .i32 y)).setCell ⟨g, a, none⟩ (.int .i32 x)).drew = w6 at *
        clear c1 c2 f1 f2 c3 f3
        go_wp2_with fail
        (try simp only [Exit.inBlock, Exit.then])
        exact bodyPost_ret (results_tmp2 rfl _ _ _) rfl ⟨j1, _, rfl, by omega, HZ.out⟩
end Go.Proofs.YtnpcakeagpbgiaaGreat

/-
  The library's partialInsertionSort at code points in a slice of the call's own: it leaves the elements that there were. Condition: at most 1000000 elements.
-/
set_option linter.unusedVariables false
set_option linter.unusedSimpArgs false
namespace Go.Proofs.YtnpcakeagpbgiaaGreat
open Go.ChangeShapes Go.WideShapes Go.ChangeAt Go.RowKit Go.Sort

set_option maxRecDepth 20000 in
set_option maxHeartbeats 8000000 in
theorem partial_ok (D : List Int) (w0 : World) (B g n c a b : Nat) (w : World) (h : PS D w0 B g n c w) (hmax : n ≤ 1000000) (hab : a < b) (hb : b ≤ n) :
    Calls Tryz.prog 94 #[.slice (some ⟨g, 0, none⟩) n c, .int .i64 a, .int .i64 b] w fun e w' => ∃ t : Bool, e = .returned (.bool t) ∧ PS D w0 B g n c w' := by
  have HLe := Lib.hid (fun x y W => less_ok x y W)
  have H0 := Lib.hid h
  obtain ⟨i0, hi0⟩ : ∃ i0, a + 1 = i0 := ⟨_, rfl⟩
  have hi0I : (a : Int) + 1 = (i0 : Int) := by omega
  have hi0b : a < i0 ∧ i0 ≤ b := by omega
  obtain ⟨m, hm⟩ : ∃ m, b - a = m := ⟨_, rfl⟩
  have hmI : (b : Int) - (a : Int) = (m : Int) := by omega
  clear h hi0 hm
  go_enter Tryz.func94, Tryz.ntmps94
  go_wp2_with fail
  go_loopg [7, 8] (5) (fun g0 u v wr => ∃ i k : Nat, (a < i ∧ i ≤ b ∧ k ≤ 5) ∧ 5 - k ≤ g0 ∧ u = .int .i64 i ∧ v = .int .i64 k ∧ Hid (PS D w0 B g n c wr))
  case atStart => exact ⟨i0, 0, by omega, by omega, rfl, rfl, H0⟩
  case round =>
    clear H0
    obtain ⟨i, k, hb0, hg0, rfl, rfl, HM⟩ := hrel
    by_cases hk : k < 5
    · have hkd : decide (k < 5) = true := decide_eq_true hk
      have hkd2 : decide ((k : Int) < 5) = true := decide_eq_true (by omega)
      go_upto_block 2 with fail
      go_cut [7] (fun u wx => ∃ i1 : Nat, (a < i1 ∧ i1 ≤ b) ∧ u = .int .i64 i1 ∧ Hid (PS D w0 B g n c wx))
      case first =>
        go_wp2_with fail
        go_loopg [7] (n - i) (fun g1 u wr => ∃ i1 : Nat, (a < i1 ∧ i1 ≤ b) ∧ n - i1 ≤ g1 ∧ u = .int .i64 i1 ∧ Hid (PS D w0 B g n c wr))
        case atStart => exact ⟨i, by omega, Nat.le_refl _, rfl, HM⟩
        case round =>
          clear HM
          obtain ⟨i1, hb1, hg1, rfl, HM⟩ := hrel
          by_cases hc : i1 < b
          · obtain ⟨i2, hi2⟩ : ∃ i2, i1 - 1 = i2 := ⟨_, rfl⟩
            have hi2I : (i1 : Int) - 1 = (i2 : Int) := by omega
            have hi2w : IntKind.i64.wrap (i2 : Int) = (i2 : Int) := IntWalk.i64_in _ (by omega)
            have hi1n : i1 < n := by omega
            have hi2n : i2 < n := by omega
            obtain ⟨x, c1⟩ := HM.out.cell hi1n
            obtain ⟨y, c2⟩ := HM.out.cell hi2n
            have HC := Lib.hid (HLe.out x y)
            have HP := Lib.hid HM.out.drew
            clear HM
            go_wp2_with fail
            go_region_held3 (fun W => W.cell? ⟨g, i1, none⟩ = some (.int .i32 x) ∧ W.cell? ⟨g, i2, none⟩ = some (.int .i32 y))
              (exact ⟨by assumption, by assumption⟩) ((go_at_call 95; refine (HC.out _).mono ?_; rintro e u ⟨⟨t, rfl⟩, rfl⟩))
            have d1 : wr.drew.cell? ⟨g, i1, none⟩ = some (.int .i32 x) := c1
            have d2 : wr.drew.cell? ⟨g, i2, none⟩ = some (.int .i32 y) := c2
            clear c1 c2 HC
            generalize wr.drew = w1 at *
            go_wp2_with fail
            · go_roundg (n - (i1 + 1))
              case measure => omega
              case rel => exact ⟨i1 + 1, by omega, Nat.le_refl _, by go_num, HP⟩
            · go_meet
              case rel => exact ⟨i1, by omega, rfl, HP⟩
          · have hd : decide ((i1 : Int) < (b : Int)) = false := decide_eq_false (by omega)
            have HP := Lib.hid HM.out.drew
            clear HM
            go_wp2_with fail
            go_region
            generalize wr.drew = w1 at *
            go_wp2_with fail
            go_meet
            case rel => exact ⟨i1, by omega, rfl, HP⟩
      case rest =>
        clear HM
        obtain ⟨i1, hb1, rfl, HM⟩ := hcut
        by_cases hib : i1 = b
        · have hibI : (i1 : Int) = (b : Int) := by omega
          clear hib
          go_wp2_with fail
          (try simp only [Exit.inBlock, Exit.then])
          exact bodyPost_ret (results_tmp rfl _ _ _) rfl ⟨true, rfl, HM.out⟩
        · have hibb : ((i1 : Int) == (b : Int)) = false := by rw [beq_eq_false_iff_ne]; omega
          by_cases hm50 : m < 50
          · go_wp2_with fail
            (try simp only [Exit.inBlock, Exit.then])
            exact bodyPost_ret (results_tmp rfl _ _ _) rfl ⟨false, rfl, HM.out⟩
          · have hmd : decide (m < 50) = false := decide_eq_false (by omega)
            have hmd2 : decide ((m : Int) < 50) = false := decide_eq_false (by omega)
            obtain ⟨i2, hi2⟩ : ∃ i2, i1 - 1 = i2 := ⟨_, rfl⟩
            have hi2I : (i1 : Int) - 1 = (i2 : Int) := by omega
            have hi2w : IntKind.i64.wrap (i2 : Int) = (i2 : Int) := IntWalk.i64_in _ (by omega)
            have hi1n : i1 < n := by omega
            have hi2n : i2 < n := by omega
            obtain ⟨x', y', ⟨c1, c2⟩, ⟨f1, f2⟩, ⟨c3, f3⟩, hZ⟩ := HM.out.exch hi1n hi2n
            have HZ := Lib.hid hZ
            clear hZ HM
            go_wp2_with fail
            go_region
            generalize ((wc.setCell ⟨g, i1, none⟩ (.int .i32 y')).setCell ⟨g, i2, none⟩ (.int .i32 x')).drew = w2 at *
            clear c1 c2 f1 f2 c3 f3
            obtain ⟨q, hq⟩ : ∃ q, i1 - a = q := ⟨_, rfl⟩
            have hqI : (i1 : Int) - (a : Int) = (q : Int) := by omega
            clear hq
            go_upto_if 61 with fail
            go_cut [9] (fun v wx => Hid (PS D w0 B g n c wx))
            case first =>
              by_cases hq2 : 2 ≤ q
              · have hqd : decide (2 ≤ q) = true := decide_eq_true hq2
                have hqd2 : decide ((2 : Int) ≤ (q : Int)) = true := decide_eq_true (by omega)
                simp only [hqd2]
                go_wp2_with fail
                go_loopg [9] (n) (fun g1 u wr => ∃ j : Nat, (j < b) ∧ j ≤ g1 ∧ u = .int .i64 j ∧ Hid (PS D w0 B g n c wr))
                case atStart => exact ⟨i2, by omega, by omega, rfl, HZ⟩
                case round =>
                  clear HZ
                  obtain ⟨j, hjb, hg1, rfl, HM⟩ := hrel
                  by_cases hj1 : 1 ≤ j
                  · obtain ⟨j2, hj2⟩ : ∃ j2, j - 1 = j2 := ⟨_, rfl⟩
                    have hj2I : (j : Int) - 1 = (j2 : Int) := by omega
                    have hj2w : IntKind.i64.wrap (j2 : Int) = (j2 : Int) := IntWalk.i64_in _ (by omega)
                    have hjn : j < n := by omega
                    have hj2n : j2 < n := by omega
                    obtain ⟨x, c1⟩ := HM.out.cell hjn
                    obtain ⟨y, c2⟩ := HM.out.cell hj2n
                    have HC := Lib.hid (HLe.out x y)
                    have HP := Lib.hid HM.out.drew
                    clear HM
                    go_wp2_with fail
                    go_region_held3 (fun W => W.cell? ⟨g, j, none⟩ = some (.int .i32 x) ∧ W.cell? ⟨g, j2, none⟩ = some (.int .i32 y))
                      (exact ⟨by assumption, by assumption⟩) ((go_at_call 95; refine (HC.out _).mono ?_; rintro e u ⟨⟨t, rfl⟩, rfl⟩))
                    have d1 : wr.drew.cell? ⟨g, j, none⟩ = some (.int .i32 x) := c1
                    have d2 : wr.drew.cell? ⟨g, j2, none⟩ = some (.int .i32 y) := c2
                    clear c1 c2 HC
                    generalize wr.drew = w1 at *
                    go_wp2_with fail
                    · go_meet
                      case rel => exact HP
                    · obtain ⟨⟨f1, f2⟩, ⟨c3, f3⟩, hZ⟩ := HP.out.exch2 hjn hj2n d1 d2
                      have HZ := Lib.hid hZ
                      clear hZ HP
                      go_wp2_with fail
                      go_region
                      generalize ((w1.setCell ⟨g, j, none⟩ (.int .i32 y)).setCell ⟨g, j2, none⟩ (.int .i32 x)).drew = w2 at *
                      clear d1 d2 f1 f2 c3 f3
                      go_wp2_with fail
                      go_roundg (j2)
                      case measure => omega
                      case rel => exact ⟨j2, by omega, Nat.le_refl _, by go_num, HZ⟩
                  · go_wp2_with fail
                    go_meet
                    case rel => exact HM
              · go_wp2_with fail
                go_meet
                case rel => exact HZ
            case rest =>
              clear HZ
              have HM := hcut
              obtain ⟨q3, hq3⟩ : ∃ q3, b - i1 = q3 := ⟨_, rfl⟩
              have hq3I : (b : Int) - (i1 : Int) = (q3 : Int) := by omega
              obtain ⟨i3, hi3⟩ : ∃ i3, i1 + 1 = i3 := ⟨_, rfl⟩
              have hi3I : (i1 : Int) + 1 = (i3 : Int) := by omega
              have hi3b : i3 ≤ b + 1 := by omega
              have hi30 : 0 < i3 := by omega
              clear hq3 hi3
              by_cases hq4 : 2 ≤ q3
              · have hqd : decide (2 ≤ q3) = true := decide_eq_true hq4
                have hqd2 : decide ((2 : Int) ≤ (q3 : Int)) = true := decide_eq_true (by omega)
                go_wp2_with fail
                go_loopg [10] (n - i3) (fun g1 u wr => ∃ j : Nat, (0 < j ∧ j ≤ b + 1) ∧ n - j ≤ g1 ∧ u = .int .i64 j ∧ Hid (PS D w0 B g n c wr))
                case atStart => exact ⟨i3, by omega, Nat.le_refl _, rfl, HM⟩
                case round =>
                  clear HM hcut
                  obtain ⟨j, hjb, hg1, rfl, HM⟩ := hrel
                  by_cases hj1 : j < b
                  · obtain ⟨j2, hj2⟩ : ∃ j2, j - 1 = j2 := ⟨_, rfl⟩
                    have hj2I : (j : Int) - 1 = (j2 : Int) := by omega
                    have hj2w : IntKind.i64.wrap (j2 : Int) = (j2 : Int) := IntWalk.i64_in _ (by omega)
                    have hjn : j < n := by omega
                    have hj2n : j2 < n := by omega
                    obtain ⟨x, c1⟩ := HM.out.cell hjn
                    obtain ⟨y, c2⟩ := HM.out.cell hj2n
                    have HC := Lib.hid (HLe.out x y)
                    have HP := Lib.hid HM.out.drew
                    clear HM
                    go_wp2_with fail
                    go_region_held3 (fun W => W.cell? ⟨g, j, none⟩ = some (.int .i32 x) ∧ W.cell? ⟨g, j2, none⟩ = some (.int .i32 y))
                      (exact ⟨by assumption, by assumption⟩) ((go_at_call 95; refine (HC.out _).mono ?_; rintro e u ⟨⟨t, rfl⟩, rfl⟩))
                    have d1 : wr.drew.cell? ⟨g, j, none⟩ = some (.int .i32 x) := c1
                    have d2 : wr.drew.cell? ⟨g, j2, none⟩ = some (.int .i32 y) := c2
                    clear c1 c2 HC
                    generalize wr.drew = w1 at *
                    go_wp2_with fail
                    · go_roundg (5 - (k + 1))
                      case measure => omega
                      case rel => exact ⟨i1, k + 1, by omega, Nat.le_refl _, rfl, by go_num, HP⟩
                    · obtain ⟨⟨f1, f2⟩, ⟨c3, f3⟩, hZ⟩ := HP.out.exch2 hjn hj2n d1 d2
                      have HZ := Lib.hid hZ
                      clear hZ HP
                      go_wp2_with fail
                      go_region
                      generalize ((w1.setCell ⟨g, j, none⟩ (.int .i32 y)).setCell ⟨g, j2, none⟩ (.int .i32 x)).drew = w2 at *
                      clear d1 d2 f1 f2 c3 f3
                      go_wp2_with fail
                      go_roundg (n - (j + 1))
                      case measure => omega
                      case rel => exact ⟨j + 1, by omega, Nat.le_refl _, by go_num, HZ⟩
                  · go_wp2_with fail
                    go_roundg (5 - (k + 1))
                    case measure => omega
                    case rel => exact ⟨i1, k + 1, by omega, Nat.le_refl _, rfl, by go_num, HM⟩
              · go_wp2_with fail
                go_roundg (5 - (k + 1))
                case measure => omega
                case rel => exact ⟨i1, k + 1, by omega, Nat.le_refl _, rfl, by go_num, HM⟩
    · go_wp2_with fail
      go_ret
      exact ⟨false, rfl, HM.out⟩
end Go.Proofs.YtnpcakeagpbgiaaGreat

/-
  The library's pattern-defeating quicksort at code points in a slice of the call's own: it leaves the elements that there were. Condition: at most 1000000 elements.
-/
set_option linter.unusedVariables false
set_option linter.unusedSimpArgs false
namespace Go.Proofs.YtnpcakeagpbgiaaGreat
open Go.ChangeShapes Go.WideShapes Go.ChangeAt Go.RowKit Go.Sort

/-- shorter stretches are sorted -/
def ShorterP (D : List Int) (w0 : World) (B g n c z : Nat) : Prop := ∀ (a b lim : Nat) (w : World), b - a < z → a ≤ b → b ≤ n → lim ≤ 64 → PS D w0 B g n c w →
  Calls Tryz.prog 68 #[.slice (some ⟨g, 0, none⟩) n c, .int .i64 a, .int .i64 b, .int .i64 lim] w fun e w' => e = .returned (.tuple #[]) ∧ PS D w0 B g n c w'

set_option maxRecDepth 20000 in
set_option maxHeartbeats 8000000 in
theorem pdq_step (D : List Int) (w0 : World) (B g n c a0 b0 l0 : Nat) (w : World) (h : PS D w0 B g n c w) (hmax : n ≤ 1000000) (hab : a0 ≤ b0) (hb : b0 ≤ n) (hl : l0 ≤ 64) (IH : ShorterP D w0 B g n c (b0 - a0)) :
    Calls Tryz.prog 68 #[.slice (some ⟨g, 0, none⟩) n c, .int .i64 a0, .int .i64 b0, .int .i64 l0] w fun e w' => e = .returned (.tuple #[]) ∧ PS D w0 B g n c w' := by
  have H0 := Lib.hid h
  have HLe := Lib.hid (fun x y W => less_ok x y W)
  have HIH0 := Lib.hid IH
  clear h IH
  go_enter Tryz.func68, Tryz.ntmps68
  go_wp2_with fail
  go_loopg [1, 2, 3, 8, 9] (b0 - a0) (fun g0 v1 v2 v3 v8 v9 wr => ∃ (a b lim : Nat) (t8 t9 : Bool), (a0 ≤ a ∧ a ≤ b ∧ b ≤ b0 ∧ lim ≤ 64) ∧ b - a ≤ g0 ∧ v1 = .int .i64 a ∧ v2 = .int .i64 b ∧ v3 = .int .i64 lim ∧ v8 = .bool t8 ∧ v9 = .bool t9 ∧ Hid (PS D w0 B g n c wr))
  case atStart => exact ⟨a0, b0, l0, true, true, by omega, Nat.le_refl _, rfl, rfl, rfl, rfl, rfl, H0⟩
  case round =>
    clear H0
    obtain ⟨a, b, lim, t8, t9, ⟨ha, hab2, hb2, hlim⟩, hg0, rfl, rfl, rfl, rfl, rfl, HM⟩ := hrel
    obtain ⟨m, hm⟩ : ∃ m, b - a = m := ⟨_, rfl⟩
    have hmI : (b : Int) - (a : Int) = (m : Int) := by omega
    by_cases hm12 : m ≤ 12
    · have HC := Lib.hid (insertI_ok D w0 B g n c a b wr HM.out hmax hab2 (by omega))
      clear HM hm
      go_wp2_with (go_at_call 89; (with_reducible refine HC.out.mono ?_); rintro e u ⟨rfl, hu⟩)
      (try simp only [Exit.inBlock, Exit.then])
      exact bodyPost_ret (results_none rfl _ _ _) rfl ⟨rfl, hu⟩
    · by_cases hl0 : lim = 0
      · have HC := Lib.hid (heap_ok D w0 B g n c a b wr HM.out hmax (by omega) (by omega))
        subst hl0
        clear HM hm
        go_wp2_with (go_at_call 90; (with_reducible refine HC.out.mono ?_); rintro e u ⟨rfl, hu⟩)
        (try simp only [Exit.inBlock, Exit.then])
        exact bodyPost_ret (results_none rfl _ _ _) rfl ⟨rfl, hu⟩
      · have hlb : ((lim : Int) == 0) = false := by rw [beq_eq_false_iff_ne]; omega
        have hmd : decide (m ≤ 12) = false := decide_eq_false hm12
        have hmd2 : decide ((m : Int) ≤ 12) = false := decide_eq_false (by omega)
        obtain ⟨lim', hlim'⟩ : ∃ lim', lim - 1 = lim' := ⟨_, rfl⟩
        have hl1 : (lim : Int) - 1 = (lim' : Int) := by omega
        have HB := Lib.hid (break_ok D w0 B g n c a b wr HM.out hmax (by omega) (by omega))
        have hlim2 : lim' ≤ 64 := by omega
        go_upto_if 35 with fail
        go_cut [3] (fun v wx => ∃ k : Nat, k ≤ 64 ∧ v = .int .i64 k ∧ Hid (PS D w0 B g n c wx))
        case first =>
          cases t8
          · go_wp2_with (go_at_call 91; (with_reducible refine HB.out.mono ?_); rintro e u ⟨rfl, hu⟩)
            go_meet
            case rel => exact ⟨lim', hlim2, rfl, Lib.hid hu⟩
          · go_wp2_with fail
            go_meet
            case rel => exact ⟨lim, hlim, rfl, HM⟩
        case rest =>
          clear HM HB hl1 hlim hlim' hlim2 hl0 hlb
          obtain ⟨lim2, hlim, rfl, HM⟩ := hcut
          have HPV := Lib.hid (pivot_ok D w0 B g n c a b wc HM.out hmax (by omega) (by omega))
          go_upto_if 50 with (go_at_call 92; (with_reducible refine HPV.out.mono ?_); rintro e u ⟨p, th, rfl, hp, hu⟩)
          have HU := Lib.hid hu
          clear hu HPV HM
          go_cut [11, 12] (fun v11 v12 wx => ∃ (p1 : Nat) (t1 : Int), (a ≤ p1 ∧ p1 < b) ∧ v11 = .int .i64 p1 ∧ v12 = .int .i64 t1 ∧ Hid (PS D w0 B g n c wx))
          case first =>
            by_cases ht2 : th = 2
            · subst ht2
              have HR := Lib.hid (reverse_ok D w0 B g n c a b u HU.out hmax (by omega) (by omega))
              obtain ⟨b1, hb1⟩ : ∃ b1, b - 1 = b1 := ⟨_, rfl⟩
              have hb1I : (b : Int) - 1 = (b1 : Int) := by omega
              obtain ⟨p1, hp1⟩ : ∃ p1, p - a = p1 := ⟨_, rfl⟩
              have hp1I : (p : Int) - (a : Int) = (p1 : Int) := by omega
              obtain ⟨p2, hp2⟩ : ∃ p2, b1 - p1 = p2 := ⟨_, rfl⟩
              have hp2I : (b1 : Int) - (p1 : Int) = (p2 : Int) := by omega
              have HQ : Hid (a ≤ p2 ∧ p2 < b) := Lib.hid (by omega)
              clear hb1 hp1 hp2 HU
              go_wp2_with (go_at_call 93; (with_reducible refine HR.out.mono ?_); rintro e u2 ⟨rfl, hu2⟩)
              go_meet
              case rel => exact ⟨p2, 1, HQ.out, rfl, rfl, Lib.hid hu2⟩
            · have htb : (th == 2) = false := by rw [beq_eq_false_iff_ne]; exact ht2
              go_wp2_with fail
              go_meet
              case rel => exact ⟨p, th, hp, rfl, rfl, HU⟩
          case rest =>
            clear HU hp
            obtain ⟨p, th, hp, rfl, rfl, HM⟩ := hcut
            have HPT := Lib.hid (partial_ok D w0 B g n c a b wc HM.out hmax (by omega) (by omega))
            go_upto_region 15 with fail
            go_cut [68] (fun v wx => ∃ tb : Bool, v = .bool tb ∧ wx = wc)
            case first =>
              cases t8
              · go_wp2_with fail
                go_meet
                case rel => exact ⟨false, rfl, rfl⟩
              · cases t9
                · go_wp2_with fail
                  go_meet
                  case rel => exact ⟨false, rfl, rfl⟩
                · go_wp2_with fail
                  go_meet
                  case rel => exact ⟨_, rfl, rfl⟩
            case rest =>
              obtain ⟨tb, rfl, rfl⟩ := hcut
              go_upto_if 68 with fail
              go_cut [11] (fun v11 wx => v11 = .int .i64 p ∧ Hid (PS D w0 B g n c wx))
              case first =>
                cases tb
                · go_wp2_with fail
                  go_meet
                  case rel => exact ⟨rfl, HM⟩
                · go_wp2_with (go_at_call 94; (with_reducible refine HPT.out.mono ?_); rintro e u2 ⟨tq, rfl, hu2⟩)
                  · (try simp only [Exit.inBlock, Exit.then])
                    exact bodyPost_ret (results_none rfl _ _ _) rfl ⟨rfl, hu2⟩
                  · go_meet
                    case rel => exact ⟨rfl, Lib.hid hu2⟩
              case rest =>
                clear HPT HM
                obtain ⟨rfl, HM⟩ := hcut
                have HPA := Lib.hid (fun (W : World) (h : PS D w0 B g n c W) => part_ok D w0 B g n c a b p W h hmax hp.1 hp.2 (by omega))
                have HIH := Lib.hid (fun (x y l : Nat) (W : World) (h1 : y - x < b - a) (h2 : x ≤ y) (h3 : y ≤ n) (h4 : l ≤ 64) (h5 : PS D w0 B g n c W) => HIH0.out x y l W (by omega) h2 h3 h4 h5)
                have hpn : p < n := by omega
                by_cases ha0 : 0 < a
                · have had : decide ((0 : Int) < (a : Int)) = true := decide_eq_true (by omega)
                  obtain ⟨a1, ha1⟩ : ∃ a1, a - 1 = a1 := ⟨_, rfl⟩
                  have ha1I : (a : Int) - 1 = (a1 : Int) := by omega
                  have ha1w : IntKind.i64.wrap (a1 : Int) = (a1 : Int) := IntWalk.i64_in _ (by omega)
                  have ha1n : a1 < n := by omega
                  obtain ⟨x, c1⟩ := HM.out.cell ha1n
                  obtain ⟨y, c2⟩ := HM.out.cell hpn
                  have HC := Lib.hid (HLe.out x y)
                  have HP := Lib.hid HM.out.drew
                  clear HM ha1
                  go_wp2_with fail
                  go_region_held3 (fun W => W.cell? ⟨g, a1, none⟩ = some (.int .i32 x) ∧ W.cell? ⟨g, p, none⟩ = some (.int .i32 y))
                    (exact ⟨by assumption, by assumption⟩) ((go_at_call 95; refine (HC.out _).mono ?_; rintro e u ⟨⟨t, rfl⟩, rfl⟩))
                  clear c1 c2 HC
                  generalize wc.drew = w1 at *
                  have HPE := Lib.hid (parteq_ok D w0 B g n c a b p w1 HP.out hmax hp.1 hp.2 (by omega))
                  have HM := HP
                  clear HP
                  go_wp2_with (go_at_call 96; (with_reducible refine HPE.out.mono ?_); rintro e u ⟨q, rfl, hq, hu⟩)
                  · have HU := Lib.hid hu
                    clear hu HPE HM
                    go_roundg (b - q)
                    case measure => omega
                    case rel => exact ⟨q, b, lim2, t8, t9, by omega, Nat.le_refl _, rfl, rfl, rfl, rfl, rfl, HU⟩
                  · clear HPE
                    have HPB := Lib.hid (HPA.out w1 HM.out)
                    clear HM
                    go_wp2_with (first
                      | (go_at_call 97; (with_reducible refine HPB.out.mono ?_); rintro e u ⟨q, tq, rfl, hq, hu⟩; (obtain ⟨l, hl⟩ : ∃ l, q - a = l := ⟨_, rfl⟩); (obtain ⟨r, hr⟩ : ∃ r, b - q = r := ⟨_, rfl⟩); (have hlI : (q : Int) - (a : Int) = (l : Int) := by omega); (have hrI : (b : Int) - (q : Int) = (r : Int) := by omega); (obtain ⟨q2, hq2⟩ : ∃ q2, q + 1 = q2 := ⟨_, rfl⟩); (have hq2I : (q : Int) + 1 = (q2 : Int) := by omega); (have HI1 := Lib.hid (HIH.out a q lim2 _ (by omega) (by omega) (by omega) hlim hu)); (have HI2 := Lib.hid (HIH.out q2 b lim2 _ (by omega) (by omega) (by omega) hlim hu)); (have HQ := Lib.hid (And.intro hq hq2)); clear hu hl hr hq2 HPB hq)
                      | (go_at_call 68; (with_reducible refine HI1.out.mono ?_); rintro e u2 ⟨rfl, hu2⟩)
                      | (go_at_call 68; (with_reducible refine HI2.out.mono ?_); rintro e u2 ⟨rfl, hu2⟩))
                    · go_roundg (b - q2)
                      case measure => have := HQ.out; omega
                      case rel => exact ⟨q2, b, lim2, _, tq, by have := HQ.out; omega, Nat.le_refl _, rfl, rfl, rfl, rfl, rfl, Lib.hid hu2⟩
                    · go_roundg (q - a)
                      case measure => have := HQ.out; omega
                      case rel => exact ⟨a, q, lim2, _, tq, by have := HQ.out; omega, Nat.le_refl _, rfl, rfl, rfl, rfl, rfl, Lib.hid hu2⟩
                · have had : decide ((0 : Int) < (a : Int)) = false := decide_eq_false (by omega)
                  have HP := Lib.hid HM.out.drew
                  clear HM
                  go_wp2_with fail
                  go_region
                  generalize wc.drew = w1 at *
                  have HM := HP
                  clear HP
                  have HPB := Lib.hid (HPA.out w1 HM.out)
                  clear HM
                  go_wp2_with (first
                    | (go_at_call 97; (with_reducible refine HPB.out.mono ?_); rintro e u ⟨q, tq, rfl, hq, hu⟩; (obtain ⟨l, hl⟩ : ∃ l, q - a = l := ⟨_, rfl⟩); (obtain ⟨r, hr⟩ : ∃ r, b - q = r := ⟨_, rfl⟩); (have hlI : (q : Int) - (a : Int) = (l : Int) := by omega); (have hrI : (b : Int) - (q : Int) = (r : Int) := by omega); (obtain ⟨q2, hq2⟩ : ∃ q2, q + 1 = q2 := ⟨_, rfl⟩); (have hq2I : (q : Int) + 1 = (q2 : Int) := by omega); (have HI1 := Lib.hid (HIH.out a q lim2 _ (by omega) (by omega) (by omega) hlim hu)); (have HI2 := Lib.hid (HIH.out q2 b lim2 _ (by omega) (by omega) (by omega) hlim hu)); (have HQ := Lib.hid (And.intro hq hq2)); clear hu hl hr hq2 HPB hq)
                    | (go_at_call 68; (with_reducible refine HI1.out.mono ?_); rintro e u2 ⟨rfl, hu2⟩)
                    | (go_at_call 68; (with_reducible refine HI2.out.mono ?_); rintro e u2 ⟨rfl, hu2⟩))
                  · go_roundg (b - q2)
                    case measure => have := HQ.out; omega
                    case rel => exact ⟨q2, b, lim2, _, tq, by have := HQ.out; omega, Nat.le_refl _, rfl, rfl, rfl, rfl, rfl, Lib.hid hu2⟩
                  · go_roundg (q - a)
                    case measure => have := HQ.out; omega
                    case rel => exact ⟨a, q, lim2, _, tq, by have := HQ.out; omega, Nat.le_refl _, rfl, rfl, rfl, rfl, rfl, Lib.hid hu2⟩
end Go.Proofs.YtnpcakeagpbgiaaGreat

/-
  The library's Sort at code points in a slice of the call's own: it leaves the elements that there were. Condition: at most 1000000 elements.
-/
set_option linter.unusedVariables false
set_option linter.unusedSimpArgs false
namespace Go.Proofs.YtnpcakeagpbgiaaGreat
open Go.ChangeShapes Go.WideShapes Go.ChangeAt Go.RowKit Go.Sort

theorem pdq_all (D : List Int) (w0 : World) (B g n c : Nat) (hmax : n ≤ 1000000) : ∀ z, ShorterP D w0 B g n c z
  | 0 => fun a b lim w hz => absurd hz (Nat.not_lt_zero _)
  | z + 1 => fun a b lim w hz hab hb hl h => pdq_step D w0 B g n c a b lim w h hmax hab hb hl fun a' b' l' w' hz' => pdq_all D w0 B g n c hmax z a' b' l' w' (by omega)
theorem insert_nil (w : World) (A : Option Addr) (c : Nat) : Calls Tryz.prog 89 #[.slice A 0 c, .int .i64 0, .int .i64 0] w fun e w' => e = .returned (.tuple #[]) ∧ w = w' := by
  go_enter Tryz.func89, Tryz.ntmps89
  go_wp2
  go_loopg [6] 1 (fun g0 v wr => v = .int .i64 1 ∧ wr = w)
  case atStart => exact ⟨rfl, rfl⟩
  case round =>
    obtain ⟨rfl, rfl⟩ := hrel
    go_wp2
    go_end0
    exact ⟨rfl, rfl⟩
set_option maxRecDepth 20000 in
theorem pdq_nil (w : World) (A : Option Addr) (c : Nat) (l : Int) : Calls Tryz.prog 68 #[.slice A 0 c, .int .i64 0, .int .i64 0, .int .i64 l] w fun e w' => e = .returned (.tuple #[]) ∧ w = w' := by
  have HI := Lib.hid (fun W => insert_nil W A c)
  go_enter Tryz.func68, Tryz.ntmps68
  go_wp2_with fail
  go_loopg [1, 2, 3, 8, 9] 1 (fun g0 v1 v2 v3 v8 v9 wr => v1 = .int .i64 0 ∧ v2 = .int .i64 0 ∧ v3 = .int .i64 l ∧ v8 = .bool true ∧ v9 = .bool true ∧ wr = w)
  case atStart => exact ⟨rfl, rfl, rfl, rfl, rfl, rfl⟩
  case round =>
    obtain ⟨rfl, rfl, rfl, rfl, rfl, rfl⟩ := hrel
    go_wp2_with (go_at_call 89; (refine (HI.out _).mono ?_); rintro e u ⟨rfl, rfl⟩)
    (try simp only [Exit.inBlock, Exit.then])
    exact bodyPost_ret (results_none rfl _ _ _) rfl ⟨rfl, rfl⟩
/-- sorted: the same elements in some order -/
theorem sortR_ok (g n c B : Nat) (D : List Int) (w : World) (h : Mine .i32 21 w B (.slice (some ⟨g, 0, none⟩) n c) D) (hn : n = D.length) (h0 : 0 < n) (hmax : n ≤ 1000000) :
    Calls Tryz.prog 51 #[.slice (some ⟨g, 0, none⟩) n c] w fun e w' => e = .returned (.tuple #[]) ∧ PS D w B g n c w' := by
  obtain ⟨k, hk⟩ : ∃ k, bitsLen n = k := ⟨_, rfl⟩
  have hLen := Lib.hid (fun W => Tryz.bits_Len (n : Int) W (by omega) (by omega))
  rw [Int.toNat_natCast, bitLen_eq _ (by omega), hk] at hLen
  have hk1 : k ≤ 62 := by rw [← hk]; exact (bitsLen_le_iff n 62).2 (by omega)
  have hnw : IntKind.u64.wrap (n : Int) = (n : Int) := by simp [IntKind.wrap, IntKind.bits, IntKind.signed]; omega
  have hc := pdq_all D w B g n c hmax (n + 1) 0 n k w (by omega) (by omega) (Nat.le_refl _) (by omega) (PS.start h hn)
  rw [show ((0 : Nat) : Int) = 0 from rfl] at hc
  have HC := Lib.hid hc
  clear h hn hk hc
  go_enter Tryz.func51, Tryz.ntmps51
  go_wp2_with (first
    | (go_at_call 69; (refine (hLen.out _).mono ?_); rintro e u ⟨rfl, rfl⟩)
    | (go_at_call 68; (with_reducible refine HC.out.mono ?_); rintro e u ⟨rfl, hu⟩))
  go_end0
  exact ⟨rfl, hu⟩
theorem sortR_nil (A : Option Addr) (c : Nat) (w : World) : Calls Tryz.prog 51 #[.slice A 0 c] w fun e w' => e = .returned (.tuple #[]) ∧ w = w' := by
  have hLen := Lib.hid (fun W => Tryz.bits_Len 0 W (by omega) (by omega))
  have HC := Lib.hid (fun l W => pdq_nil W A c l)
  go_enter Tryz.func51, Tryz.ntmps51
  go_wp2_with (first
    | (go_at_call 69; (refine (hLen.out _).mono ?_); rintro e u ⟨rfl, rfl⟩)
    | (go_at_call 68; (refine (HC.out _ _).mono ?_); rintro e u ⟨rfl, rfl⟩))
  go_end0
  exact ⟨rfl, rfl⟩
end Go.Proofs.YtnpcakeagpbgiaaGreat

/-
  slices.Sorted and Compact at code points: a slice of the call's own that holds the code points that a text holds, and no others. Condition: at most 1000000 elements.
-/
set_option linter.unusedVariables false
set_option linter.unusedSimpArgs false
namespace Go.Proofs.YtnpcakeagpbgiaaGreat
open Go.ChangeShapes Go.WideShapes Go.ChangeAt Go.RowKit Go.Sort

theorem PS.mine {D : List Int} {w0 W : World} {B g n c : Nat} (h : PS D w0 B g n c W) : ∃ L, L.Perm D ∧ Mine .i32 21 W B (.slice (some ⟨g, 0, none⟩) n c) L ∧ Off g w0 W := by
  obtain ⟨L, h1, _, h3, h4⟩ := h
  exact ⟨L, h1, h3, h4⟩
theorem sorted_ok (gb d n : Nat) (A : Option Addr) (t : List Int) (w : World) (hn : n = t.length) (hmax : n ≤ 1000000) (hb : Boxed w gb 23 (.slice A n d)) (h : Has w w.heap.size A (t.map (Value.int .i32))) :
    Calls Tryz.prog 28 #[.func (.func 52) #[] #[.pointer (some ⟨gb, 0, none⟩)]] w fun e w' => ∃ v L, e = .returned v ∧ L.Perm t ∧ Mine .i32 21 w' w.heap.size v L ∧ Below w.heap.size w w' := by
  have HC := Lib.hid (collect_ok gb d n A t w hn hmax hb h)
  have HN := Lib.hid hn
  clear hb h hn
  by_cases h0 : 0 < n
  · go_enter Tryz.func28, Tryz.ntmps28
    go_wp2_with (first
      | (go_at_call 50; (with_reducible refine HC.out.mono ?_); rintro e u ⟨v, rfl, hv, hb⟩; (obtain ⟨g, c, rfl, hlc, hgB, hg⟩ := hv.formB (by rw [← HN.out]; exact h0)); rw [← HN.out] at hv; (have HS := Lib.hid (sortR_ok g n c w.heap.size t u hv HN.out h0 hmax)); rw [← HN.out])
      | (go_at_call 51; (with_reducible refine HS.out.mono ?_); rintro e u2 ⟨rfl, hu2⟩))
    obtain ⟨L, hL, hM, hO⟩ := hu2.mine
    have HF := Lib.hid (And.intro hL (And.intro hM (hb.trans (hO.below hgB hb.size))))
    clear hL hM hO hu2 HS hv hb
    go_ret
    exact ⟨_, L, rfl, HF.out⟩
  · obtain rfl : n = 0 := by omega
    have ht : t = [] := List.eq_nil_of_length_eq_zero HN.out.symm
    subst ht
    have HS := Lib.hid (fun A c W => sortR_nil A c W)
    go_enter Tryz.func28, Tryz.ntmps28
    go_wp2_with (first
      | (go_at_call 50; (with_reducible refine HC.out.mono ?_); rintro e u ⟨v, rfl, hv, hb⟩; (obtain ⟨A', c', hv', hh⟩ := hv.reads); (have hv0 : v = .slice A' 0 c' := hv'); subst hv0; clear hv')
      | (go_at_call 51; (refine (HS.out _ _ _).mono ?_); rintro e u2 ⟨rfl, rfl⟩))
    go_ret
    exact ⟨_, [], rfl, List.Perm.refl _, hv, hb⟩
end Go.Proofs.YtnpcakeagpbgiaaGreat

/-
  slices.Compact at code points in a slice of the call's own: what comes back holds the code points that were there, and no others. Condition: at most 1000000 elements.
-/
set_option linter.unusedVariables false
set_option linter.unusedSimpArgs false
namespace Go.Proofs.YtnpcakeagpbgiaaGreat
open Go.ChangeShapes Go.WideShapes Go.ChangeAt Go.RowKit Go.Sort

theorem Mine.past {k : IntKind} {e : TypeId} {w : World} {B g i c : Nat} {xs : List Int} (h : Mine k e w B (.slice (some ⟨g, 0, none⟩) i c) xs) (j : Nat) (hj : xs.length ≤ j) (v : Value) : Mine k e (w.setCell ⟨g, j, none⟩ v) B (.slice (some ⟨g, 0, none⟩) i c) xs := by
  refine ⟨h.1, ?_⟩
  rcases h.2 with ⟨a, b⟩ | ⟨g', cap, cur, a, b, hg, hc, hm, hs, ht⟩
  · cases a
  · injection a with a1 a2 a3
    injection a1 with a1
    injection a1 with a1
    subst a1; subst a2; subst a3
    refine .inr ⟨g, c, cur.setIfInBounds j v, rfl, b, ?_, hc, hm, by simp [hs], ?_⟩
    · have hlt := (Array.getElem?_eq_some_iff.1 hg).1
      have h' : w.heap[g] = .cells cur e (0, 0) := by simpa [Array.getElem?_eq_getElem hlt] using hg
      show (w.heap.modify g _)[g]? = _
      rw [Array.getElem?_eq_getElem (by simpa using hlt), Array.getElem_modify_self, h']
      rfl
    · rw [Array.toList_setIfInBounds, Nat.mul_one, List.take_set_of_le hj]
      rwa [Nat.mul_one] at ht
theorem Mine.pasts {k : IntKind} {e : TypeId} {B g i c : Nat} {xs : List Int} : ∀ (vs : List Value) (j : Nat) {w : World}, Mine k e w B (.slice (some ⟨g, 0, none⟩) i c) xs → xs.length ≤ j → Mine k e (w.setCells g j vs) B (.slice (some ⟨g, 0, none⟩) i c) xs
  | [], _, _, h, _ => h
  | v :: vs, j, w, h, hj => Mine.pasts vs (j + 1) (h.past j hj v) (by omega)
theorem below_cells {B g : Nat} {a : World} (hg : B ≤ g) : ∀ (vs : List Value) (j : Nat) {w : World}, Below B a w → Below B a (w.setCells g j vs)
  | [], _, _, h => h
  | v :: vs, j, w, h => below_cells hg vs (j + 1) (h.setCell (p := ⟨g, j, none⟩) hg v)
theorem rr_lo (g n c a : Nat) (ha : a ≤ n) (hc : a < c) (W : World) : (Instr.slice 23 (.slice (some ⟨g, 0, none⟩) n c) (some (.int .i64 (a : Int))) none none).run Tryz.prog W = .ok (.slice (some ⟨g, a, none⟩) (n - a) (c - a)) W := by
  rw [run_slice_l (P := Tryz.prog) W 23 _ n c (by kernel_rfl) .i64 a (by omega) (by omega)]
  have hs : (sizeOf (Tryz.prog.elem 23)).run Tryz.prog W = .ok 1 W := by kernel_rfl
  rw [hs]
  simp [Result.andThen, sliced]
  rw [if_neg (by omega)]
  simp [Addr.add]
  try omega
theorem rr_hi (g n c b : Nat) (hb : b ≤ c) (W : World) : (Instr.slice 23 (.slice (some ⟨g, 0, none⟩) n c) none (some (.int .i64 (b : Int))) none).run Tryz.prog W = .ok (.slice (some ⟨g, 0, none⟩) b c) W := by
  rw [run_slice_h (P := Tryz.prog) W 23 _ n c (by kernel_rfl) .i64 b (by omega) (by omega)]
  have hs : (sizeOf (Tryz.prog.elem 23)).run Tryz.prog W = .ok 1 W := by kernel_rfl
  rw [hs]
  simp [Result.andThen, sliced, Addr.add]
/-- k have been kept of the first j; from j - 1 on all stands as it stood -/
structure CmS (L M : List Int) (k j : Nat) : Prop where
  len : M.length = L.length
  kj : 0 < k ∧ k < j ∧ j ≤ L.length
  set_ : ∀ x, x ∈ M.take k ↔ x ∈ L.take j
  rest : ∀ q, j ≤ q + 1 → M[q]? = L[q]?
theorem CmS.start {L : List Int} {k : Nat} (hk : 0 < k) (hl : k < L.length) (he : L[k]? = L[k - 1]?) : CmS L L k (k + 1) := by
  refine ⟨rfl, ⟨hk, by omega, hl⟩, fun x => ?_, fun _ _ => rfl⟩
  have e : L.take (k + 1) = L.take k ++ [L[k]] := by rw [List.take_add_one, List.getElem?_eq_getElem hl]; rfl
  rw [e, List.mem_append]
  refine ⟨.inl, fun h => h.elim id fun h => ?_⟩
  rw [List.mem_singleton] at h
  subst h
  rw [List.getElem?_eq_getElem hl, List.getElem?_eq_getElem (by omega)] at he
  injection he with he
  rw [he]
  exact List.mem_take_iff_getElem.2 ⟨k - 1, by omega, rfl⟩
theorem CmS.skip {L M : List Int} {k j : Nat} (h : CmS L M k j) (hj : j < L.length) {x : Int} (hx : M[j]? = some x) (hy : M[j - 1]? = some x) : CmS L M k (j + 1) := by
  have h1 := h.kj
  refine ⟨h.len, by omega, fun z => ?_, fun q hq => h.rest q (by omega)⟩
  have e : L.take (j + 1) = L.take j ++ [x] := by rw [List.take_add_one, ← h.rest j (by omega), hx]; rfl
  rw [e, List.mem_append, h.set_]
  refine ⟨.inl, fun hz => hz.elim id fun hz => ?_⟩
  rw [List.mem_singleton] at hz
  subst hz
  rw [h.rest (j - 1) (by omega)] at hy
  obtain ⟨hl, he⟩ := List.getElem?_eq_some_iff.1 hy
  exact List.mem_take_iff_getElem.2 ⟨j - 1, by omega, he⟩
theorem CmS.keep {L M : List Int} {k j : Nat} (h : CmS L M k j) (hj : j < L.length) {x : Int} (hx : M[j]? = some x) : CmS L (M.set k x) (k + 1) (j + 1) := by
  have h1 := h.kj
  have hl := h.len
  refine ⟨by rw [List.length_set]; exact hl, by omega, fun z => ?_, fun q hq => by rw [List.getElem?_set_ne (by omega)]; exact h.rest q (by omega)⟩
  have e : L.take (j + 1) = L.take j ++ [x] := by rw [List.take_add_one, ← h.rest j (by omega), hx]; rfl
  have e2 : (M.set k x).take (k + 1) = M.take k ++ [x] := by
    rw [List.take_add_one, List.getElem?_set_self (by omega), List.take_set_of_le (Nat.le_refl _)]; rfl
  rw [e, e2, List.mem_append, List.mem_append, h.set_]
set_option maxRecDepth 20000 in
set_option maxHeartbeats 8000000 in
theorem compact_ok (g n c B : Nat) (L : List Int) (w : World) (hown : Mine .i32 21 w B (.slice (some ⟨g, 0, none⟩) n c) L) (hn : n = L.length) (hmax : n ≤ 1000000) (hnc : n ≤ c) :
    Calls Tryz.prog 27 #[.slice (some ⟨g, 0, none⟩) n c] w fun e w' => ∃ v M, e = .returned v ∧ ((∀ x, x ∈ M ↔ x ∈ L) ∧ M.length ≤ L.length) ∧ Mine .i32 21 w' B v M ∧ Below B w w' := by
  have hgB := (hown.own_lt g rfl).1
  have hgw := (hown.own_lt g rfl).2
  have HN := Lib.hid hn
  by_cases h2 : n < 2
  · have H0 := Lib.hid hown
    clear hown hn
    go_enter Tryz.func27, Tryz.ntmps27
    go_wp2
    go_ret
    exact ⟨_, L, rfl, ⟨fun _ => Iff.rfl, Nat.le_refl _⟩, H0.out, Below.refl _ _⟩
  · have H0 := Lib.hid hown
    clear hown hn
    go_enter Tryz.func27, Tryz.ntmps27
    go_wp2
    go_loopw [3] (fun u wr => ∃ k : Nat, (0 < k ∧ k ≤ n) ∧ u = .int .i64 k ∧ Hid (Mine .i32 21 wr B (.slice (some ⟨g, 0, none⟩) n c) L ∧ Below B w wr)) (fun u _ => n - (intOf u).toNat)
    case atStart => exact ⟨1, by omega, rfl, Lib.hid ⟨H0.out, Below.refl _ _⟩⟩
    case round =>
      clear H0
      obtain ⟨k, ⟨hk0, hkn⟩, rfl, HM⟩ := hrel
      by_cases hlt : k < n
      · obtain ⟨j, hj⟩ : ∃ j, k - 1 = j := ⟨_, rfl⟩
        have hjI : (k : Int) - 1 = (j : Int) := by omega
        have hjw : IntKind.i64.wrap (j : Int) = (j : Int) := IntWalk.i64_in _ (by omega)
        have hjn : j < n := by omega
        have hkL : k < L.length := by rw [← HN.out]; exact hlt
        have hjL : j < L.length := by omega
        have c1 := HM.out.1.cellAt k hkL
        have c2 := HM.out.1.cellAt j hjL
        have HQ : Hid (L[k] = L[j] → CmS L L k (k + 1)) := Lib.hid (fun e => CmS.start hk0 hkL (by rw [hj, List.getElem?_eq_getElem hkL, List.getElem?_eq_getElem hjL, e]))
        obtain ⟨x, hx⟩ : ∃ x, L[k] = x := ⟨_, rfl⟩
        obtain ⟨y, hy⟩ : ∃ y, L[j] = y := ⟨_, rfl⟩
        rw [hx] at c1 HQ
        rw [hy] at c2 HQ
        clear hx hy hkL hjL hj
        by_cases hxy : x = y
        · have HC := Lib.hid (HQ.out hxy)
          subst hxy
          have hkc : k < c := by omega
          have hlo := fun W => rr_lo g n c k hkn hkc W
          obtain ⟨d, hd⟩ : ∃ d, n - k = d := ⟨_, rfl⟩
          rw [hd] at hlo
          have HD := Lib.hid hd
          have hdn : d ≤ 1000000 := by omega
          have HM1 := Lib.hid (And.intro HM.out.1.drew HM.out.2.drew)
          clear HQ HM hd
          go_wp2
          go_region
          generalize wr.drew = w1 at *
          go_wp2
          go_loopw [3, 5] (fun u v wq => ∃ (k1 i : Nat) (M : List Int), (0 < i ∧ i ≤ d) ∧ u = .int .i64 k1 ∧ v = .int .i64 i ∧ Hid (CmS L M k1 (k + i) ∧ Mine .i32 21 wq B (.slice (some ⟨g, 0, none⟩) n c) M ∧ Below B w wq)) (fun _ v _ => d - (intOf v).toNat)
          case atStart => exact ⟨k, 1, L, by have := HD.out; omega, rfl, rfl, Lib.hid ⟨HC.out, HM1.out⟩⟩
          case round =>
            clear HM1
            obtain ⟨k1, i, M, ⟨hi0, hid⟩, rfl, rfl, HM⟩ := hrel
            have hML := HM.out.1.len
            have hkj := HM.out.1.kj
            have hNn := HN.out
            by_cases hlt2 : i < d
            · have hdd := HD.out
              obtain ⟨i1, hi1⟩ : ∃ i1, i - 1 = i1 := ⟨_, rfl⟩
              have hi1I : (i : Int) - 1 = (i1 : Int) := by omega
              have hi1w : IntKind.i64.wrap (i1 : Int) = (i1 : Int) := IntWalk.i64_in _ (by omega)
              have hi1d : i1 < d := by omega
              have q1 : k + i < M.length := by omega
              have q2 : k + i1 < M.length := by omega
              have q3 : k1 < M.length := by omega
              have hk1n : k1 < n := by omega
              have e1 := HM.out.2.1.cellAt (k + i) q1
              have e2 := HM.out.2.1.cellAt (k + i1) q2
              have e3 := HM.out.2.1.cellAt k1 q3
              have f3 := HM.out.2.1.free k1
              have HSK : Hid (∀ z : Int, M[k + i] = z → M[k + i1] = z → CmS L M k1 (k + (i + 1))) := Lib.hid (fun z h1 h2 => HM.out.1.skip (by omega) (by rw [List.getElem?_eq_getElem q1, h1]) (by rw [show k + i - 1 = k + i1 by omega, List.getElem?_eq_getElem q2, h2]))
              have HKE : Hid (∀ z : Int, M[k + i] = z → CmS L (M.set k1 z) (k1 + 1) (k + (i + 1))) := Lib.hid (fun z h1 => HM.out.1.keep (by omega) (by rw [List.getElem?_eq_getElem q1, h1]))
              have HST := Lib.hid (fun z : Int => (⟨HM.out.2.1.drew.set k1 q3 z, (HM.out.2.2.drew).setCell (p := ⟨g, k1, none⟩) hgB (.int .i32 z)⟩ : Mine .i32 21 (wr.drew.setCell ⟨g, k1, none⟩ (.int .i32 z)) B (.slice (some ⟨g, 0, none⟩) n c) (M.set k1 z) ∧ Below B w (wr.drew.setCell ⟨g, k1, none⟩ (.int .i32 z))))
              obtain ⟨x1, hx1⟩ : ∃ x1, M[k + i] = x1 := ⟨_, rfl⟩
              obtain ⟨y1, hy1⟩ : ∃ y1, M[k + i1] = y1 := ⟨_, rfl⟩
              obtain ⟨z1, hz1⟩ : ∃ z1, M[k1] = z1 := ⟨_, rfl⟩
              rw [hx1] at e1
              rw [hy1] at e2
              rw [hz1] at e3
              have HKE2 := Lib.hid (HKE.out x1 hx1)
              by_cases hxy1 : x1 = y1
              · subst hxy1
                have HS2 := Lib.hid (HSK.out x1 hx1 hy1)
                have HM2 : Hid (Mine .i32 21 wr.drew B (.slice (some ⟨g, 0, none⟩) n c) M ∧ Below B w wr.drew) := Lib.hid ⟨HM.out.2.1.drew, HM.out.2.2.drew⟩
                clear HSK HKE HKE2 HST hx1 hy1 hz1 hML hkj hNn HM q1 q2 q3 hdd hi1
                go_wp2
                go_region
                go_wp2
                go_roundw
                case rel => exact ⟨k1, i + 1, M, by omega, rfl, by go_num, Lib.hid ⟨HS2.out, HM2.out⟩⟩
                case measure => simp [intOf] <;> omega
              · have hxb : (x1 == y1) = false := by rw [beq_eq_false_iff_ne]; exact hxy1
                have HM2 := Lib.hid (HST.out x1)
                have d1 : wr.drew.cell? ⟨g, k1, none⟩ = some (.int .i32 z1) := e3
                have d2 : wr.drew.cell? ⟨g, k + i, none⟩ = some (.int .i32 x1) := e1
                have d3 : wr.drew.frozen? ⟨g, k1, none⟩ = false := f3
                have d4 : wr.drew.cell? ⟨g, k + i1, none⟩ = some (.int .i32 y1) := e2
                clear HSK HKE HST hx1 hy1 hz1 hML hkj hNn HM q1 q2 q3 hdd hi1
                go_wp2
                go_region
                clear e1 e2 e3 f3
                generalize wr.drew = w2 at *
                go_wp2
                go_roundw
                case rel => exact ⟨k1 + 1, i + 1, M.set k1 x1, by omega, by go_num, by go_num, Lib.hid ⟨HKE2.out, HM2.out⟩⟩
                case measure => simp [intOf] <;> omega
            · have hkd : k + i = n := by have := HD.out; omega
              have hk1n : k1 < n := by omega
              have hT : ∀ x, x ∈ M.take k1 ↔ x ∈ L := fun x => by
                have := HM.out.1.set_ x
                rw [hkd, hNn, List.take_length] at this
                exact this
              have hcl : ∀ ty, (Builtin.clear_ #[23] ty #[.slice (some ⟨g, k1, none⟩) (n - k1) (c - k1)]).run Tryz.prog wr = .ok (.tuple #[]) (wr.setCells g k1 (List.replicate (n - k1) (.int .i32 0))) :=
                fun ty => Lib.run_clear_slice wr _ _ ty _ Tryz.underlying23 Tryz.zeroValue21 rfl rfl g k1 _ _ (by omega) (fun q hq => by rw [HM.out.2.1.cellAt (k1 + q) (by omega)]; rfl) (fun q hq => HM.out.2.1.free (k1 + q))
              have hs1 := fun W => rr_lo g n c k1 (by omega) (by omega) W
              have hs2 := fun W => rr_hi g n c k1 (by omega) W
              have hcut := HM.out.2.1.cut (q := k1) (by omega)
              have hfin : Mine .i32 21 (wr.setCells g k1 (List.replicate (n - k1) (.int .i32 0))) B (.slice (some ⟨g, 0, none⟩) k1 c) (M.take k1) := Mine.pasts _ k1 hcut (by rw [List.length_take]; omega)
              have HF := Lib.hid (And.intro (And.intro hT (show (M.take k1).length ≤ L.length by rw [List.length_take]; omega)) (And.intro hfin (below_cells hgB (List.replicate (n - k1) (.int .i32 0)) k1 HM.out.2.2)))
              obtain ⟨d2, hd2⟩ : ∃ d2, n - k1 = d2 := ⟨_, rfl⟩
              rw [hd2] at hcl hs1 HF
              obtain ⟨W9, hW9⟩ : ∃ W9, wr.setCells g k1 (List.replicate d2 (.int .i32 0)) = W9 := ⟨_, rfl⟩
              rw [hW9] at hcl HF
              clear hcut hfin hT hd2 hW9 hML hkj hNn HM hkd
              go_wp2
              go_ret
              exact ⟨_, M.take k1, rfl, HF.out⟩
        · have hxb : (x == y) = false := by rw [beq_eq_false_iff_ne]; exact hxy
          have HM1 := Lib.hid (And.intro HM.out.1.drew HM.out.2.drew)
          clear HQ HM
          go_wp2
          go_region
          go_wp2
          go_roundw
          case rel => exact ⟨k + 1, by omega, by go_num, HM1⟩
          case measure => simp [intOf] <;> omega
      · have HF : Hid (Mine .i32 21 wr B (.slice (some ⟨g, 0, none⟩) n c) L ∧ Below B w wr) := HM
        clear HM
        go_wp2
        go_ret
        exact ⟨_, L, rfl, ⟨fun _ => Iff.rfl, Nat.le_refl _⟩, HF.out⟩
/-- the same of whatever slice of the call's own, an empty one, too -/
theorem compact_any (v : Value) (B : Nat) (L : List Int) (w : World) (hown : Mine .i32 21 w B v L) (hmax : L.length ≤ 1000000) :
    Calls Tryz.prog 27 #[v] w fun e w' => ∃ v' M, e = .returned v' ∧ ((∀ x, x ∈ M ↔ x ∈ L) ∧ M.length ≤ L.length) ∧ Mine .i32 21 w' B v' M ∧ Below B w w' := by
  by_cases h0 : 0 < L.length
  · obtain ⟨g, c, rfl, hlc, _⟩ := hown.formB h0
    exact compact_ok g L.length c B L w hown rfl hmax hlc
  · have hL : L = [] := List.eq_nil_of_length_eq_zero (by omega)
    subst hL
    obtain ⟨A, c, hv, _⟩ := hown.reads
    have hv0 : v = .slice A 0 c := hv
    subst hv0
    have H0 := Lib.hid hown
    clear hown hv h0 hmax
    go_enter Tryz.func27, Tryz.ntmps27
    go_wp2
    go_ret
    exact ⟨_, [], rfl, ⟨fun _ => Iff.rfl, Nat.le_refl _⟩, H0.out, Below.refl _ _⟩
end Go.Proofs.YtnpcakeagpbgiaaGreat
