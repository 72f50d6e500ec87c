/-
  The library's merge in place at mappings in a slice of the call's own, where the second stretch is a single element. Condition: at most 1000000 elements.
-/
import Derived.Test.YtnpcakeagpbgiaaGreatFza
import Derived.Test.YtnpcakeagpbgiaaGreatZFbm
import Derived.Lib.SliceRun
set_option linter.unusedVariables false
set_option linter.unusedSimpArgs false
namespace Go.Proofs.YtnpcakeagpbgiaaGreat
open Go.ChangeShapes Go.WideShapes Go.ChangeAt Go.RowKit Go.Sort

/-- where the second stretch's only element x goes: ahead of what is greater -/
structure HighAt (D : List mapS.Dat) (a m : Nat) (x : mapS.Dat) (i j : Nat) : Prop where
  ai : a ≤ i
  ij : i ≤ j
  jm : j ≤ m
  lo : ∀ y, a < i → D[i - 1]? = some y → keyM y ≤ keyM x
  hi : ∀ y, j < m → D[j]? = some y → keyM x < keyM y
set_option maxRecDepth 20000 in
set_option maxHeartbeats 4000000 in
theorem mergeB_ok (g n c a m B : Nat) (D : List mapS.Dat) (w : World) (hown : MineM w B (.slice (some ⟨g, 0, none⟩) n c) D) (hmax : n ≤ 1000000) (ham : a + 1 < m) (hb : m < n) (hs : SortedOn keyM D a m) :
    Calls Tryz.prog 124 #[.slice (some ⟨g, 0, none⟩) n c, .int .i64 a, .int .i64 m, .int .i64 ((m + 1 : Nat) : Int), .func (.func 70) #[] #[]] w fun x w' =>
      x = .returned (.tuple #[]) ∧ ∃ E, Mrg keyM a (m + 1) D E ∧ MineM w' B (.slice (some ⟨g, 0, none⟩) n c) E ∧ Off g w w' := by
  have HL := Lib.hid hown.len
  have H0 := Lib.hid hown
  obtain ⟨x, hx⟩ : ∃ x, D[m]? = some x := ⟨_, List.getElem?_eq_getElem (by have := HL.out; omega)⟩
  have HX := Lib.hid hx
  have HSo := Lib.hid hs
  obtain ⟨b, hbm⟩ : ∃ b, m + 1 = b := ⟨_, rfl⟩
  have HBM := Lib.hid hbm
  rw [hbm]
  have h1 : (b : Int) - (m : Int) = 1 := by omega
  have h2 : ((m : Int) - (a : Int) == 1) = false := by rw [beq_eq_false_iff_ne]; omega
  have ham2 : a ≤ m := by omega
  clear hown hx hs hbm
  go_enter Tryz.func124, Tryz.ntmps124
  go_wp2
  go_loopw [14, 15] (fun u v wr => ∃ (i j : Nat), (a ≤ i ∧ i ≤ j ∧ j ≤ m) ∧ u = .int .i64 i ∧ v = .int .i64 j ∧ Hid (HighAt D a m x i j ∧ MineM wr B (.slice (some ⟨g, 0, none⟩) n c) D ∧ Off g w wr)) (fun u v _ => (intOf v).toNat - (intOf u).toNat)
  case atStart => exact ⟨a, m, by omega, rfl, rfl, Lib.hid ⟨⟨Nat.le_refl _, by omega, Nat.le_refl _, fun y h => absurd h (by omega), fun y h => absurd h (by omega)⟩, H0.out, Off.refl _ _⟩⟩
  case round =>
    clear H0
    obtain ⟨i, j, ⟨hai, hij, hjm⟩, rfl, rfl, HM⟩ := hrel
    have hl := HL.out
    by_cases hlt : i < j
    · obtain ⟨h, hh⟩ : ∃ h, (i + j) / 2 = h := ⟨_, rfl⟩
      have hhI : ((i : Int) + (j : Int)) / 2 = (h : Int) := by omega
      have hhn : h < n := by omega
      have hih : i ≤ h := by omega
      have hhj : h < j := by omega
      obtain ⟨y, hy⟩ : ∃ y, D[h]? = some y := ⟨_, List.getElem?_eq_getElem (by omega)⟩
      obtain ⟨⟨ca1, ca2⟩, _⟩ := MineM.spot HM.out.2.1 hy
      obtain ⟨⟨cb1, cb2⟩, _⟩ := MineM.spot HM.out.2.1 HX.out
      obtain ⟨q, hq⟩ : ∃ q, cmpI x.1 y.1 = q := ⟨_, rfl⟩
      have HC := Lib.hid (order_ok x y)
      rw [hq] at HC
      have hql : q < 0 ↔ x.1 < y.1 := by rw [← hq]; exact cmpI_neg _ _
      have HU := Lib.hid (fun (u : World) (hu : Up wr.drew u) => (⟨MineN.up (MineN.drew HM.out.2.1) hu, HM.out.2.2.drew.trans (Off.of_up hu)⟩ : MineM u B (.slice (some ⟨g, 0, none⟩) n c) D ∧ Off g w u))
      have HA := HM.out.1
      clear hl HM hq hh
      by_cases hq0 : q < 0
      · have HN : Hid (HighAt D a m x i h) := Lib.hid ⟨hai, hih, by omega, HA.lo, fun z _ hz => by
          rw [hy] at hz; cases hz
          exact hql.1 hq0⟩
        have hqd : decide (q < 0) = true := decide_eq_true hq0
        clear HA hql hy
        go_wp2
        go_region_held3 (fun W => W.cell? ⟨g, h * 2, none⟩ = some (.int .i32 y.1) ∧ W.cell? ⟨g, h * 2 + 1, none⟩ = some (.int .i64 y.2.1) ∧ W.cell? ⟨g, m * 2, none⟩ = some (.int .i32 x.1) ∧ W.cell? ⟨g, m * 2 + 1, none⟩ = some (.int .i64 x.2.1))
          (exact ⟨by assumption, by assumption, by assumption, by assumption⟩) ((go_at_call 70; refine (HC.out _).mono ?_; rintro e u ⟨rfl, hu⟩; have e1 := Up.cell hu (p := ⟨g, h * 2, none⟩) ca1; have e2 := Up.cell hu (p := ⟨g, h * 2 + 1, none⟩) ca2; have e3 := Up.cell hu (p := ⟨g, m * 2, none⟩) cb1; have e4 := Up.cell hu (p := ⟨g, m * 2 + 1, none⟩) cb2))
        have HF := Lib.hid (HU.out u hu)
        clear HU HC hu ca1 ca2 cb1 cb2
        go_wp2
        go_roundw
        case rel => exact ⟨i, h, by omega, rfl, by go_num, Lib.hid ⟨HN.out, HF.out⟩⟩
        case measure => simp [intOf] <;> omega
      · have HN : Hid (HighAt D a m x (h + 1) j) := Lib.hid ⟨by omega, by omega, hjm, fun z _ hz => by
          rw [show h + 1 - 1 = h by omega, hy] at hz; cases hz
          exact Int.not_lt.1 fun c => hq0 (hql.2 c), HA.hi⟩
        have hqd : decide (q < 0) = false := decide_eq_false hq0
        clear HA hql hy
        go_wp2
        go_region_held3 (fun W => W.cell? ⟨g, h * 2, none⟩ = some (.int .i32 y.1) ∧ W.cell? ⟨g, h * 2 + 1, none⟩ = some (.int .i64 y.2.1) ∧ W.cell? ⟨g, m * 2, none⟩ = some (.int .i32 x.1) ∧ W.cell? ⟨g, m * 2 + 1, none⟩ = some (.int .i64 x.2.1))
          (exact ⟨by assumption, by assumption, by assumption, by assumption⟩) ((go_at_call 70; refine (HC.out _).mono ?_; rintro e u ⟨rfl, hu⟩; have e1 := Up.cell hu (p := ⟨g, h * 2, none⟩) ca1; have e2 := Up.cell hu (p := ⟨g, h * 2 + 1, none⟩) ca2; have e3 := Up.cell hu (p := ⟨g, m * 2, none⟩) cb1; have e4 := Up.cell hu (p := ⟨g, m * 2 + 1, none⟩) cb2))
        have HF := Lib.hid (HU.out u hu)
        clear HU HC hu ca1 ca2 cb1 cb2
        go_wp2
        go_roundw
        case rel => exact ⟨h + 1, j, by omega, by go_num, rfl, Lib.hid ⟨HN.out, HF.out⟩⟩
        case measure => simp [intOf] <;> omega
    · obtain rfl : i = j := by omega
      have HN := Lib.hid (fun (E : List mapS.Dat) (hR : Rot i m (m + 1) D E) => mrg_last hR hai hjm (by omega) HSo.out HX.out HM.out.1.lo HM.out.1.hi)
      have H1 : Hid (Rot m m (m + 1) D D ∧ MineM wr B (.slice (some ⟨g, 0, none⟩) n c) D ∧ Off g w wr) := Lib.hid ⟨Rot.refl_left D, HM.out.2⟩
      clear HM hlt hl
      go_wp2
      go_loopw [17] (fun u wq => ∃ (k : Nat) (L : List mapS.Dat), (i ≤ k ∧ k ≤ m) ∧ u = .int .i64 k ∧ Hid (Rot k m (m + 1) D L ∧ MineM wq B (.slice (some ⟨g, 0, none⟩) n c) L ∧ Off g w wq)) (fun u _ => (intOf u).toNat)
      case atStart => exact ⟨m, D, by omega, rfl, H1⟩
      case round =>
        clear H1
        obtain ⟨k, L, ⟨hik, hkm⟩, rfl, HM⟩ := hrel
        by_cases hkz : i < k
        · have hl := HL.out
          obtain ⟨p, hp⟩ : ∃ p, k - 1 = p := ⟨_, rfl⟩
          have hpI : (k : Int) - 1 = (p : Int) := by omega
          have hpw : IntKind.i64.wrap (p : Int) = (p : Int) := IntWalk.i64_in _ (by omega)
          have hkn : k < n := by omega
          have hpn : p < n := by omega
          obtain ⟨u, hu⟩ : ∃ u, L[k]? = some u := ⟨_, List.getElem?_eq_getElem (by have := HM.out.1.1; omega)⟩
          obtain ⟨v, hv⟩ : ∃ v, L[p]? = some v := ⟨_, List.getElem?_eq_getElem (by have := HM.out.1.1; omega)⟩
          have hst := HM.out.1.down hkm (by omega) (by omega) (x := u) (y := v) hu (by rw [hp]; exact hv)
          rw [hp] at hst
          obtain ⟨⟨⟨ca1, ca2⟩, cb1, cb2⟩, fa, hZ⟩ := HM.out.2.1.exch (show k ≠ p by omega) hu hv
          have fa1 := fa (k * 2)
          have fa2 := fa (k * 2 + 1)
          have fb1 := fa (p * 2)
          have fb2 := fa (p * 2 + 1)
          have n00 : ¬ k = p := by omega
          have n01 : ¬ k * 2 = p * 2 + 1 := by omega
          have n10 : ¬ k * 2 + 1 = p * 2 := by omega
          have HZ : Hid (Rot p m (m + 1) D ((L.set k v).set p u) ∧ MineM (set2 (set2 wr.drew g (k * 2) v) g (p * 2) u) B (.slice (some ⟨g, 0, none⟩) n c) ((L.set k v).set p u) ∧ Off g w (set2 (set2 wr.drew g (k * 2) v) g (p * 2) u)) :=
            Lib.hid ⟨hst, (by rw [drew_set2, drew_set2]; exact hZ), off_set2 (off_set2 HM.out.2.2.drew _ _) _ _⟩
          rw [drew_set2, drew_set2] at HZ
          unfold set2 at HZ
          have HP := Lib.hid hp
          clear hu hv HM hst hl hp hZ fa
          go_wp2_with fail
          go_region
          go_wp2
          go_roundw
          case rel => exact ⟨p, _, by have := HP.out; omega, by go_num, HZ⟩
          case measure => have := HP.out; simp [intOf] <;> omega
        · have HE : Hid (∃ E, Mrg keyM a (m + 1) D E ∧ MineM wr B (.slice (some ⟨g, 0, none⟩) n c) E ∧ Off g w wr) := Lib.hid ⟨L, HN.out L (by
            have := HM.out.1
            rwa [show k = i by omega] at this), HM.out.2⟩
          have HBM2 := HBM.out
          rw [HBM2] at HE
          clear HM HN HBM2
          go_wp2
          (try simp only [Exit.inBlock, Exit.then])
          exact bodyPost_ret (results_none rfl _ _ _) rfl ⟨rfl, HE.out⟩
end Go.Proofs.YtnpcakeagpbgiaaGreat

/-
  The library's merge in place at mappings in a slice of the call's own, where the second begins behind the middle. Condition: at most 1000000 elements.
-/
set_option linter.unusedVariables false
set_option linter.unusedSimpArgs false
namespace Go.Proofs.YtnpcakeagpbgiaaGreat
open Go.ChangeShapes Go.WideShapes Go.ChangeAt Go.RowKit Go.Sort

/-- a merge of two stretches, as a call -/
def MergeAt (g n c B a m b : Nat) (D : List mapS.Dat) (w : World) : Prop :=
  Calls Tryz.prog 124 #[.slice (some ⟨g, 0, none⟩) n c, .int .i64 a, .int .i64 m, .int .i64 b, .func (.func 70) #[] #[]] w fun x w' =>
      x = .returned (.tuple #[]) ∧ ∃ E, Mrg keyM a b D E ∧ MineM w' B (.slice (some ⟨g, 0, none⟩) n c) E ∧ Off g w w'
/-- shorter merges do -/
def ShorterAt (g n c B z : Nat) : Prop := ∀ (a m b : Nat) (D : List mapS.Dat) (w : World), b - a < z → a < m → m < b → b ≤ n → MineM w B (.slice (some ⟨g, 0, none⟩) n c) D → SortedOn keyM D a m → SortedOn keyM D m b → MergeAt g n c B a m b D w
/-- where the cut of the first stretch is looked for: from s0 to r0; p is what two places that are held against each other add up to -/
structure CutAt (D : List mapS.Dat) (s0 r0 p s r : Nat) : Prop where
  lo : ∀ x y, s0 < s → D[s - 1]? = some x → D[p - (s - 1)]? = some y → keyM x ≤ keyM y
  hi : ∀ x y, r < r0 → D[r]? = some x → D[p - r]? = some y → keyM y < keyM x

set_option maxRecDepth 20000 in
set_option maxHeartbeats 8000000 in
theorem mergeC1_ok (g n c a m b B mid : Nat) (D : List mapS.Dat) (w : World) (hown : MineM w B (.slice (some ⟨g, 0, none⟩) n c) D) (hmax : n ≤ 1000000) (ham : a + 1 < m) (hmb : m + 1 < b) (hb : b ≤ n) (hs1 : SortedOn keyM D a m) (hs2 : SortedOn keyM D m b)
    (hmid : (a + b) / 2 = mid) (hcase : mid < m) (IH : ShorterAt g n c B (b - a)) : MergeAt g n c B a m b D w := by
  have HL := Lib.hid hown.len
  have H0 := Lib.hid hown
  have HS1 := Lib.hid hs1
  have HS2 := Lib.hid hs2
  have HI := Lib.hid IH
  have h1 : ((m : Int) - (a : Int) == 1) = false := by rw [beq_eq_false_iff_ne]; omega
  have h2 : ((b : Int) - (m : Int) == 1) = false := by rw [beq_eq_false_iff_ne]; omega
  have hmidI : ((a : Int) + (b : Int)) / 2 = (mid : Int) := by omega
  have hm1 : a < mid := by omega
  have hm2 : mid < b := by omega
  have hm3 : a + b ≤ 2 * mid + 1 := by omega
  have hm4 : 2 * mid ≤ a + b := by omega
  obtain ⟨z, hz⟩ : ∃ z, mid + m = z := ⟨_, rfl⟩
  have hzI : (mid : Int) + (m : Int) = (z : Int) := by omega
  obtain ⟨p, hp⟩ : ∃ p, z - 1 = p := ⟨_, rfl⟩
  have hpI : (z : Int) - 1 = (p : Int) := by omega
  obtain ⟨s0, hs0⟩ : ∃ s0, z - b = s0 := ⟨_, rfl⟩
  have hsI : (z : Int) - (b : Int) = (s0 : Int) := by omega
  have HZ : Hid (mid + m = z ∧ z - 1 = p ∧ z - b = s0 ∧ a ≤ s0 ∧ s0 ≤ mid) := Lib.hid ⟨hz, hp, hs0, by omega, by omega⟩
  clear hs0
  clear hown hs1 hs2 hmid hz hp IH
  unfold MergeAt
  go_enter Tryz.func124, Tryz.ntmps124
  go_wp2
  go_loopw [20, 21] (fun u v wr => ∃ (s r : Nat), (s0 ≤ s ∧ s ≤ r ∧ r ≤ mid) ∧ u = .int .i64 s ∧ v = .int .i64 r ∧ Hid (CutAt D s0 mid p s r ∧ MineM wr B (.slice (some ⟨g, 0, none⟩) n c) D ∧ Off g w wr)) (fun u v _ => (intOf v).toNat - (intOf u).toNat)
  case atStart => exact ⟨s0, mid, by have := HZ.out; omega, rfl, rfl, Lib.hid ⟨⟨fun x y h => absurd h (by omega), fun x y h => absurd h (by omega)⟩, H0.out, Off.refl _ _⟩⟩
  case round =>
    clear H0
    obtain ⟨s, r, ⟨hs, hsr, hr⟩, rfl, rfl, HM⟩ := hrel
    have hl := HL.out
    have hz := HZ.out
    by_cases hlt : s < r
    · obtain ⟨k, hk⟩ : ∃ k, (s + r) / 2 = k := ⟨_, rfl⟩
      have hkI : ((s : Int) + (r : Int)) / 2 = (k : Int) := by omega
      have hkn : k < n := by omega
      have hsk : s ≤ k := by omega
      have hkr : k < r := by omega
      obtain ⟨d, hd⟩ : ∃ d, p - k = d := ⟨_, rfl⟩
      have hdI : (p : Int) - (k : Int) = (d : Int) := by omega
      have hdw : IntKind.i64.wrap (d : Int) = (d : Int) := IntWalk.i64_in _ (by omega)
      have hdn : d < n := by omega
      obtain ⟨x, hx⟩ : ∃ x, D[k]? = some x := ⟨_, List.getElem?_eq_getElem (by omega)⟩
      obtain ⟨y, hy⟩ : ∃ y, D[d]? = some y := ⟨_, List.getElem?_eq_getElem (by omega)⟩
      obtain ⟨⟨ca1, ca2⟩, _⟩ := MineM.spot HM.out.2.1 hx
      obtain ⟨⟨cb1, cb2⟩, _⟩ := MineM.spot HM.out.2.1 hy
      obtain ⟨q, hq⟩ : ∃ q, cmpI y.1 x.1 = q := ⟨_, rfl⟩
      have HC := Lib.hid (order_ok y x)
      rw [hq] at HC
      have hql : q < 0 ↔ y.1 < x.1 := by rw [← hq]; exact cmpI_neg _ _
      have HU := Lib.hid (fun (u : World) (hu : Up wr.drew u) => (⟨MineN.up (MineN.drew HM.out.2.1) hu, HM.out.2.2.drew.trans (Off.of_up hu)⟩ : MineM u B (.slice (some ⟨g, 0, none⟩) n c) D ∧ Off g w u))
      have HA := HM.out.1
      clear hl HM hq hk
      by_cases hq0 : q < 0
      · have HN : Hid (CutAt D s0 mid p s k) := Lib.hid ⟨HA.lo, fun u v _ hu hv => by
          rw [hx] at hu; cases hu
          rw [hd, hy] at hv; cases hv
          exact hql.1 hq0⟩
        have hqd : decide (q < 0) = true := decide_eq_true hq0
        clear HA hql hx hy hd hz
        go_wp2
        go_region_held3 (fun W => W.cell? ⟨g, d * 2, none⟩ = some (.int .i32 y.1) ∧ W.cell? ⟨g, d * 2 + 1, none⟩ = some (.int .i64 y.2.1) ∧ W.cell? ⟨g, k * 2, none⟩ = some (.int .i32 x.1) ∧ W.cell? ⟨g, k * 2 + 1, none⟩ = some (.int .i64 x.2.1))
          (exact ⟨by assumption, by assumption, by assumption, by assumption⟩) ((go_at_call 70; refine (HC.out _).mono ?_; rintro e u ⟨rfl, hu⟩; have e1 := Up.cell hu (p := ⟨g, k * 2, none⟩) ca1; have e2 := Up.cell hu (p := ⟨g, k * 2 + 1, none⟩) ca2; have e3 := Up.cell hu (p := ⟨g, d * 2, none⟩) cb1; have e4 := Up.cell hu (p := ⟨g, d * 2 + 1, none⟩) cb2))
        have HF := Lib.hid (HU.out u hu)
        clear HU HC hu ca1 ca2 cb1 cb2
        go_wp2
        go_roundw
        case rel => exact ⟨s, k, by omega, rfl, by go_num, Lib.hid ⟨HN.out, HF.out⟩⟩
        case measure => simp [intOf] <;> omega
      · have HN : Hid (CutAt D s0 mid p (k + 1) r) := Lib.hid ⟨fun u v _ hu hv => by
          rw [show k + 1 - 1 = k by omega] at hu hv
          rw [hx] at hu; cases hu
          rw [hd, hy] at hv; cases hv
          exact Int.not_lt.1 fun c => hq0 (hql.2 c), HA.hi⟩
        have hqd : decide (q < 0) = false := decide_eq_false hq0
        clear HA hql hx hy hd hz
        go_wp2
        go_region_held3 (fun W => W.cell? ⟨g, d * 2, none⟩ = some (.int .i32 y.1) ∧ W.cell? ⟨g, d * 2 + 1, none⟩ = some (.int .i64 y.2.1) ∧ W.cell? ⟨g, k * 2, none⟩ = some (.int .i32 x.1) ∧ W.cell? ⟨g, k * 2 + 1, none⟩ = some (.int .i64 x.2.1))
          (exact ⟨by assumption, by assumption, by assumption, by assumption⟩) ((go_at_call 70; refine (HC.out _).mono ?_; rintro e u ⟨rfl, hu⟩; have e1 := Up.cell hu (p := ⟨g, k * 2, none⟩) ca1; have e2 := Up.cell hu (p := ⟨g, k * 2 + 1, none⟩) ca2; have e3 := Up.cell hu (p := ⟨g, d * 2, none⟩) cb1; have e4 := Up.cell hu (p := ⟨g, d * 2 + 1, none⟩) cb2))
        have HF := Lib.hid (HU.out u hu)
        clear HU HC hu ca1 ca2 cb1 cb2
        go_wp2
        go_roundw
        case rel => exact ⟨k + 1, r, by omega, by go_num, rfl, Lib.hid ⟨HN.out, HF.out⟩⟩
        case measure => simp [intOf] <;> omega
    · obtain rfl : s = r := by omega
      obtain ⟨e, he⟩ : ∃ e, z - s = e := ⟨_, rfl⟩
      have heI : (z : Int) - (s : Int) = (e : Int) := by omega
      have HCut : Cuts2 keyM D a m b mid s e := ⟨by omega, by omega, by omega, by omega, by omega, by omega, fun x y c1 c2 hx hy => HM.out.1.lo x y (by omega) hx (by rw [show p - (s - 1) = e by omega]; exact hy), fun x y c1 c2 hx hy => HM.out.1.hi x y (by omega) hx (by rw [show p - s = e - 1 by omega]; exact hy)⟩
      obtain ⟨F, hF⟩ := Rot.some_ s m e HCut.sm HCut.me D (by omega)
      obtain ⟨t1, t2, t3, t4, t5, t6⟩ := HCut.turned HS1.out HS2.out hF
      have HFIN := Lib.hid (fun (G : List mapS.Dat) (hG : Mrg keyM a mid F G) (E : List mapS.Dat) (hE : Mrg keyM mid b G E) => mrg_both t1 (by omega) (by omega) t6 hG hE)
      have HI1 := Lib.hid (fun (u : World) (h1 : MineM u B (.slice (some ⟨g, 0, none⟩) n c) F) (c1 : a < s) (c2 : s < mid) => HI.out a s mid F u (by omega) c1 c2 (by omega) h1 t2 t3)
      have HI2 := Lib.hid (fun (G : List mapS.Dat) (hG : Mrg keyM a mid F G) (c1 : mid < e) (c2 : e < b) (u : World) (h1 : MineM u B (.slice (some ⟨g, 0, none⟩) n c) G) => HI.out mid e b G u (by omega) c1 c2 hb h1 (hG.1.sorted_out t4 (.inr (Nat.le_refl _))) (hG.1.sorted_out t5 (.inr (by omega))))
      have HNO' : ¬ (a < s ∧ s < mid) → Mrg keyM a mid F F := fun h => Mrg.none_ (by
        by_cases c1 : a < s
        · exact t2.part (Nat.le_refl _) (by omega)
        · exact t3.part (by omega) (Nat.le_refl _))
      have HN2' : ¬ (mid < e ∧ e < b) → ∀ G, Mrg keyM a mid F G → Mrg keyM mid b G G := fun h G hG => Mrg.none_ (by
        by_cases c1 : mid < e
        · exact (hG.1.sorted_out t4 (.inr (Nat.le_refl _))).part (Nat.le_refl _) (by omega)
        · exact (hG.1.sorted_out t5 (.inr (by omega))).part (by omega) (Nat.le_refl _))
      have HO0 := Lib.hid HM.out.2.2
      have hMD := HM.out.2.1
      have q1 := HCut.as
      have q2 := HCut.sm
      have q3 := HCut.me
      have q4 := HCut.eb
      have q5 := HCut.sum
      clear t1 t2 t3 t4 t5 t6 hl hz hlt he
      by_cases r1 : s < m
      · by_cases r2 : m < e
        · have HROT := Lib.hid (rotate_ok g n c s m e B D F wr hMD hmax r1 r2 (by omega) hF)
          have c2 : s < mid := by omega
          have c3 : mid < e := by omega
          clear hMD hF HI hs hsr hr
          by_cases c1 : a < s
          · have HI1 := Lib.hid (fun (u : World) (h1 : MineM u B (.slice (some ⟨g, 0, none⟩) n c) F) => HI1.out u h1 c1 c2)
            clear HNO'
            by_cases c4 : e < b
            · have HI2 := Lib.hid (fun (u : World) (G : List mapS.Dat) (hG : Mrg keyM a mid F G) (h1 : MineM u B (.slice (some ⟨g, 0, none⟩) n c) G) => HI2.out G hG c3 c4 u h1)
              clear HN2' q1 q2 q3 q4 q5
              unfold MergeAt at HI2 HI1
              clear HM HCut
              go_wp2_with (first
                | (go_at_call 150; (with_reducible refine HROT.out.mono ?_); rintro x u1 ⟨rfl, hM1, hO1⟩; have hO1 := HO0.out.trans hO1)
                | (go_at_call 124; (with_reducible refine (HI1.out _ hM1).mono ?_); rintro x u2 ⟨rfl, G, hG, hM2, hO2⟩; have hO2 := hO1.trans hO2)
                | (go_at_call 124; (with_reducible refine (HI2.out _ G hG hM2).mono ?_); rintro x u3 ⟨rfl, E, hE, hM3, hO3⟩; have hO3 := hO2.trans hO3))
              go_end0
              exact ⟨rfl, _, HFIN.out G hG E hE, hM3, hO3⟩
            · have HN2 := Lib.hid (HN2' (fun h => c4 h.2))
              clear HI2 HN2' q1 q2 q3 q4 q5
              unfold MergeAt at HI1
              clear HM HCut
              go_wp2_with (first
                | (go_at_call 150; (with_reducible refine HROT.out.mono ?_); rintro x u1 ⟨rfl, hM1, hO1⟩; have hO1 := HO0.out.trans hO1)
                | (go_at_call 124; (with_reducible refine (HI1.out _ hM1).mono ?_); rintro x u2 ⟨rfl, G, hG, hM2, hO2⟩; have hO2 := hO1.trans hO2))
              go_end0
              exact ⟨rfl, _, HFIN.out G hG _ (HN2.out _ hG), hM2, hO2⟩
          · have HNO := Lib.hid (HNO' (fun h => c1 h.1))
            clear HI1 HNO'
            by_cases c4 : e < b
            · have HI2 := Lib.hid (fun (u : World) (G : List mapS.Dat) (hG : Mrg keyM a mid F G) (h1 : MineM u B (.slice (some ⟨g, 0, none⟩) n c) G) => HI2.out G hG c3 c4 u h1)
              clear HN2' q1 q2 q3 q4 q5
              unfold MergeAt at HI2
              clear HM HCut
              go_wp2_with (first
                | (go_at_call 150; (with_reducible refine HROT.out.mono ?_); rintro x u1 ⟨rfl, hM1, hO1⟩; have hO1 := HO0.out.trans hO1)
                | (go_at_call 124; (with_reducible refine (HI2.out _ F HNO.out hM1).mono ?_); rintro x u3 ⟨rfl, E, hE, hM3, hO3⟩; have hO3 := hO1.trans hO3))
              go_end0
              exact ⟨rfl, _, HFIN.out F HNO.out E hE, hM3, hO3⟩
            · have HN2 := Lib.hid (HN2' (fun h => c4 h.2))
              clear HI2 HN2' q1 q2 q3 q4 q5
              clear HM HCut
              go_wp2_with (first
                | (go_at_call 150; (with_reducible refine HROT.out.mono ?_); rintro x u1 ⟨rfl, hM1, hO1⟩; have hO1 := HO0.out.trans hO1))
              go_end0
              exact ⟨rfl, _, HFIN.out F HNO.out _ (HN2.out _ HNO.out), hM1, hO1⟩
        · have hFD : F = D := by
            obtain rfl : m = e := by omega
            exact List.ext_getElem? fun p => (hF.2 p).trans ((Rot.refl_right (s := s) (m := m) D).2 p).symm
          subst hFD
          have HM0 := Lib.hid hMD
          have c2 : ¬ s < mid := by omega
          have c1 : a < s := by omega
          have c3 : mid < e := by omega
          have c4 : e < b := by omega
          have HNO := Lib.hid (HNO' (fun h => c2 h.2))
          have HI2 := Lib.hid (fun (u : World) (G : List mapS.Dat) (hG : Mrg keyM a mid F G) (h1 : MineM u B (.slice (some ⟨g, 0, none⟩) n c) G) => HI2.out G hG c3 c4 u h1)
          clear hMD hF HI hs hsr hr HI1 HNO' HN2' q1 q2 q3 q4 q5
          unfold MergeAt at HI2
          clear HM HCut
          have hM1 := HM0.out
          have hO1 := HO0.out
          go_wp2_with (first
            | (go_at_call 124; (with_reducible refine (HI2.out _ F HNO.out hM1).mono ?_); rintro x u3 ⟨rfl, E, hE, hM3, hO3⟩; have hO3 := hO1.trans hO3))
          go_end0
          exact ⟨rfl, _, HFIN.out F HNO.out E hE, hM3, hO3⟩
      · have hFD : F = D := by
          obtain rfl : s = m := by omega
          exact List.ext_getElem? fun p => (hF.2 p).trans ((Rot.refl_left (m := s) (e := e) D).2 p).symm
        subst hFD
        exfalso
        omega
end Go.Proofs.YtnpcakeagpbgiaaGreat

/-
  The library's merge in place at mappings in a slice of the call's own, where the second begins no further than the middle. Condition: at most 1000000 elements.
-/
set_option linter.unusedVariables false
set_option linter.unusedSimpArgs false
namespace Go.Proofs.YtnpcakeagpbgiaaGreat
open Go.ChangeShapes Go.WideShapes Go.ChangeAt Go.RowKit Go.Sort

set_option maxRecDepth 20000 in
set_option maxHeartbeats 8000000 in
theorem mergeC2_ok (g n c a m b B mid : Nat) (D : List mapS.Dat) (w : World) (hown : MineM w B (.slice (some ⟨g, 0, none⟩) n c) D) (hmax : n ≤ 1000000) (ham : a + 1 < m) (hmb : m + 1 < b) (hb : b ≤ n) (hs1 : SortedOn keyM D a m) (hs2 : SortedOn keyM D m b)
    (hmid : (a + b) / 2 = mid) (hcase : m ≤ mid) (IH : ShorterAt g n c B (b - a)) : MergeAt g n c B a m b D w := by
  have HL := Lib.hid hown.len
  have H0 := Lib.hid hown
  have HS1 := Lib.hid hs1
  have HS2 := Lib.hid hs2
  have HI := Lib.hid IH
  have h1 : ((m : Int) - (a : Int) == 1) = false := by rw [beq_eq_false_iff_ne]; omega
  have h2 : ((b : Int) - (m : Int) == 1) = false := by rw [beq_eq_false_iff_ne]; omega
  have hmidI : ((a : Int) + (b : Int)) / 2 = (mid : Int) := by omega
  have hm1 : a < mid := by omega
  have hm2 : mid < b := by omega
  have hm3 : a + b ≤ 2 * mid + 1 := by omega
  have hm4 : 2 * mid ≤ a + b := by omega
  obtain ⟨z, hz⟩ : ∃ z, mid + m = z := ⟨_, rfl⟩
  have hzI : (mid : Int) + (m : Int) = (z : Int) := by omega
  obtain ⟨p, hp⟩ : ∃ p, z - 1 = p := ⟨_, rfl⟩
  have hpI : (z : Int) - 1 = (p : Int) := by omega
  have HZ : Hid (mid + m = z ∧ z - 1 = p) := Lib.hid ⟨hz, hp⟩
  have hng : ¬ mid < m := by omega
  clear hown hs1 hs2 hmid hz hp IH
  unfold MergeAt
  go_enter Tryz.func124, Tryz.ntmps124
  go_wp2
  go_loopw [20, 21] (fun u v wr => ∃ (s r : Nat), (a ≤ s ∧ s ≤ r ∧ r ≤ m) ∧ u = .int .i64 s ∧ v = .int .i64 r ∧ Hid (CutAt D a m p s r ∧ MineM wr B (.slice (some ⟨g, 0, none⟩) n c) D ∧ Off g w wr)) (fun u v _ => (intOf v).toNat - (intOf u).toNat)
  case atStart => exact ⟨a, m, by have := HZ.out; omega, rfl, rfl, Lib.hid ⟨⟨fun x y h => absurd h (by omega), fun x y h => absurd h (by omega)⟩, H0.out, Off.refl _ _⟩⟩
  case round =>
    clear H0
    obtain ⟨s, r, ⟨hs, hsr, hr⟩, rfl, rfl, HM⟩ := hrel
    have hl := HL.out
    have hz := HZ.out
    by_cases hlt : s < r
    · obtain ⟨k, hk⟩ : ∃ k, (s + r) / 2 = k := ⟨_, rfl⟩
      have hkI : ((s : Int) + (r : Int)) / 2 = (k : Int) := by omega
      have hkn : k < n := by omega
      have hsk : s ≤ k := by omega
      have hkr : k < r := by omega
      obtain ⟨d, hd⟩ : ∃ d, p - k = d := ⟨_, rfl⟩
      have hdI : (p : Int) - (k : Int) = (d : Int) := by omega
      have hdw : IntKind.i64.wrap (d : Int) = (d : Int) := IntWalk.i64_in _ (by omega)
      have hdn : d < n := by omega
      obtain ⟨x, hx⟩ : ∃ x, D[k]? = some x := ⟨_, List.getElem?_eq_getElem (by omega)⟩
      obtain ⟨y, hy⟩ : ∃ y, D[d]? = some y := ⟨_, List.getElem?_eq_getElem (by omega)⟩
      obtain ⟨⟨ca1, ca2⟩, _⟩ := MineM.spot HM.out.2.1 hx
      obtain ⟨⟨cb1, cb2⟩, _⟩ := MineM.spot HM.out.2.1 hy
      obtain ⟨q, hq⟩ : ∃ q, cmpI y.1 x.1 = q := ⟨_, rfl⟩
      have HC := Lib.hid (order_ok y x)
      rw [hq] at HC
      have hql : q < 0 ↔ y.1 < x.1 := by rw [← hq]; exact cmpI_neg _ _
      have HU := Lib.hid (fun (u : World) (hu : Up wr.drew u) => (⟨MineN.up (MineN.drew HM.out.2.1) hu, HM.out.2.2.drew.trans (Off.of_up hu)⟩ : MineM u B (.slice (some ⟨g, 0, none⟩) n c) D ∧ Off g w u))
      have HA := HM.out.1
      clear hl HM hq hk
      by_cases hq0 : q < 0
      · have HN : Hid (CutAt D a m p s k) := Lib.hid ⟨HA.lo, fun u v _ hu hv => by
          rw [hx] at hu; cases hu
          rw [hd, hy] at hv; cases hv
          exact hql.1 hq0⟩
        have hqd : decide (q < 0) = true := decide_eq_true hq0
        clear HA hql hx hy hd hz
        go_wp2
        go_region_held3 (fun W => W.cell? ⟨g, d * 2, none⟩ = some (.int .i32 y.1) ∧ W.cell? ⟨g, d * 2 + 1, none⟩ = some (.int .i64 y.2.1) ∧ W.cell? ⟨g, k * 2, none⟩ = some (.int .i32 x.1) ∧ W.cell? ⟨g, k * 2 + 1, none⟩ = some (.int .i64 x.2.1))
          (exact ⟨by assumption, by assumption, by assumption, by assumption⟩) ((go_at_call 70; refine (HC.out _).mono ?_; rintro e u ⟨rfl, hu⟩; have e1 := Up.cell hu (p := ⟨g, k * 2, none⟩) ca1; have e2 := Up.cell hu (p := ⟨g, k * 2 + 1, none⟩) ca2; have e3 := Up.cell hu (p := ⟨g, d * 2, none⟩) cb1; have e4 := Up.cell hu (p := ⟨g, d * 2 + 1, none⟩) cb2))
        have HF := Lib.hid (HU.out u hu)
        clear HU HC hu ca1 ca2 cb1 cb2
        go_wp2
        go_roundw
        case rel => exact ⟨s, k, by omega, rfl, by go_num, Lib.hid ⟨HN.out, HF.out⟩⟩
        case measure => simp [intOf] <;> omega
      · have HN : Hid (CutAt D a m p (k + 1) r) := Lib.hid ⟨fun u v _ hu hv => by
          rw [show k + 1 - 1 = k by omega] at hu hv
          rw [hx] at hu; cases hu
          rw [hd, hy] at hv; cases hv
          exact Int.not_lt.1 fun c => hq0 (hql.2 c), HA.hi⟩
        have hqd : decide (q < 0) = false := decide_eq_false hq0
        clear HA hql hx hy hd hz
        go_wp2
        go_region_held3 (fun W => W.cell? ⟨g, d * 2, none⟩ = some (.int .i32 y.1) ∧ W.cell? ⟨g, d * 2 + 1, none⟩ = some (.int .i64 y.2.1) ∧ W.cell? ⟨g, k * 2, none⟩ = some (.int .i32 x.1) ∧ W.cell? ⟨g, k * 2 + 1, none⟩ = some (.int .i64 x.2.1))
          (exact ⟨by assumption, by assumption, by assumption, by assumption⟩) ((go_at_call 70; refine (HC.out _).mono ?_; rintro e u ⟨rfl, hu⟩; have e1 := Up.cell hu (p := ⟨g, k * 2, none⟩) ca1; have e2 := Up.cell hu (p := ⟨g, k * 2 + 1, none⟩) ca2; have e3 := Up.cell hu (p := ⟨g, d * 2, none⟩) cb1; have e4 := Up.cell hu (p := ⟨g, d * 2 + 1, none⟩) cb2))
        have HF := Lib.hid (HU.out u hu)
        clear HU HC hu ca1 ca2 cb1 cb2
        go_wp2
        go_roundw
        case rel => exact ⟨k + 1, r, by omega, by go_num, rfl, Lib.hid ⟨HN.out, HF.out⟩⟩
        case measure => simp [intOf] <;> omega
    · obtain rfl : s = r := by omega
      obtain ⟨e, he⟩ : ∃ e, z - s = e := ⟨_, rfl⟩
      have heI : (z : Int) - (s : Int) = (e : Int) := by omega
      have HCut : Cuts2 keyM D a m b mid s e := ⟨by omega, by omega, by omega, by omega, by omega, by omega, fun x y c1 c2 hx hy => HM.out.1.lo x y (by omega) hx (by rw [show p - (s - 1) = e by omega]; exact hy), fun x y c1 c2 hx hy => HM.out.1.hi x y (by omega) hx (by rw [show p - s = e - 1 by omega]; exact hy)⟩
      obtain ⟨F, hF⟩ := Rot.some_ s m e HCut.sm HCut.me D (by omega)
      obtain ⟨t1, t2, t3, t4, t5, t6⟩ := HCut.turned HS1.out HS2.out hF
      have HFIN := Lib.hid (fun (G : List mapS.Dat) (hG : Mrg keyM a mid F G) (E : List mapS.Dat) (hE : Mrg keyM mid b G E) => mrg_both t1 (by omega) (by omega) t6 hG hE)
      have HI1 := Lib.hid (fun (u : World) (h1 : MineM u B (.slice (some ⟨g, 0, none⟩) n c) F) (c1 : a < s) (c2 : s < mid) => HI.out a s mid F u (by omega) c1 c2 (by omega) h1 t2 t3)
      have HI2 := Lib.hid (fun (G : List mapS.Dat) (hG : Mrg keyM a mid F G) (c1 : mid < e) (c2 : e < b) (u : World) (h1 : MineM u B (.slice (some ⟨g, 0, none⟩) n c) G) => HI.out mid e b G u (by omega) c1 c2 hb h1 (hG.1.sorted_out t4 (.inr (Nat.le_refl _))) (hG.1.sorted_out t5 (.inr (by omega))))
      have HNO' : ¬ (a < s ∧ s < mid) → Mrg keyM a mid F F := fun h => Mrg.none_ (by
        by_cases c1 : a < s
        · exact t2.part (Nat.le_refl _) (by omega)
        · exact t3.part (by omega) (Nat.le_refl _))
      have HN2' : ¬ (mid < e ∧ e < b) → ∀ G, Mrg keyM a mid F G → Mrg keyM mid b G G := fun h G hG => Mrg.none_ (by
        by_cases c1 : mid < e
        · exact (hG.1.sorted_out t4 (.inr (Nat.le_refl _))).part (Nat.le_refl _) (by omega)
        · exact (hG.1.sorted_out t5 (.inr (by omega))).part (by omega) (Nat.le_refl _))
      have HO0 := Lib.hid HM.out.2.2
      have hMD := HM.out.2.1
      have q1 := HCut.as
      have q2 := HCut.sm
      have q3 := HCut.me
      have q4 := HCut.eb
      have q5 := HCut.sum
      clear t1 t2 t3 t4 t5 t6 hl hz hlt he
      by_cases r1 : s < m
      · by_cases r2 : m < e
        · have HROT := Lib.hid (rotate_ok g n c s m e B D F wr hMD hmax r1 r2 (by omega) hF)
          have c2 : s < mid := by omega
          have c3 : mid < e := by omega
          clear hMD hF HI hs hsr hr
          by_cases c1 : a < s
          · have HI1 := Lib.hid (fun (u : World) (h1 : MineM u B (.slice (some ⟨g, 0, none⟩) n c) F) => HI1.out u h1 c1 c2)
            clear HNO'
            by_cases c4 : e < b
            · have HI2 := Lib.hid (fun (u : World) (G : List mapS.Dat) (hG : Mrg keyM a mid F G) (h1 : MineM u B (.slice (some ⟨g, 0, none⟩) n c) G) => HI2.out G hG c3 c4 u h1)
              clear HN2' q1 q2 q3 q4 q5
              unfold MergeAt at HI2 HI1
              clear HM HCut
              go_wp2_with (first
                | (go_at_call 150; (with_reducible refine HROT.out.mono ?_); rintro x u1 ⟨rfl, hM1, hO1⟩; have hO1 := HO0.out.trans hO1)
                | (go_at_call 124; (with_reducible refine (HI1.out _ hM1).mono ?_); rintro x u2 ⟨rfl, G, hG, hM2, hO2⟩; have hO2 := hO1.trans hO2)
                | (go_at_call 124; (with_reducible refine (HI2.out _ G hG hM2).mono ?_); rintro x u3 ⟨rfl, E, hE, hM3, hO3⟩; have hO3 := hO2.trans hO3))
              go_end0
              exact ⟨rfl, _, HFIN.out G hG E hE, hM3, hO3⟩
            · have HN2 := Lib.hid (HN2' (fun h => c4 h.2))
              clear HI2 HN2' q1 q2 q3 q4 q5
              unfold MergeAt at HI1
              clear HM HCut
              go_wp2_with (first
                | (go_at_call 150; (with_reducible refine HROT.out.mono ?_); rintro x u1 ⟨rfl, hM1, hO1⟩; have hO1 := HO0.out.trans hO1)
                | (go_at_call 124; (with_reducible refine (HI1.out _ hM1).mono ?_); rintro x u2 ⟨rfl, G, hG, hM2, hO2⟩; have hO2 := hO1.trans hO2))
              go_end0
              exact ⟨rfl, _, HFIN.out G hG _ (HN2.out _ hG), hM2, hO2⟩
          · have HNO := Lib.hid (HNO' (fun h => c1 h.1))
            clear HI1 HNO'
            by_cases c4 : e < b
            · have HI2 := Lib.hid (fun (u : World) (G : List mapS.Dat) (hG : Mrg keyM a mid F G) (h1 : MineM u B (.slice (some ⟨g, 0, none⟩) n c) G) => HI2.out G hG c3 c4 u h1)
              clear HN2' q1 q2 q3 q4 q5
              unfold MergeAt at HI2
              clear HM HCut
              go_wp2_with (first
                | (go_at_call 150; (with_reducible refine HROT.out.mono ?_); rintro x u1 ⟨rfl, hM1, hO1⟩; have hO1 := HO0.out.trans hO1)
                | (go_at_call 124; (with_reducible refine (HI2.out _ F HNO.out hM1).mono ?_); rintro x u3 ⟨rfl, E, hE, hM3, hO3⟩; have hO3 := hO1.trans hO3))
              go_end0
              exact ⟨rfl, _, HFIN.out F HNO.out E hE, hM3, hO3⟩
            · have HN2 := Lib.hid (HN2' (fun h => c4 h.2))
              clear HI2 HN2' q1 q2 q3 q4 q5
              clear HM HCut
              go_wp2_with (first
                | (go_at_call 150; (with_reducible refine HROT.out.mono ?_); rintro x u1 ⟨rfl, hM1, hO1⟩; have hO1 := HO0.out.trans hO1))
              go_end0
              exact ⟨rfl, _, HFIN.out F HNO.out _ (HN2.out _ HNO.out), hM1, hO1⟩
        · have hFD : F = D := by
            obtain rfl : m = e := by omega
            exact List.ext_getElem? fun p => (hF.2 p).trans ((Rot.refl_right (s := s) (m := m) D).2 p).symm
          subst hFD
          exfalso
          omega
      · have hFD : F = D := by
          obtain rfl : s = m := by omega
          exact List.ext_getElem? fun p => (hF.2 p).trans ((Rot.refl_left (m := s) (e := e) D).2 p).symm
        subst hFD
        have HM0 := Lib.hid hMD
        have c1 : a < s := by omega
        have c3 : ¬ mid < e := by omega
        have HN2 := Lib.hid (HN2' (fun h => c3 h.1))
        by_cases c2 : s < mid
        · have HI1 := Lib.hid (fun (u : World) (h1 : MineM u B (.slice (some ⟨g, 0, none⟩) n c) F) => HI1.out u h1 c1 c2)
          clear hMD hF HI hs hsr hr HI2 HNO' HN2' q1 q2 q3 q4 q5
          unfold MergeAt at HI1
          clear HM HCut
          have hM1 := HM0.out
          have hO1 := HO0.out
          go_wp2_with (first
            | (go_at_call 124; (with_reducible refine (HI1.out _ hM1).mono ?_); rintro x u2 ⟨rfl, G, hG, hM2, hO2⟩; have hO2 := hO1.trans hO2))
          go_end0
          exact ⟨rfl, _, HFIN.out G hG _ (HN2.out _ hG), hM2, hO2⟩
        · have HNO := Lib.hid (HNO' (fun h => c2 h.2))
          clear hMD hF HI hs hsr hr HI1 HI2 HNO' HN2' q1 q2 q3 q4 q5
          clear HM HCut
          have hM1 := HM0.out
          have hO1 := HO0.out
          go_wp2
          go_end0
          exact ⟨rfl, _, HFIN.out F HNO.out _ (HN2.out _ HNO.out), hM1, hO1⟩
end Go.Proofs.YtnpcakeagpbgiaaGreat

/-
  The library's merge in place at mappings in a slice of the call's own, where one of the two stretches is a single element. Condition: at most 1000000 elements.
-/
set_option linter.unusedVariables false
set_option linter.unusedSimpArgs false
namespace Go.Proofs.YtnpcakeagpbgiaaGreat
open Go.ChangeShapes Go.WideShapes Go.ChangeAt Go.RowKit Go.Sort

/-- where the first stretch's only element x goes: behind what is less -/
structure LowAt (D : List mapS.Dat) (m b : Nat) (x : mapS.Dat) (i j : Nat) : Prop where
  mi : m ≤ i
  ij : i ≤ j
  jb : j ≤ b
  lo : ∀ y, m < i → D[i - 1]? = some y → keyM y < keyM x
  hi : ∀ y, j < b → D[j]? = some y → keyM x ≤ keyM y
set_option maxRecDepth 20000 in
set_option maxHeartbeats 4000000 in
theorem mergeA_ok (g n c a b B : Nat) (D : List mapS.Dat) (w : World) (hown : MineM w B (.slice (some ⟨g, 0, none⟩) n c) D) (hmax : n ≤ 1000000) (hab : a + 1 < b) (hb : b ≤ n) (hs : SortedOn keyM D (a + 1) b) :
    Calls Tryz.prog 124 #[.slice (some ⟨g, 0, none⟩) n c, .int .i64 a, .int .i64 ((a + 1 : Nat) : Int), .int .i64 b, .func (.func 70) #[] #[]] w fun x w' =>
      x = .returned (.tuple #[]) ∧ ∃ E, Mrg keyM a b D E ∧ MineM w' B (.slice (some ⟨g, 0, none⟩) n c) E ∧ Off g w w' := by
  have HL := Lib.hid hown.len
  have H0 := Lib.hid hown
  obtain ⟨x, hx⟩ : ∃ x, D[a]? = some x := ⟨_, List.getElem?_eq_getElem (by have := HL.out; omega)⟩
  have HX := Lib.hid hx
  have HSo := Lib.hid hs
  obtain ⟨m, hm⟩ : ∃ m, a + 1 = m := ⟨_, rfl⟩
  rw [hm]
  have h1 : (m : Int) - (a : Int) = 1 := by omega
  have HMA := Lib.hid hm
  have han : a < n := by omega
  clear hown hx hs hm
  go_enter Tryz.func124, Tryz.ntmps124
  go_wp2
  go_loopw [10, 11] (fun u v wr => ∃ (i j : Nat), (m ≤ i ∧ i ≤ j ∧ j ≤ b) ∧ u = .int .i64 i ∧ v = .int .i64 j ∧ Hid (LowAt D m b x i j ∧ MineM wr B (.slice (some ⟨g, 0, none⟩) n c) D ∧ Off g w wr)) (fun u v _ => (intOf v).toNat - (intOf u).toNat)
  case atStart => exact ⟨m, b, by have := HMA.out; omega, rfl, rfl, Lib.hid ⟨⟨Nat.le_refl _, by have := HMA.out; omega, Nat.le_refl _, fun y h => absurd h (by omega), fun y h => absurd h (by omega)⟩, H0.out, Off.refl _ _⟩⟩
  case round =>
    clear H0
    obtain ⟨i, j, ⟨hmi, hij, hjb⟩, rfl, rfl, HM⟩ := hrel
    have hl := HL.out
    by_cases hlt : i < j
    · obtain ⟨h, hh⟩ : ∃ h, (i + j) / 2 = h := ⟨_, rfl⟩
      have hhI : ((i : Int) + (j : Int)) / 2 = (h : Int) := by omega
      have hhn : h < n := by omega
      have hih : i ≤ h := by omega
      have hhj : h < j := by omega
      obtain ⟨y, hy⟩ : ∃ y, D[h]? = some y := ⟨_, List.getElem?_eq_getElem (by omega)⟩
      obtain ⟨⟨ca1, ca2⟩, _⟩ := MineM.spot HM.out.2.1 hy
      obtain ⟨⟨cb1, cb2⟩, _⟩ := MineM.spot HM.out.2.1 HX.out
      obtain ⟨q, hq⟩ : ∃ q, cmpI y.1 x.1 = q := ⟨_, rfl⟩
      have HC := Lib.hid (order_ok y x)
      rw [hq] at HC
      have hql : q < 0 ↔ y.1 < x.1 := by rw [← hq]; exact cmpI_neg _ _
      have HU := Lib.hid (fun (u : World) (hu : Up wr.drew u) => (⟨MineN.up (MineN.drew HM.out.2.1) hu, HM.out.2.2.drew.trans (Off.of_up hu)⟩ : MineM u B (.slice (some ⟨g, 0, none⟩) n c) D ∧ Off g w u))
      have HA := HM.out.1
      clear hl HM hq hh
      by_cases hq0 : q < 0
      · have HN : Hid (LowAt D m b x (h + 1) j) := Lib.hid ⟨by omega, by omega, hjb, fun z _ hz => by
          rw [show h + 1 - 1 = h by omega, hy] at hz; cases hz; exact hql.1 hq0, HA.hi⟩
        clear HA hql hy
        go_wp2
        go_region_held3 (fun W => W.cell? ⟨g, h * 2, none⟩ = some (.int .i32 y.1) ∧ W.cell? ⟨g, h * 2 + 1, none⟩ = some (.int .i64 y.2.1) ∧ W.cell? ⟨g, a * 2, none⟩ = some (.int .i32 x.1) ∧ W.cell? ⟨g, a * 2 + 1, none⟩ = some (.int .i64 x.2.1))
          (exact ⟨by assumption, by assumption, by assumption, by assumption⟩) ((go_at_call 70; refine (HC.out _).mono ?_; rintro e u ⟨rfl, hu⟩; have e1 := Up.cell hu (p := ⟨g, h * 2, none⟩) ca1; have e2 := Up.cell hu (p := ⟨g, h * 2 + 1, none⟩) ca2; have e3 := Up.cell hu (p := ⟨g, a * 2, none⟩) cb1; have e4 := Up.cell hu (p := ⟨g, a * 2 + 1, none⟩) cb2))
        have HF := Lib.hid (HU.out u hu)
        clear HU HC hu ca1 ca2 cb1 cb2
        go_wp2
        go_roundw
        case rel => exact ⟨h + 1, j, by omega, by go_num, rfl, Lib.hid ⟨HN.out, HF.out⟩⟩
        case measure => simp [intOf] <;> omega
      · have HN : Hid (LowAt D m b x i h) := Lib.hid ⟨hmi, hih, by omega, HA.lo, fun z _ hz => by
          rw [hy] at hz; cases hz
          exact Int.not_lt.1 fun c => hq0 (hql.2 c)⟩
        clear HA hql hy
        go_wp2
        go_region_held3 (fun W => W.cell? ⟨g, h * 2, none⟩ = some (.int .i32 y.1) ∧ W.cell? ⟨g, h * 2 + 1, none⟩ = some (.int .i64 y.2.1) ∧ W.cell? ⟨g, a * 2, none⟩ = some (.int .i32 x.1) ∧ W.cell? ⟨g, a * 2 + 1, none⟩ = some (.int .i64 x.2.1))
          (exact ⟨by assumption, by assumption, by assumption, by assumption⟩) ((go_at_call 70; refine (HC.out _).mono ?_; rintro e u ⟨rfl, hu⟩; have e1 := Up.cell hu (p := ⟨g, h * 2, none⟩) ca1; have e2 := Up.cell hu (p := ⟨g, h * 2 + 1, none⟩) ca2; have e3 := Up.cell hu (p := ⟨g, a * 2, none⟩) cb1; have e4 := Up.cell hu (p := ⟨g, a * 2 + 1, none⟩) cb2))
        have HF := Lib.hid (HU.out u hu)
        clear HU HC hu ca1 ca2 cb1 cb2
        go_wp2
        go_roundw
        case rel => exact ⟨i, h, by omega, rfl, by go_num, Lib.hid ⟨HN.out, HF.out⟩⟩
        case measure => simp [intOf] <;> omega
    · obtain rfl : i = j := by omega
      have him := HMA.out
      have h1i : (i : Int) - 1 = ((i - 1 : Nat) : Int) := by omega
      have HN := Lib.hid (fun (E : List mapS.Dat) (hR : Rot a (a + 1) i D E) => mrg_first hR (by omega) hjb (by omega) HSo.out HX.out (fun y h hy => HM.out.1.lo y (by omega) hy) HM.out.1.hi)
      have H1 : Hid (Rot a (a + 1) (a + 1) D D ∧ MineM wr B (.slice (some ⟨g, 0, none⟩) n c) D ∧ Off g w wr) := Lib.hid ⟨Rot.refl_right D, HM.out.2⟩
      have hin : i ≤ n := by omega
      have hai : a < i := by omega
      obtain ⟨z, hz⟩ : ∃ z, i - 1 = z := ⟨_, rfl⟩
      rw [hz] at h1i
      have HZ := Lib.hid hz
      clear HM hlt hz him hl
      go_wp2
      go_loopw [13] (fun u wq => ∃ (k : Nat) (L : List mapS.Dat), (a ≤ k ∧ k < i) ∧ u = .int .i64 k ∧ Hid (Rot a (a + 1) (k + 1) D L ∧ MineM wq B (.slice (some ⟨g, 0, none⟩) n c) L ∧ Off g w wq)) (fun u _ => i - (intOf u).toNat)
      case atStart => exact ⟨a, D, by omega, rfl, H1⟩
      case round =>
        clear H1
        obtain ⟨k, L, ⟨hak, hki⟩, rfl, HM⟩ := hrel
        by_cases hkz : k < z
        · have hz := HZ.out
          have hl := HL.out
          obtain ⟨p, hp⟩ : ∃ p, k + 1 = p := ⟨_, rfl⟩
          have hpI : (k : Int) + 1 = (p : Int) := by omega
          have hkn : k < n := by omega
          have hpn : p < n := by omega
          obtain ⟨u, hu⟩ : ∃ u, L[k]? = some u := ⟨_, List.getElem?_eq_getElem (by have := HM.out.1.1; omega)⟩
          obtain ⟨v, hv⟩ : ∃ v, L[p]? = some v := ⟨_, List.getElem?_eq_getElem (by have := HM.out.1.1; omega)⟩
          have hst := HM.out.1.up (k := k + 1) (by omega) (by omega) (x := u) (y := v) (by rw [show k + 1 - 1 = k by omega]; exact hu) (by rw [hp]; exact hv)
          rw [show k + 1 - 1 = k by omega, hp] at hst
          obtain ⟨⟨⟨ca1, ca2⟩, cb1, cb2⟩, fa, hZ⟩ := HM.out.2.1.exch (show k ≠ p by omega) hu hv
          have fa1 := fa (k * 2)
          have fa2 := fa (k * 2 + 1)
          have fb1 := fa (p * 2)
          have fb2 := fa (p * 2 + 1)
          have n00 : ¬ k = p := by omega
          have n01 : ¬ k * 2 = p * 2 + 1 := by omega
          have n10 : ¬ k * 2 + 1 = p * 2 := by omega
          have HZ : Hid (Rot a (a + 1) (p + 1) D ((L.set k v).set p u) ∧ MineM (set2 (set2 wr.drew g (k * 2) v) g (p * 2) u) B (.slice (some ⟨g, 0, none⟩) n c) ((L.set k v).set p u) ∧ Off g w (set2 (set2 wr.drew g (k * 2) v) g (p * 2) u)) :=
            Lib.hid ⟨hst, (by rw [drew_set2, drew_set2]; exact hZ), off_set2 (off_set2 HM.out.2.2.drew _ _) _ _⟩
          rw [drew_set2, drew_set2] at HZ
          unfold set2 at HZ
          have HP := Lib.hid hp
          clear hu hv HM hst hl hp hZ fa hz
          go_wp2_with fail
          go_region
          go_wp2
          go_roundw
          case rel => exact ⟨p, _, by have := HP.out; omega, by go_num, HZ⟩
          case measure => have := HP.out; simp [intOf] <;> omega
        · have hz := HZ.out
          have HE : Hid (∃ E, Mrg keyM a b D E ∧ MineM wr B (.slice (some ⟨g, 0, none⟩) n c) E ∧ Off g w wr) := Lib.hid ⟨L, HN.out L (by
            have := HM.out.1
            rwa [show k + 1 = i by omega] at this), HM.out.2⟩
          clear HM HN hz
          go_wp2
          (try simp only [Exit.inBlock, Exit.then])
          exact bodyPost_ret (results_none rfl _ _ _) rfl ⟨rfl, HE.out⟩
end Go.Proofs.YtnpcakeagpbgiaaGreat

/-
  The library's merge in place, at whatever lengths; its stable sort of mappings in a slice of the call's own, by code point. Condition: at most 1000000 elements.
-/
set_option linter.unusedVariables false
set_option linter.unusedSimpArgs false
namespace Go.Proofs.YtnpcakeagpbgiaaGreat
open Go.ChangeShapes Go.WideShapes Go.ChangeAt Go.RowKit Go.Sort

theorem merge_all (g n c B : Nat) (hmax : n ≤ 1000000) : ∀ z, ShorterAt g n c B z
  | 0 => fun a m b D w hz => absurd hz (Nat.not_lt_zero _)
  | z + 1 => fun a m b D w hz ham hmb hb hown hs1 hs2 => by
    by_cases h1 : a + 1 = m
    · subst h1
      exact mergeA_ok g n c a b B D w hown hmax hmb hb hs2
    · by_cases h2 : m + 1 = b
      · subst h2
        exact mergeB_ok g n c a m B D w hown hmax (by omega) (by omega) hs1
      · have IH : ShorterAt g n c B (b - a) := fun a' m' b' D' w' hz' => merge_all g n c B hmax z a' m' b' D' w' (by omega)
        by_cases h3 : (a + b) / 2 < m
        · exact mergeC1_ok g n c a m b B _ D w hown hmax (by omega) (by omega) hb hs1 hs2 rfl h3 IH
        · exact mergeC2_ok g n c a m b B _ D w hown hmax (by omega) (by omega) hb hs1 hs2 rfl (by omega) IH
theorem merge_ok (g n c a m b B : Nat) (D : List mapS.Dat) (w : World) (hown : MineM w B (.slice (some ⟨g, 0, none⟩) n c) D) (hmax : n ≤ 1000000) (ham : a < m) (hmb : m < b) (hb : b ≤ n) (hs1 : SortedOn keyM D a m) (hs2 : SortedOn keyM D m b) : MergeAt g n c B a m b D w :=
  merge_all g n c B hmax (b - a + 1) a m b D w (by omega) ham hmb hb hown hs1 hs2

/-- what the sort leaves -/
structure Stbl (D E : List mapS.Dat) : Prop where
  len : E.length = D.length
  st : StEq keyM D E
theorem Stbl.refl (D : List mapS.Dat) : Stbl D D := ⟨rfl, StEq.refl _⟩
theorem Stbl.seg {D L E : List mapS.Dat} {a b : Nat} (h : Stbl D L) (k : Seg keyM a b L E) : Stbl D E := ⟨k.len.trans h.len, h.st.trans k.st⟩
set_option maxRecDepth 20000 in
set_option maxHeartbeats 8000000 in
theorem stable_ok (g n c B : Nat) (D : List mapS.Dat) (w : World) (hown : MineM w B (.slice (some ⟨g, 0, none⟩) n c) D) (hmax : n ≤ 1000000) :
    Calls Tryz.prog 101 #[.slice (some ⟨g, 0, none⟩) n c, .int .i64 n, .func (.func 70) #[] #[]] w fun x w' =>
      x = .returned (.tuple #[]) ∧ ∃ E, (Stbl D E ∧ SortedOn keyM E 0 n) ∧ MineM w' B (.slice (some ⟨g, 0, none⟩) n c) E ∧ Off g w w' := by
  have H0 := Lib.hid hown
  clear hown
  go_enter Tryz.func101, Tryz.ntmps101
  go_wp2
  go_loopw [7, 8] (fun v7 v8 wr => ∃ (t : Nat) (L : List mapS.Dat), t ≤ n ∧ v7 = .int .i64 t ∧ v8 = .int .i64 ((t + 20 : Nat) : Int) ∧ Hid ((∃ u, t = u * 20 ∧ Fst keyM L 20 u) ∧ Stbl D L ∧ MineM wr B (.slice (some ⟨g, 0, none⟩) n c) L ∧ Off g w wr)) (fun v7 _ _ => n - (intOf v7).toNat)
  case atStart => exact ⟨0, D, by omega, rfl, rfl, Lib.hid ⟨⟨0, rfl, fun t ht => absurd ht (by omega)⟩, Stbl.refl _, H0.out, Off.refl _ _⟩⟩
  case round =>
    clear H0
    obtain ⟨t, L, htn, rfl, rfl, HM⟩ := hrel
    obtain ⟨b, hb⟩ : ∃ b, t + 20 = b := ⟨_, rfl⟩
    rw [hb]
    obtain ⟨b2, hb2⟩ : ∃ b2, b + 20 = b2 := ⟨_, rfl⟩
    have hbI : (b : Int) + 20 = (b2 : Int) := by omega
    by_cases hlt : b ≤ n
    · have HC := Lib.hid (insert_ok g n c t b B L wr HM.out.2.2.1 hmax (by omega) hlt)
      have HN := Lib.hid (fun (E : List mapS.Dat) (u : World) (h1 : Mrg keyM t b L E) (h2 : MineM u B (.slice (some ⟨g, 0, none⟩) n c) E) (h3 : Off g wr u) =>
        (⟨by
          obtain ⟨v, hv, hf⟩ := HM.out.1
          exact ⟨v + 1, by omega, hf.step (by rw [← hv, hb]; exact h1)⟩, HM.out.2.1.seg h1.1, h2, HM.out.2.2.2.trans h3⟩ : (∃ v, b = v * 20 ∧ Fst keyM E 20 v) ∧ Stbl D E ∧ MineM u B (.slice (some ⟨g, 0, none⟩) n c) E ∧ Off g w u))
      have HB := Lib.hid (And.intro hb hb2)
      clear HM hb hb2
      go_wp2_with (go_at_call 123; (with_reducible refine HC.out.mono ?_); rintro x u ⟨rfl, E, h1, h2, h3⟩)
      have HE := Lib.hid (HN.out E u h1 h2 h3)
      clear h1 h2 h3 HN HC
      go_roundw
      case rel => exact ⟨b, E, hlt, rfl, by have := HB.out; go_num, HE⟩
      case measure => have := HB.out; simp [intOf] <;> omega
    · have HC := Lib.hid (insert_ok g n c t n B L wr HM.out.2.2.1 hmax htn (Nat.le_refl _))
      have HN := Lib.hid (fun (E : List mapS.Dat) (u : World) (h1 : Mrg keyM t n L E) (h2 : MineM u B (.slice (some ⟨g, 0, none⟩) n c) E) (h3 : Off g wr u) =>
        (⟨by
          obtain ⟨v, hv, hf⟩ := HM.out.1
          exact hf.done (by omega) (by omega) (by rw [← hv]; exact h1), HM.out.2.1.seg h1.1, h2, HM.out.2.2.2.trans h3⟩ : Blk keyM E 20 0 n ∧ Stbl D E ∧ MineM u B (.slice (some ⟨g, 0, none⟩) n c) E ∧ Off g w u))
      clear HM hb hbI hb2
      go_wp2_with (go_at_call 123; (with_reducible refine HC.out.mono ?_); rintro x u ⟨rfl, E, h1, h2, h3⟩)
      have HE := Lib.hid (HN.out E u h1 h2 h3)
      clear h1 h2 h3 HN HC htn hlt
      go_loopw [6, 7, 8] (fun v6 v7 v8 wq => ∃ (z : Nat) (M : List mapS.Dat), (0 < z ∧ z ≤ 2000020) ∧ v6 = .int .i64 z ∧ (∃ q7 q8 : Int, v7 = .int .i64 q7 ∧ v8 = .int .i64 q8) ∧ Hid (Blk keyM M z 0 n ∧ Stbl D M ∧ MineM wq B (.slice (some ⟨g, 0, none⟩) n c) M ∧ Off g w wq)) (fun v6 _ _ _ => n - (intOf v6).toNat)
      case atStart => exact ⟨20, E, by omega, rfl, ⟨_, _, rfl, rfl⟩, HE⟩
      case round =>
        clear HE
        obtain ⟨z, M, ⟨hz0, hzm⟩, rfl, ⟨q7, q8, rfl, rfl⟩, HM⟩ := hrel
        by_cases hzn : z < n
        · obtain ⟨y, hy⟩ : ∃ y, 2 * z = y := ⟨_, rfl⟩
          have hyI : 2 * (z : Int) = (y : Int) := by omega
          have HY := Lib.hid hy
          have H1 : Hid ((∃ v, 0 = v * (2 * z) ∧ Half keyM M z v n) ∧ Stbl D M ∧ MineM wr B (.slice (some ⟨g, 0, none⟩) n c) M ∧ Off g w wr) := Lib.hid ⟨⟨0, by omega, Half.start HM.out.1⟩, HM.out.2⟩
          clear HM hy
          go_wp2
          go_loopw [7, 8] (fun v7 v8 wq => ∃ (t : Nat) (K : List mapS.Dat), t ≤ n ∧ v7 = .int .i64 t ∧ v8 = .int .i64 ((t : Int) + (y : Int)) ∧ Hid ((∃ v, t = v * (2 * z) ∧ Half keyM K z v n) ∧ Stbl D K ∧ MineM wq B (.slice (some ⟨g, 0, none⟩) n c) K ∧ Off g w wq)) (fun v7 _ _ => n - (intOf v7).toNat)
          case atStart => exact ⟨0, M, by omega, rfl, by go_num, H1⟩
          case round =>
            clear H1
            obtain ⟨t, K, htn, rfl, rfl, HM⟩ := hrel
            obtain ⟨b, hb⟩ : ∃ b, t + y = b := ⟨_, rfl⟩
            have hbI : (t : Int) + (y : Int) = (b : Int) := by omega
            obtain ⟨m, hm⟩ : ∃ m, t + z = m := ⟨_, rfl⟩
            have hmI : (t : Int) + (z : Int) = (m : Int) := by omega
            rw [hbI]
            have hy := HY.out
            by_cases hlt : b ≤ n
            · have HC := Lib.hid (by
                obtain ⟨v, hv, hf⟩ := HM.out.1
                obtain ⟨p1, p2⟩ := hf.pair (by omega)
                rw [← hv, hm] at p1 p2
                rw [show t + 2 * z = b by omega] at p2
                have := merge_ok g n c t m b B K wr HM.out.2.2.1 hmax (by omega) (by omega) hlt p1 p2
                unfold MergeAt at this
                exact this)
              have HN := Lib.hid (fun (E : List mapS.Dat) (u : World) (h1 : Mrg keyM t b K E) (h2 : MineM u B (.slice (some ⟨g, 0, none⟩) n c) E) (h3 : Off g wr u) =>
                (⟨by
                  obtain ⟨v, hv, hf⟩ := HM.out.1
                  refine ⟨v + 1, by rw [Nat.add_mul, Nat.one_mul]; omega, hf.step (by omega) (by rw [← hv, show t + 2 * z = b by omega]; exact h1)⟩, HM.out.2.1.seg h1.1, h2, HM.out.2.2.2.trans h3⟩ : (∃ v, b = v * (2 * z) ∧ Half keyM E z v n) ∧ Stbl D E ∧ MineM u B (.slice (some ⟨g, 0, none⟩) n c) E ∧ Off g w u))
              have HB := Lib.hid hb
              obtain ⟨b2, hb2⟩ : ∃ b2, b + y = b2 := ⟨_, rfl⟩
              have hb2I : (b : Int) + (y : Int) = (b2 : Int) := by omega
              have HB2 := Lib.hid hb2
              clear HM hb hb2 hm hy
              go_wp2_with (go_at_call 124; (with_reducible refine HC.out.mono ?_); rintro x u ⟨rfl, E, h1, h2, h3⟩)
              have HE := Lib.hid (HN.out E u h1 h2 h3)
              clear h1 h2 h3 HN HC
              go_roundw
              case rel => exact ⟨b, E, hlt, rfl, by have := HB2.out; go_num, HE⟩
              case measure => have := HB.out; have := HY.out; simp [intOf] <;> omega
            · have hz2 : (z : Int) * 2 = (y : Int) := by omega
              by_cases hmn : m < n
              · have HC := Lib.hid (by
                  obtain ⟨v, hv, hf⟩ := HM.out.1
                  obtain ⟨p1, p2⟩ := hf.rest (by omega) (by omega)
                  rw [← hv, hm] at p1 p2
                  have := merge_ok g n c t m n B K wr HM.out.2.2.1 hmax (by omega) hmn (Nat.le_refl _) p1 p2
                  unfold MergeAt at this
                  exact this)
                have HN := Lib.hid (fun (E : List mapS.Dat) (u : World) (h1 : Mrg keyM t n K E) (h2 : MineM u B (.slice (some ⟨g, 0, none⟩) n c) E) (h3 : Off g wr u) =>
                  (⟨by
                    obtain ⟨v, hv, hf⟩ := HM.out.1
                    rw [← hy]
                    exact hf.last hz0 (by omega) (by rw [← hv]; exact h1), HM.out.2.1.seg h1.1, h2, HM.out.2.2.2.trans h3⟩ : Blk keyM E y 0 n ∧ Stbl D E ∧ MineM u B (.slice (some ⟨g, 0, none⟩) n c) E ∧ Off g w u))
                clear HM hb hm hy
                go_wp2_with (go_at_call 124; (with_reducible refine HC.out.mono ?_); rintro x u ⟨rfl, E, h1, h2, h3⟩)
                have HE := Lib.hid (HN.out E u h1 h2 h3)
                clear h1 h2 h3 HN HC
                go_roundw
                case rel => exact ⟨y, E, by have := HY.out; omega, by go_num, ⟨_, _, rfl, rfl⟩, HE⟩
                case measure => have := HY.out; simp [intOf] <;> omega
              · have HE : Hid (Blk keyM K y 0 n ∧ Stbl D K ∧ MineM wr B (.slice (some ⟨g, 0, none⟩) n c) K ∧ Off g w wr) := Lib.hid ⟨by
                  obtain ⟨v, hv, hf⟩ := HM.out.1
                  rw [← hy]
                  exact hf.over hz0 (by omega) (by omega), HM.out.2⟩
                clear HM hb hm hy
                go_wp2
                go_roundw
                case rel => exact ⟨y, K, by have := HY.out; omega, by go_num, ⟨_, _, rfl, rfl⟩, HE⟩
                case measure => have := HY.out; simp [intOf] <;> omega
        · have HE : Hid (∃ E, (Stbl D E ∧ SortedOn keyM E 0 n) ∧ MineM wr B (.slice (some ⟨g, 0, none⟩) n c) E ∧ Off g w wr) := Lib.hid ⟨M, ⟨HM.out.2.1, HM.out.1.all (by omega)⟩, HM.out.2.2⟩
          clear HM
          go_wp2
          go_end0
          exact ⟨rfl, HE.out⟩
end Go.Proofs.YtnpcakeagpbgiaaGreat

/-
  Layer 22 puts a font's mappings in the order of their code points and looks a code point up by halving: the library's IsSortedFunc, Clone, SortStableFunc and BinarySearchFunc at mappings, the program's byCode and find. Condition: at most 1000000 mappings.
-/
set_option linter.unusedVariables false
set_option linter.unusedSimpArgs false
namespace Go.Proofs.YtnpcakeagpbgiaaGreat
open Go.ChangeShapes Go.WideShapes Go.ChangeAt Go.RowKit Go.Sort

theorem gF_filter : ∀ (M : List mapS.Dat) (r : Int), gF M r = ((M.filter (fun x => keyM x == r)).head?.map (fun m => m.2.1)).getD 0
  | [], _ => rfl
  | m :: M, r => by
    rw [gF, List.filter_cons]
    by_cases h : m.1 = r
    · rw [if_pos h, if_pos (by simpa [keyM] using h)]; rfl
    · rw [if_neg h, if_neg (by simpa [keyM] using h)]
      exact gF_filter M r
theorem Stbl.gF {D E : List mapS.Dat} (h : Stbl D E) (r : Int) : gF E r = gF D r := by rw [gF_filter, gF_filter, h.st r]
theorem sorted_adj {M : List mapS.Dat} {n : Nat} (h : ∀ (j : Nat) x y, j + 1 < n → M[j]? = some x → M[j + 1]? = some y → keyM x ≤ keyM y) (hn : n ≤ M.length) : SortedOn keyM M 0 n := by
  have key : ∀ (d i : Nat) x y, i + d < n → M[i]? = some x → M[i + d]? = some y → keyM x ≤ keyM y := fun d => by
    induction d with
    | zero => intro i x y _ hx hy; rw [Nat.add_zero, hx] at hy; cases hy; exact Int.le_refl _
    | succ d ih =>
      intro i x y hl hx hy
      obtain ⟨z, hz⟩ : ∃ z, M[i + d]? = some z := ⟨_, List.getElem?_eq_getElem (by omega)⟩
      have h1 := ih i x z (by omega) hx hz
      have h2 := h (i + d) z y (by omega) hz hy
      omega
  intro i j x y _ h2 h3 hx hy
  exact key (j - i) i x y (by omega) hx (by rw [show i + (j - i) = j by omega]; exact hy)
/-- the cells of a mapping of an argument -/
theorem map_cells {w : World} {B : Nat} {A : Option Addr} {M : List mapS.Dat} (h : HasN mapS.lay w B A M) {i : Nat} {x : mapS.Dat} (hx : M[i]? = some x) :
    ∃ b off, A = some ⟨b, off, none⟩ ∧ b < B ∧ w.cell? ⟨b, off + i * 2, none⟩ = some (.int .i32 x.1) ∧ w.cell? ⟨b, off + i * 2 + 1, none⟩ = some (.int .i64 x.2.1) := by
  have hlt := (List.getElem?_eq_some_iff.1 hx).1
  obtain ⟨b, off, e, hb, hc⟩ := h.at_ hlt
  have hxe : M[i] = x := (List.getElem?_eq_some_iff.1 hx).2
  refine ⟨b, off, e, hb, ?_, ?_⟩
  · have := hc 0 (.int .i32 x.1) (by rw [hxe]; rfl)
    simpa [Shp.lay, Shp.size] using this
  · have := hc 1 (.int .i64 x.2.1) (by rw [hxe]; rfl)
    simpa [Shp.lay, Shp.size] using this

set_option maxRecDepth 20000 in
set_option maxHeartbeats 4000000 in
theorem sortedF_ok (A : Option Addr) (n c : Nat) (M : List mapS.Dat) (w : World) (hn : n = M.length) (hmax : n ≤ 1000000) (h : HasN mapS.lay w w.heap.size A M) :
    Calls Tryz.prog 72 #[.slice A n c, .func (.func 70) #[] #[]] w fun e w' =>
      ∃ b : Bool, e = .returned (.bool b) ∧ ((b = true → SortedOn keyM M 0 n) ∧ (b = false → 1 < n)) ∧ Up w w' := by
  have HN := Lib.hid hn
  have HH := Lib.hid (fun (W : World) (hu : Up w W) => h.up hu)
  clear h hn
  go_enter Tryz.func72, Tryz.ntmps72
  go_wp2
  go_loopw [5] (fun v wr => ∃ k : Nat, k ≤ n ∧ v = .int .i64 ((k : Int) - 1) ∧ Hid ((∀ (j : Nat) x y, k ≤ j + 1 → j + 1 < n → M[j]? = some x → M[j + 1]? = some y → keyM x ≤ keyM y) ∧ Up w wr)) (fun v _ => (intOf v + 1).toNat)
  case atStart => exact ⟨n, Nat.le_refl _, by go_num, Lib.hid ⟨fun j x y h1 h2 => by omega, Up.refl _⟩⟩
  case round =>
    obtain ⟨k, hkn, rfl, HM⟩ := hrel
    by_cases hlt : 1 < k
    · obtain ⟨i, hi⟩ : ∃ i, k - 1 = i := ⟨_, rfl⟩
      have hiI : (k : Int) - 1 = (i : Int) := by omega
      obtain ⟨j, hj⟩ : ∃ j, i - 1 = j := ⟨_, rfl⟩
      have hjI : (i : Int) - 1 = (j : Int) := by omega
      have hjw : IntKind.i64.wrap (j : Int) = (j : Int) := IntWalk.i64_in _ (by omega)
      have hin : i < n := by omega
      have hjn : j < n := by omega
      have hi0 : 0 < i := by omega
      rw [hiI]
      obtain ⟨x, hx⟩ : ∃ x, M[i]? = some x := ⟨_, List.getElem?_eq_getElem (by rw [← HN.out]; exact hin)⟩
      obtain ⟨y, hy⟩ : ∃ y, M[j]? = some y := ⟨_, List.getElem?_eq_getElem (by rw [← HN.out]; exact hjn)⟩
      obtain ⟨b, off, hA, hb, ca1, ca2⟩ := map_cells (HH.out _ HM.out.2) hx
      obtain ⟨b', off', hA', _, cb1, cb2⟩ := map_cells (HH.out _ HM.out.2) hy
      rw [hA] at hA'
      injection hA' with hA'
      injection hA' with e1 e2
      subst e1; subst e2
      subst hA
      obtain ⟨q, hq⟩ : ∃ q, cmpI x.1 y.1 = q := ⟨_, rfl⟩
      have HC := Lib.hid (order_ok x y)
      rw [hq] at HC
      have hql : q < 0 ↔ x.1 < y.1 := by rw [← hq]; exact cmpI_neg _ _
      have HU := Lib.hid (fun (u : World) (hu : Up wr.drew u) => (HM.out.2.drew.trans hu : Up w u))
      have HI := Lib.hid (And.intro hi hj)
      by_cases hq0 : q < 0
      · have h1n : 1 < n := by omega
        clear HM hx hy hq hql hi hj hb
        go_wp2
        go_region_held3 (fun W => W.cell? ⟨b, off + i * 2, none⟩ = some (.int .i32 x.1) ∧ W.cell? ⟨b, off + i * 2 + 1, none⟩ = some (.int .i64 x.2.1) ∧ W.cell? ⟨b, off + j * 2, none⟩ = some (.int .i32 y.1) ∧ W.cell? ⟨b, off + j * 2 + 1, none⟩ = some (.int .i64 y.2.1))
          (exact ⟨by assumption, by assumption, by assumption, by assumption⟩) ((go_at_call 70; refine (HC.out _).mono ?_; rintro e u ⟨rfl, hu⟩; have e1 := Up.cell hu (p := ⟨b, off + i * 2, none⟩) ca1; have e2 := Up.cell hu (p := ⟨b, off + i * 2 + 1, none⟩) ca2; have e3 := Up.cell hu (p := ⟨b, off + j * 2, none⟩) cb1; have e4 := Up.cell hu (p := ⟨b, off + j * 2 + 1, none⟩) cb2))
        go_wp2
        go_ret
        exact ⟨false, rfl, ⟨(fun h => by cases h), fun _ => h1n⟩, HU.out u hu⟩
      · have HS : Hid (∀ (d : Nat) x y, i ≤ d + 1 → d + 1 < n → M[d]? = some x → M[d + 1]? = some y → keyM x ≤ keyM y) := Lib.hid (fun d u v h1 h2 hu hv => by
          by_cases hd : d = j
          · subst hd
            rw [hy] at hu; cases hu
            rw [show d + 1 = i by omega, hx] at hv; cases hv
            exact Int.not_lt.1 fun c => hq0 (hql.2 c)
          · exact HM.out.1 d u v (by omega) h2 hu hv)
        clear HM hx hy hq hql hi hj hb
        go_wp2
        go_region_held3 (fun W => W.cell? ⟨b, off + i * 2, none⟩ = some (.int .i32 x.1) ∧ W.cell? ⟨b, off + i * 2 + 1, none⟩ = some (.int .i64 x.2.1) ∧ W.cell? ⟨b, off + j * 2, none⟩ = some (.int .i32 y.1) ∧ W.cell? ⟨b, off + j * 2 + 1, none⟩ = some (.int .i64 y.2.1))
          (exact ⟨by assumption, by assumption, by assumption, by assumption⟩) ((go_at_call 70; refine (HC.out _).mono ?_; rintro e u ⟨rfl, hu⟩; have e1 := Up.cell hu (p := ⟨b, off + i * 2, none⟩) ca1; have e2 := Up.cell hu (p := ⟨b, off + i * 2 + 1, none⟩) ca2; have e3 := Up.cell hu (p := ⟨b, off + j * 2, none⟩) cb1; have e4 := Up.cell hu (p := ⟨b, off + j * 2 + 1, none⟩) cb2))
        have HF := Lib.hid (HU.out u hu)
        clear HU HC hu ca1 ca2 cb1 cb2
        go_wp2
        go_roundw
        case rel => exact ⟨i, by have := HI.out; omega, by go_num, Lib.hid ⟨HS.out, HF.out⟩⟩
        case measure => have := HI.out; simp [intOf] <;> omega
    · have HE : Hid (SortedOn keyM M 0 n ∧ Up w wr) := Lib.hid ⟨sorted_adj (fun j x y h1 => HM.out.1 j x y (by omega) h1) (by rw [HN.out]; exact Nat.le_refl _), HM.out.2⟩
      clear HM
      go_wp2
      go_ret
      exact ⟨true, rfl, ⟨fun _ => HE.out.1, (fun h => by cases h)⟩, HE.out.2⟩
theorem fullM : (Tryz.prog.info? 81).map (fun i => (i.zero, i.size, i.bytes)) = some (some (.agg #[.int .i32 0, .int .i64 0]), 2, 16) := by kernel_rfl
theorem eqnilM (a : Option Addr) (n c n' c' : Nat) (w : World) : (binOp .eql 38 (.slice a n c) (.slice none n' c')).run Tryz.prog w = .ok (.bool a.isNone) w := Lib.run_eql_slice_nil w _ _ a n c n' c' Tryz.underlying38
set_option maxHeartbeats 1000000 in
theorem cloneM_ok (a : Addr) (n c : Nat) (M : List mapS.Dat) (w : World) (hn : n = M.length) (hmax : n ≤ 1000000) (h : HasN mapS.lay w w.heap.size (some a) M) :
    Calls Tryz.prog 73 #[.slice (some a) n c] w fun e w' => ∃ v, e = .returned v ∧ MineM w' w.heap.size v M ∧ Below w.heap.size w w' := by
  have hm0 : MineM (w.alloc (.cells #[] 81)) w.heap.size (.slice (some ⟨w.heap.size, 0, none⟩) 0 0) [] := MineN.none_ w _ (Nat.le_refl _)
  have hb0 : Below w.heap.size w (w.alloc (.cells #[] 81)) := (Below.refl _ _).alloc (Nat.le_refl _) _
  have hh := h.carry hb0
  have HN := Lib.hid hn
  have q := eqnilM (some a) n c 0 0
  clear h hn
  go_enter Tryz.func73, Tryz.ntmps73
  go_wp2_with (first
    | (at_builtin; refine wpList_pushallN (R := mapS.lay) (bytes := 16) rfl _ _ 38 rfl (.agg #[.int .i32 0, .int .i64 0]) Tryz.underlying38 fullM rfl (by decide) (by decide) w.heap.size _ [] M w _ (some a) n c HN.out (fun e => by cases e) hh hm0 rfl rfl hb0 hb0.size (by simp) (by have := HN.out; omega) ?_; intro v' w1 hM hb1 _))
  go_ret
  exact ⟨_, rfl, by simpa using hM, hb1⟩
theorem sortM_ok (g n c B : Nat) (D : List mapS.Dat) (w : World) (hown : MineM w B (.slice (some ⟨g, 0, none⟩) n c) D) (hmax : n ≤ 1000000) :
    Calls Tryz.prog 74 #[.slice (some ⟨g, 0, none⟩) n c, .func (.func 70) #[] #[]] w fun x w' =>
      x = .returned (.tuple #[]) ∧ ∃ E, (Stbl D E ∧ SortedOn keyM E 0 n) ∧ MineM w' B (.slice (some ⟨g, 0, none⟩) n c) E ∧ Off g w w' := by
  have HC := Lib.hid (stable_ok g n c B D w hown hmax)
  clear hown
  go_enter Tryz.func74, Tryz.ntmps74
  go_wp2_with (go_at_call 101; (with_reducible refine HC.out.mono ?_); rintro x u ⟨rfl, h⟩)
  go_end0
  exact ⟨rfl, h⟩
end Go.Proofs.YtnpcakeagpbgiaaGreat
