/-
  Contracts of the program's turn and Runs. Condition: at most 1000 levels.
-/
import Derived.Test.YtnocdminhcpmpaaRod
import Derived.Deep.RegionHeld3
set_option linter.unusedVariables false
set_option linter.unusedSimpArgs false
namespace Go.Proofs.Ytnocdminhcpmpaa
open Go.ChangeShapes Go.WideShapes Go.ChangeAt Go.RowKit Go.Sort

theorem slice3_hi (A : Option Addr) (n c a b : Nat) (hab : a ≤ b) (hb : b ≤ c) :
    ∃ S, (∀ W, (Instr.slice 27 (.slice A n c) (some (.int .i64 (a : Int))) (some (.int .i64 (b : Int))) none).run Try.prog W = .ok (.slice S (b - a) (c - a)) W) ∧ ∀ g, A = some ⟨g, 0, none⟩ → a < c → S = some ⟨g, a * 3, none⟩ := by
  refine ⟨if c = a then A else A.map (·.add (a * 3)), fun W => ?_, fun g hg hc => ?_⟩
  · rw [run_slice_lh (P := Try.prog) W 27 A n c (by kernel_rfl) .i64 .i64 a b (by omega) (by omega) (by omega)]
    have hs : (sizeOf (Try.prog.elem 27)).run Try.prog W = .ok 3 W := by kernel_rfl
    rw [hs]
    simp [Result.andThen, sliced]
  · rw [if_neg (by omega), hg]
    simp [Addr.add]
    omega
theorem slice3_lo (A : Option Addr) (n c a : Nat) (ha : a ≤ n) :
    ∃ S, (∀ W, (Instr.slice 27 (.slice A n c) (some (.int .i64 (a : Int))) none none).run Try.prog W = .ok (.slice S (n - a) (c - a)) W) ∧ ∀ g, A = some ⟨g, 0, none⟩ → a < c → S = some ⟨g, a * 3, none⟩ := by
  refine ⟨if c = a then A else A.map (·.add (a * 3)), fun W => ?_, fun g hg hc => ?_⟩
  · rw [run_slice_l (P := Try.prog) W 27 A n c (by kernel_rfl) .i64 a (by omega) (by omega)]
    have hs : (sizeOf (Try.prog.elem 27)).run Try.prog W = .ok 3 W := by kernel_rfl
    rw [hs]
    simp [Result.andThen, sliced]
  · rw [if_neg (by omega), hg]
    simp [Addr.add]
    omega
theorem MineS.below {w w' : World} {B : Nat} {v : Value} {l : List Rn} (h : MineS w B v l) (hb : Below w.heap.size w w') : MineS w' B v l := MineN.stays h fun b _ hlt => hb.block b hlt
theorem FarO.below {v : Value} {a b c : World} (h : FarO v a b) (k : Below b.heap.size b c) : FarO v a c := h.trans ⟨k.size, fun x hx _ => k.block x hx⟩
set_option maxRecDepth 20000 in
set_option maxHeartbeats 4000000 in
theorem turn_ok (A : Option Addr) (n c lvl : Nat) (rs : List Rn) (w : World) (B : Nat) (hB : B ≤ w.heap.size) (hown : MineS w B (.slice A n c) rs) (hn : n = rs.length) (hmax : n ≤ 1000) :
    Calls Try.prog 28 #[.slice A n c, .int .i64 lvl] w fun e w' => e = .returned (.tuple #[]) ∧ MineS w' B (.slice A n c) (turnQ lvl rs) ∧ Below B w w' := by
  have HN := Lib.hid hn
  have H0 := Lib.hid hown
  have hnc : n ≤ c := by
    obtain ⟨A', c', e1, e2, _, _⟩ := MineN.has hown
    injection e1 with e1 e3 e4
    omega
  clear hn hown
  unfold turnQ
  obtain ⟨p, hp⟩ : ∃ p : Rn → Bool, p = fun r => decide (lvl ≤ r.2.2) := ⟨_, rfl⟩
  rw [← hp]
  have HP : Hid (∀ r : Rn, p r = decide (lvl ≤ r.2.2)) := Lib.hid fun r => by rw [hp]
  clear hp
  go_enter Try.func28, Try.ntmps28
  go_wp2
  go_loopw [4, 9] (fun v4 v9 wr => ∃ k f : Nat, k ≤ n ∧ f ≤ k ∧ v9 = .int .i64 k ∧ v4 = .int .i64 f ∧ ∃ L, Hid (TrnS p rs L f k ∧ MineS wr B (.slice A n c) L ∧ Below B w wr)) (fun _ v _ => n - (intOf v).toNat)
  case atStart => exact ⟨0, 0, by omega, by omega, rfl, rfl, rs, Lib.hid ⟨TrnS.start _ _, H0.out, Below.refl _ _⟩⟩
  case round =>
    clear H0
    obtain ⟨k, f, hkn, hfk, rfl, rfl, L, HS⟩ := hrel
    obtain ⟨hT, hM, hb⟩ := HS.out
    have hLn : L.length = n := by rw [hT.len, ← HN.out]
    by_cases hlt : k < n
    · obtain ⟨x, hx⟩ : ∃ x, L[k]? = some x := ⟨_, List.getElem?_eq_getElem (by omega)⟩
      obtain ⟨g, rfl, hgB, hg, ⟨c1, c2, c3⟩, hfr, _⟩ := MineS.spot hM hx
      have hpx := HP.out x
      have hBw : B ≤ wr.heap.size := Nat.le_trans hB hb.size
      by_cases hl : lvl ≤ x.2.2
      · rw [decide_eq_true hl] at hpx
        have hT2 := hT.keep hx hpx
        have hl2 : ¬ ((x.2.2 : Int) < (lvl : Int)) := by omega
        have HS2 : Hid (∀ W, Below wr.heap.size wr W → TrnS p rs L f (k + 1) ∧ MineS W B (.slice (some ⟨g, 0, none⟩) n c) L ∧ Below B w W) := Lib.hid fun W hW => ⟨hT2, MineS.below hM hW, hb.trans (hW.mono hBw)⟩
        clear hT hM hb HS hT2 hx hpx hfr hl
        go_wp2
        go_roundw
        case rel => exact ⟨k + 1, f, by omega, by omega, by go_num, rfl, L, Lib.hid (HS2.out _ ((Below.refl _ _).alloc (Nat.le_refl _) _))⟩
        case measure => simp [intOf] <;> omega
      · rw [decide_eq_false hl] at hpx
        have hT2 := hT.stop hx hpx
        have hl2 : ((x.2.2 : Int) < (lvl : Int)) := by omega
        obtain ⟨S, hsl, hS⟩ := slice3_hi (some ⟨g, 0, none⟩) n c f k hfk (by omega)
        have HR := Lib.hid (fun W h => revQ_ok (some ⟨g, 0, none⟩) S n c f (k - f) (c - f) L W B h (by omega) (by omega) hS)
        have HM1 : Hid (∀ W, Below wr.heap.size wr W → MineS W B (.slice (some ⟨g, 0, none⟩) n c) L ∧ Below B w W) := Lib.hid fun W hW => ⟨MineS.below hM hW, hb.trans (hW.mono hBw)⟩
        have HT2 := Lib.hid hT2
        clear hT hM hb HS hT2 hx hpx hfr hl hS
        go_wp2_with (first
          | (go_at_call 32; (with_reducible refine (HR.out _ (HM1.out _ ((Below.refl _ _).alloc (Nat.le_refl _) _)).1).mono ?_); rintro y u ⟨rfl, hMu, hBu, hFu⟩))
        go_roundw
        case rel => exact ⟨k + 1, k + 1, by omega, by omega, by go_num, by go_num, _, Lib.hid ⟨HT2.out, hMu, ((HM1.out _ ((Below.refl _ _).alloc (Nat.le_refl _) _)).2).trans hBu⟩⟩
        case measure => simp [intOf] <;> omega
    · obtain rfl : k = n := by omega
      have hd := hT.done (by omega)
      obtain ⟨S, hsl, hS⟩ := slice3_lo A k c f hfk
      have HR := Lib.hid (fun W h => revQ_ok A S k c f (k - f) (c - f) L W B h (by omega) (by omega) hS)
      rw [hd] at HR
      clear hT hS hd
      go_wp2_with (first
        | (go_at_call 32; (with_reducible refine (HR.out _ hM).mono ?_); rintro x u ⟨rfl, hMu, hBu, hFu⟩))
      go_end0
      exact ⟨rfl, hMu, hb.trans hBu⟩

set_option maxRecDepth 20000 in
set_option maxHeartbeats 4000000 in
theorem pruns_ok (A : Option Addr) (n c : Nat) (xs : List Int) (w : World) (hn : n = xs.length) (hmax : n ≤ 1000) (h : Has w w.heap.size A (xs.map (Value.int .i64))) :
    Calls Try.prog 16 #[.slice A n c] w fun e w' => ∃ v, e = .returned v ∧ MineS w' w.heap.size v (runX (lvX xs) n) ∧ Below w.heap.size w w' := by
  have HE := Lib.hid (peq_ok A n c xs w hn hmax h)
  have HR := Lib.hid (fun (W : World) (hb : Below w.heap.size w W) => prounds_ok A n c xs W hn hmax ((h.below hb).more hb.size))
  obtain ⟨lo, hlo⟩ : ∃ lo, lowK (lvX xs) n = lo := ⟨_, rfl⟩
  obtain ⟨hi, hhi⟩ : ∃ hi, highK (lvX xs) n = hi := ⟨_, rfl⟩
  have hlo1 : 1 ≤ lo ∧ lo ≤ 127 := by rw [← hlo]; exact ⟨by have := low_odd (lv := lvX xs) n; omega, low_le127 _⟩
  have hhi1 : hi ≤ 126 := by rw [← hhi]; exact high_le (fun i => lv_le xs i) n
  unfold runX numR
  rw [hlo, hhi] at HR
  rw [hlo, hhi]
  have HQ := Lib.hid (eq_len (lvX xs) n)
  generalize eqQ (lvX xs) n = rs at *
  clear h hlo hhi hn
  go_enter Try.func16, Try.ntmps16
  go_wp2_with (first
    | (go_at_call 26; (with_reducible refine HE.out.mono ?_); rintro x z0 ⟨v, rfl, m0, b0⟩; obtain ⟨A2, c2, rfl, hc2, _, _⟩ := MineN.has m0)
    | (go_at_call 27; (with_reducible refine (HR.out _ b0).mono ?_); rintro x u ⟨rfl, rfl⟩))
  have HL : Hid (rs.length ≤ 1000) := Lib.hid (by have := HQ.out; omega)
  have HM0 : Hid (MineS z0 w.heap.size (.slice A2 rs.length c2) (rdsQ (hi + 1) 0 rs) ∧ Below w.heap.size w z0) := Lib.hid ⟨m0, b0⟩
  clear m0 b0 HE HR HQ hc2
  have HRL : Hid (∀ j q, (rdsQ j q rs).length = rs.length) := Lib.hid fun j q => (rdsQ_perm q j rs).length_eq
  generalize rs.length = R at *
  have hlen := HL.out
  go_loopw [6] (fun v6 wr => ∃ l q : Nat, l + q = hi ∧ (q = 0 ∨ lo ≤ l + 1) ∧ v6 = .int .i64 (l : Int) ∧ Hid (MineS wr w.heap.size (.slice A2 R c2) (rdsQ (l + 1) q rs) ∧ Below w.heap.size w wr)) (fun v _ => (intOf v).toNat)
  case atStart => exact ⟨hi, 0, rfl, .inl rfl, rfl, HM0⟩
  case round =>
    clear HM0
    obtain ⟨l, q, hlq, hq, rfl, HM⟩ := hrel
    by_cases hlt : lo ≤ l
    · have hlt2 : (lo : Int) ≤ (l : Int) := by omega
      have HT := Lib.hid (turn_ok A2 R c2 l (rdsQ (l + 1) q rs) wr w.heap.size HM.out.2.size HM.out.1 (by rw [HRL.out]) hlen)
      have he : rdsQ (l - 1 + 1) (q + 1) rs = turnQ l (rdsQ (l + 1) q rs) := by rw [show l - 1 + 1 = l by omega]; rfl
      rw [← he] at HT
      have hB2 := HM.out.2
      clear HM he
      go_wp2_with (first
        | (go_at_call 28; (with_reducible refine HT.out.mono ?_); rintro x u ⟨rfl, hMu, hBu⟩))
      go_roundw
      case rel => exact ⟨l - 1, q + 1, by omega, .inr (by omega), by go_num, Lib.hid ⟨hMu, hB2.trans hBu⟩⟩
      case measure => simp [intOf] <;> omega
    · have hlt2 : ¬ ((lo : Int) ≤ (l : Int)) := by omega
      have he : rdsQ (l + 1) q rs = rdsQ lo (hi + 1 - lo) rs := by
        rcases hq with rfl | hq
        · rw [show hi + 1 - lo = 0 by omega]; rfl
        · rw [show l + 1 = lo by omega, show q = hi + 1 - lo by omega]
      have hM := HM.out
      rw [he] at hM
      clear he HM HRL
      go_wp2
      go_ret
      exact ⟨_, rfl, hM.1, hM.2⟩
end Go.Proofs.Ytnocdminhcpmpaa
