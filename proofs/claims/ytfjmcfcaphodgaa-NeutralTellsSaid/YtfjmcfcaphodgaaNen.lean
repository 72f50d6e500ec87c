/-
  Contracts: fill; the program's Neutral. Condition: at most 1000 classes.
-/
import Derived.Test.YtfjmcfcaphodgaaNef
import Derived.BigQuiet
import Derived.Deep.RegionHeld3
set_option linter.unusedVariables false
set_option linter.unusedSimpArgs false
namespace Go.Proofs.Ytfjmcfcaphodgaa
open Go.ChangeShapes Go.WideShapes Go.ChangeAt Go.RowKit Go.Sort

set_option maxHeartbeats 1000000 in
theorem fill_ok (A S : Option Addr) (n c a m q : Nat) (x : Int) (xs : List Int) (w : World) (B : Nat) (hown : Mine .i64 3 w B (.slice A n c) xs) (hmax : xs.length ≤ 1000) (ham : a + m ≤ xs.length)
    (hS : ∀ g, A = some ⟨g, 0, none⟩ → a < c → S = some ⟨g, a, none⟩) :
    Calls Try.prog 20 #[.slice S m q, .int .i64 x] w fun e w' => e = .returned (.tuple #[]) ∧ Mine .i64 3 w' B (.slice A n c) (fillL xs a (a + m) x) ∧ Below B w w' := by
  have hm : m ≤ 1000 := by omega
  have h0 : Mine .i64 3 w B (.slice A n c) (fillL xs a (a + 0) x) := by rw [fill_zero _ _ _ _ (by omega)]; exact hown
  have HS := Lib.hid hS
  have HA := Lib.hid ham
  clear hown hS ham hmax
  go_enter Try.func20, Try.ntmps20
  go_wp2
  go_loopw [7] (fun v wr => ∃ k : Nat, k ≤ m ∧ v = .int .i64 k ∧ Hid (Mine .i64 3 wr B (.slice A n c) (fillL xs a (a + k) x) ∧ Below B w wr)) (fun v _ => m - (intOf v).toNat)
  case atStart => exact ⟨0, by omega, rfl, Lib.hid ⟨h0, Below.refl _ _⟩⟩
  case round =>
    clear h0
    obtain ⟨k, hkm, rfl, HM⟩ := hrel
    by_cases hlt : k < m
    · have hk2 : a + k < xs.length := by have := HA.out; omega
      have hlen := fill_len xs a (a + k) x
      obtain ⟨y, hy⟩ : ∃ y, (fillL xs a (a + k) x)[a + k]? = some y := ⟨_, List.getElem?_eq_getElem (by omega)⟩
      obtain ⟨g, rfl, hB, hg, hc, hf, hs⟩ := HM.out.1.spot hy
      have hz := hs x
      rw [fill_step xs a (a + k) x (by omega) hk2] at hz
      have HZ := Lib.hid (And.intro hz (HM.out.2.setCell (p := ⟨g, a + k, none⟩) hB (.int .i64 x)))
      have hcap : a < c := by
        obtain ⟨A', c', e1, e2, _, _⟩ := HM.out.1.size
        injection e1 with e1 e3 e4
        omega
      obtain rfl := HS.out g rfl hcap
      clear hs hz hy HM hlen hk2 hB hg hcap
      go_wp2
      go_roundw
      case rel => exact ⟨k + 1, by omega, by go_num, HZ⟩
      case measure => simp [intOf] <;> omega
    · obtain rfl : k = m := by omega
      go_wp2
      go_end0
      exact ⟨rfl, HM.out.1, HM.out.2⟩

set_option maxHeartbeats 4000000 in
theorem neutral_ok (A : Option Addr) (n c : Nat) (level s e : Int) (cs : List Int) (w : World) (hn : n = cs.length) (hmax : n ≤ 1000) (h : Has w w.heap.size A (cs.map (Value.int .i64))) :
    Calls Try.prog 9 #[.slice A n c, .int .i64 level, .int .i64 s, .int .i64 e] w fun x w' => ∃ v, x = .returned v ∧ Mine .i64 3 w' w.heap.size v (nuL cs level s e) ∧ Below w.heap.size w w' := by
  have HH := Lib.hid (fun (W : World) (hb : Below w.heap.size w W) => (h.below hb).more hb.size)
  have HC := Lib.hid (clone_ok A n c cs w hn hmax h)
  have HN := Lib.hid hn
  have HS := Lib.hid (fun W => edge_ok s W)
  have HE := Lib.hid (fun W => edge_ok e W)
  obtain ⟨ee, hee⟩ : ∃ ee, edgeN e = ee := ⟨_, rfl⟩
  obtain ⟨ss, hss⟩ : ∃ ss, edgeN s = ss := ⟨_, rfl⟩
  have H0 := NuS.start cs level s e
  have HD : Hid (∀ R st k b, k = n → NuS cs level s e R st k b → fillL R st n (betN b ee level) = nuL cs level s e) := Lib.hid (by
    intro R st k b hk hR
    have e1 : k = cs.length := by omega
    subst e1
    rw [hn, ← hee]
    exact hR.done)
  rw [hss] at HS H0
  rw [hee] at HE
  have HL := Lib.hid H0
  clear hn h hss hee H0
  go_enter Try.func9, Try.ntmps9
  go_wp2_with (first
    | (go_at_call 16; refine HC.out.mono ?_; rintro x z0 ⟨v, rfl, m0, b0⟩; obtain ⟨A2, c2, rfl, hc2, _, _⟩ := m0.size; rw [← HN.out] at hc2 m0 ⊢)
    | (go_at_call 17; (with_reducible refine (HS.out _).mono ?_); rintro x u ⟨rfl, rfl⟩))
  have HM0 := Lib.hid (And.intro m0 b0)
  clear m0 b0
  go_loopw [10, 11, 21] (fun v10 v11 v21 wr => ∃ (k st : Nat) (b : Int), k ≤ n ∧ st ≤ k ∧ v21 = .int .i64 k ∧ v11 = .int .i64 st ∧ v10 = .int .i64 b ∧ ∃ R, Hid (NuS cs level s e R st k b) ∧ Hid (Mine .i64 3 wr w.heap.size (.slice A2 n c2) R ∧ Below w.heap.size w wr)) (fun _ _ v _ => n - (intOf v).toNat)
  case atStart => exact ⟨0, 0, _, by omega, by omega, rfl, rfl, rfl, cs, HL, HM0⟩
  case round =>
    clear HL HM0
    obtain ⟨k, st, b, hkn, hst, rfl, rfl, rfl, R, HR, HM⟩ := hrel
    by_cases hlt : k < n
    · have hk1 : k < cs.length := by have := HN.out; omega
      obtain ⟨b0, o0, rfl, hb0, hcc⟩ := (HH.out _ HM.out.2).at_int hk1
      have hgd : cs[k] = cs.getD k 0 := by rw [List.getD_eq_getElem?_getD, List.getElem?_eq_getElem hk1]; rfl
      rw [hgd] at hcc
      have HNE := Lib.hid (fun W => neutral_is_ok (cs.getD k 0) W)
      have hsk := HR.out.skip hk1
      have hrn := HR.out.run hk1
      have HDI := Lib.hid (fun W => direction_ok (cs.getD k 0) W)
      generalize cs.getD k 0 = X at *
      cases hx : neuC X with
      | true =>
        rw [hx] at HNE
        have HR2 := Lib.hid (hsk hx)
        clear hsk hrn hx HDI hgd hk1 hb0
        go_wp2_with (first
          | (go_at_call 18; (with_reducible refine (HNE.out _).mono ?_); rintro x u ⟨rfl, rfl⟩))
        go_roundw
        case rel => exact ⟨k + 1, st, b, by omega, by omega, by go_num, rfl, rfl, R, HR2, HM⟩
        case measure => simp [intOf] <;> omega
      | false =>
        rw [hx] at HNE
        have hR2 := hrn hx
        have HB := Lib.hid (fun W => between_ok b (wayN X) level W)
        have HRL : Hid (R.length = n) := Lib.hid (by rw [HR.out.len, ← HN.out])
        generalize wayN X = a at *
        generalize betN b a level = E at *
        obtain ⟨S, hsl, hS⟩ := slice_hi A2 n c2 st k hst (by omega)
        have HF := Lib.hid (fun W h => fill_ok A2 S n c2 st (k - st) (c2 - st) E R W w.heap.size h (by have := HRL.out; omega) (by have := HRL.out; omega) hS)
        rw [show st + (k - st) = k by omega] at HF
        have HR2 := Lib.hid hR2
        clear hsk hrn hx hR2 hgd hk1 hb0 hS
        go_wp2_with (first
          | (go_at_call 18; (with_reducible refine (HNE.out _).mono ?_); rintro x u ⟨rfl, rfl⟩)
          | (go_at_call 19; (with_reducible refine (HDI.out _).mono ?_); rintro x u ⟨rfl, rfl⟩))
        go_region_held3 (fun w' => True) (trivial) (first
          | (go_at_call 21; (with_reducible refine (HB.out _).mono ?_); rintro x u ⟨rfl, rfl⟩)
          | (go_at_call 20; (with_reducible refine (HF.out _ HM.out.1.drew).mono ?_); rintro x u ⟨rfl, hMu, hBu⟩))
        have HM2 := Lib.hid (And.intro hMu ((HM.out.2.drew).trans hBu))
        clear hMu hBu HM HF HB hsl
        go_wp2
        go_roundw
        case rel => exact ⟨k + 1, k + 1, a, by omega, by omega, by go_num, by go_num, rfl, _, HR2, HM2⟩
        case measure => simp [intOf] <;> omega
    · obtain rfl : k = n := by omega
      have hd := HD.out R st k b rfl HR.out
      have HB := Lib.hid (fun W => between_ok b ee level W)
      have HRL : Hid (R.length = k) := Lib.hid (by rw [HR.out.len, ← HN.out])
      generalize betN b ee level = E at *
      obtain ⟨S, hsl, hS⟩ := slice_lo A2 k c2 st hst
      have HF := Lib.hid (fun W h => fill_ok A2 S k c2 st (k - st) (c2 - st) E R W w.heap.size h (by have := HRL.out; omega) (by have := HRL.out; omega) hS)
      rw [show st + (k - st) = k by omega, hd] at HF
      clear hd hS
      go_wp2
      go_region_held3 (fun w' => True) (trivial) (first
        | (go_at_call 17; (with_reducible refine (HE.out _).mono ?_); rintro x u ⟨rfl, rfl⟩)
        | (go_at_call 21; (with_reducible refine (HB.out _).mono ?_); rintro x u ⟨rfl, rfl⟩)
        | (go_at_call 20; (with_reducible refine (HF.out _ HM.out.1.drew).mono ?_); rintro x u ⟨rfl, hMu, hBu⟩))
      have HB2 := Lib.hid ((HM.out.2.drew).trans hBu)
      go_wp2
      go_ret
      exact ⟨_, rfl, hMu, HB2.out⟩
end Go.Proofs.Ytfjmcfcaphodgaa
