/-
  Contracts of the document's rounds, Visual, Turns. Condition: at most 1000 levels.
-/
import Derived.Test.YtnocdminhcpmpaaRoh
set_option linter.unusedVariables false
set_option linter.unusedSimpArgs false
namespace Go.Proofs.Ytnocdminhcpmpaa
open Go.ChangeShapes Go.WideShapes Go.ChangeAt Go.RowKit Go.Sort

/-! a round, stretch by stretch -/
def RdS (p : Nat → Bool) (X L : List Nat) (a c tot : Nat) : Prop :=
  (a ≤ L.length ∧ TrnS p X L a a ∧ c + cntB false ((L.drop a).map p) = tot) ∨ (L.length < a ∧ L = revG p [] X ∧ c = tot)
section
variable {p : Nat → Bool} {X L : List Nat} {a c tot t : Nat}
theorem RdS.start (p : Nat → Bool) (X : List Nat) (c : Nat) : RdS p X X 0 c (c + cntB false (X.map p)) := .inl ⟨Nat.zero_le _, TrnS.start p X, rfl⟩
theorem RdS.le (h : RdS p X L a c tot) : c ≤ tot := by
  rcases h with ⟨_, _, h⟩ | ⟨_, _, h⟩ <;> omega
theorem RdS.end_ (h : RdS p X L a c tot) (ha : L.length ≤ a) : L = revG p [] X ∧ c = tot := by
  rcases h with ⟨h1, h2, h3⟩ | ⟨_, h2, h3⟩
  · have e : L.drop a = [] := List.drop_of_length_le ha
    have := h2.all
    rw [e] at h3 this
    rw [List.take_of_length_le ha] at this
    exact ⟨by simpa [revG] using this, by simpa [cntB] using h3⟩
  · exact ⟨h2, h3⟩
theorem RdS.in_ (h : RdS p X L a c tot) (ha : a < L.length) : TrnS p X L a a ∧ c + cntB false ((L.drop a).map p) = tot := by
  rcases h with ⟨_, h2, h3⟩ | ⟨h1, _⟩
  · exact ⟨h2, h3⟩
  · omega
theorem RdS.next (hT : TrnS p X L a t) (hc : c + cntB false ((L.drop a).map p) = tot) (hs : t = L.length ∨ ∃ x, L[t]? = some x ∧ p x = false) : RdS p X (revS L a (t - a)) (t + 1) (if a < t then c + 1 else c) tot := by
  have hle := hT.le
  have hlk := hT.lk
  have hm := hT.mid
  have hsp := drop_split L a t hT.le
  obtain ⟨s, hse⟩ : ∃ s, (L.drop a).take (t - a) = s := ⟨_, rfl⟩
  have hsl : s.length = t - a := by rw [← hse, List.length_take, List.length_drop]; omega
  rw [hse] at hm hsp
  have hall : ∀ x ∈ s.map p, x = true := fun x hx => by
    obtain ⟨y, hy, rfl⟩ := List.mem_map.1 hx
    exact hm y hy
  have hnil : (if s.map p = [] then 0 else 1) = if a < t then 1 else 0 := by
    by_cases h : a < t
    · rw [if_pos h, if_neg (fun e => by have := congrArg List.length e; simp at this; rw [this] at hsl; simp at hsl; omega)]
    · rw [if_neg h, if_pos (by rw [List.eq_nil_of_length_eq_zero (l := s) (by omega)]; rfl)]
  have hite : (if a < t then c + 1 else c) = c + if a < t then 1 else 0 := by split <;> rfl
  rw [hite, ← hnil]
  rcases hs with hs | ⟨x, hx, hp⟩
  · right
    refine ⟨by rw [revS_len _ _ _ (by omega)]; omega, hT.done hs, ?_⟩
    have e : L.drop t = [] := List.drop_of_length_le (by omega)
    rw [hsp, e, List.append_nil, cnt_all _ hall] at hc
    exact hc
  · left
    have hlt := (List.getElem?_eq_some_iff.1 hx).1
    have hd : L.drop t = x :: L.drop (t + 1) := by
      rw [List.drop_eq_getElem_cons hlt]
      congr 1
      rw [List.getElem?_eq_getElem hlt] at hx
      injection hx
    refine ⟨by rw [revS_len _ _ _ (by omega)]; omega, hT.stop hx hp, ?_⟩
    have e : (revS L a (t - a)).drop (t + 1) = L.drop (t + 1) := by
      unfold revS
      rw [hse, show a + (t - a) = t by omega, hd]
      have hlen : (L.take a ++ s.reverse ++ [x]).length = t + 1 := by simp; omega
      rw [show L.take a ++ s.reverse ++ x :: L.drop (t + 1) = (L.take a ++ s.reverse ++ [x]) ++ L.drop (t + 1) by simp, List.drop_left' hlen]
    rw [e]
    rw [hsp, hd, List.map_append, List.map_cons, hp, cnt_stretch _ _ hall] at hc
    omega
theorem revS_mem {n : Nat} (h : ∀ x ∈ L, x < n) (a m : Nat) : ∀ x ∈ revS L a m, x < n := fun x hx => by
  unfold revS at hx
  rw [List.mem_append, List.mem_append, List.mem_reverse] at hx
  rcases hx with (hx | hx) | hx
  · exact h x (List.mem_of_mem_take hx)
  · exact h x (List.mem_of_mem_drop (List.mem_of_mem_take hx))
  · exact h x (List.mem_of_mem_drop hx)
end
theorem cntB_le : ∀ (l : List Bool) (b : Bool), cntB b l ≤ l.length
  | [], _ => Nat.le_refl _
  | x :: l, b => by
    have := cntB_le l x
    rw [cntB, List.length_cons]
    split <;> omega
theorem cR_le (lv : Nat → Nat) (n : Nat) : ∀ (N j : Nat), cR lv n j N ≤ N * n
  | 0, j => by simp [cR]
  | N + 1, j => by
    have h1 := cR_le lv n N (j + 1)
    have h2 : cntL lv j n ≤ n := by
      unfold cntL
      have := cntB_le ((List.range n).map fun x => decide (j ≤ lv x)) false
      simpa using this
    rw [cR, Nat.succ_mul]
    omega
/-- a round counts the stretches of the places in their first order -/
theorem round_cnt (lv : Nat → Nat) (l q n : Nat) : cntB false ((rdsG lv (l + 1) q (List.range n)).map fun x => decide (l ≤ lv x)) = cntL lv l n := by
  unfold cntL
  rw [map_rds lv l q (l + 1) (List.range n) (by omega)]

set_option maxRecDepth 20000 in
set_option maxHeartbeats 8000000 in
theorem rrounds_ok (A : Option Addr) (n c : Nat) (xs : List Int) (w : World) (hn : n = xs.length) (hmax : n ≤ 1000) (h : Has w w.heap.size A (xs.map (Value.int .i64))) :
    Calls Try.prog 25 #[.slice A n c] w fun e w' => ∃ v, e = .returned (.tuple #[v, .int .i64 (trnX (lvX xs) n : Int)]) ∧ Mine .i64 3 w' w.heap.size v (inN (ordX (lvX xs) n)) ∧ Below w.heap.size w w' := by
  have HC := Lib.hid (rcounts_ok A n c xs w hn hmax h)
  have HBD := Lib.hid (fun (A : Option Addr) (c : Nat) (W : World) h => rbounds_ok A n c (lvX xs) W (fun i => lv_le xs i) hmax h)
  have hlv := fun i => lv_le xs i
  generalize lvX xs = lv at *
  unfold trnX ordX numR
  obtain ⟨lo, hlo⟩ : ∃ lo, lowK lv n = lo := ⟨_, rfl⟩
  obtain ⟨hi, hhi⟩ : ∃ hi, highK lv n = hi := ⟨_, rfl⟩
  have hlo1 : 1 ≤ lo ∧ lo ≤ 127 := by rw [← hlo]; exact ⟨by have := low_odd (lv := lv) n; omega, low_le127 _⟩
  have hhi1 : hi ≤ 126 := by rw [← hhi]; exact high_le hlv n
  rw [hlo, hhi] at HBD
  rw [hlo, hhi]
  have HV := Lib.hid hlv
  clear h hn hlo hhi hlv
  go_enter Try.func25, Try.ntmps25
  go_wp2_with (first
    | (go_at_call 29; (with_reducible refine HC.out.mono ?_); rintro x z0 ⟨v, rfl, m0, b0⟩; obtain ⟨A4, c4, rfl, hc4, _, hh4⟩ := m0.size; rw [inN_len, lvl_len] at *)
    | (go_at_call 31; (with_reducible refine (HBD.out _ _ _ hh4).mono ?_); rintro x u ⟨rfl, rfl⟩))
  have HM0 : Hid (TwoS w w.heap.size z0 (.slice none 0 0) (.slice A4 n c4) (List.range 0) (lvlL lv n)) := Lib.hid ⟨Mine.nil_ _ _ _ _, m0, apart_nil _, b0⟩
  clear m0 b0 hh4 HC HBD
  go_loopw [7, 8] (fun v7 v8 wr => ∃ k : Nat, k ≤ n ∧ v8 = .int .i64 k ∧ Hid (TwoS w w.heap.size wr v7 (.slice A4 n c4) (List.range k) (lvlL lv n))) (fun _ v _ => n - (intOf v).toNat)
  case atStart => exact ⟨0, by omega, rfl, HM0⟩
  case round =>
    clear HM0
    obtain ⟨k, hkn, rfl, HM⟩ := hrel
    by_cases hlt : k < n
    · have h1 := HM.out.one
      have hB : w.heap.size ≤ wr.heap.size := HM.out.bel.size
      have hl : (inN (List.range k)).length ≤ 1000000000 := by rw [inN_len, List.length_range]; omega
      go_wp2_with (first
        | (at_builtin; (refine wpList_push_far (k := .i64) (bytes := 8) rfl _ _ 22 rfl Try.underlying22 fullI (by decide) w.heap.size _ (inN (List.range k)) (k : Int) _ h1 rfl rfl hB hl ?_; intro v' w3 hM3 hb3 hfar)))
      go_roundw
      case rel => exact ⟨k + 1, by omega, by go_num, Lib.hid (by rw [List.range_succ]; exact HM.out.push hM3 hb3 hfar)⟩
      case measure => simp [intOf] <;> omega
    · obtain rfl : k = n := by omega
      obtain ⟨A7, c7, rfl, hc7, _, _⟩ := HM.out.one.size
      rw [inN_len, List.length_range] at *
      have HM1 := HM
      clear hlt
      go_wp2
      go_loopw [9, 10] (fun v9 v10 wr => ∃ l q c : Nat, l + q = hi ∧ (q = 0 ∨ lo ≤ l + 1) ∧ v10 = .int .i64 (l : Int) ∧ v9 = .int .i64 (c : Int) ∧ Hid (c = cR lv k (l + 1) q) ∧ Hid (TwoS w w.heap.size wr (.slice A7 k c7) (.slice A4 k c4) (rdsG lv (l + 1) q (List.range k)) (lvlL lv k))) (fun _ v _ => (intOf v).toNat)
      case atStart => exact ⟨hi, 0, 0, rfl, .inl rfl, rfl, rfl, Lib.hid rfl, HM1⟩
      case round =>
        clear HM HM1
        obtain ⟨l, q, cc, hlq, hq, rfl, rfl, HCC, HT⟩ := hrel
        by_cases hlt : lo ≤ l
        · have hlt2 : (lo : Int) ≤ (l : Int) := by omega
          obtain ⟨p, hp⟩ : ∃ p : Nat → Bool, (fun x => decide (l ≤ lv x)) = p := ⟨_, rfl⟩
          have HP : Hid (∀ x, p x = decide (l ≤ lv x)) := Lib.hid fun x => by rw [← hp]
          have hcnt := round_cnt lv l q k
          rw [hp] at hcnt
          have hXL : (rdsG lv (l + 1) q (List.range k)).length = k := by rw [(rds_perm lv _ _ _).length_eq, List.length_range]
          have hXM : ∀ x ∈ rdsG lv (l + 1) q (List.range k), x < k := fun x hx => List.mem_range.1 ((rds_perm lv _ _ _).mem_iff.1 hx)
          have hNX : revG p [] (rdsG lv (l + 1) q (List.range k)) = rdsG lv (l - 1 + 1) (q + 1) (List.range k) := by rw [show l - 1 + 1 = l by omega, ← hp]; rfl
          obtain ⟨tot, htot⟩ : ∃ tot, cc + cntB false ((rdsG lv (l + 1) q (List.range k)).map p) = tot := ⟨_, rfl⟩
          have htot2 : tot = cR lv k (l - 1 + 1) (q + 1) := by
            rw [show l - 1 + 1 = l by omega, cR, ← HCC.out, ← htot, hcnt]
          have htot3 : tot ≤ 200000 := by
            have h1 := cR_le lv k (q + 1) (l - 1 + 1)
            have h2 : (q + 1) * k ≤ 128 * 1000 := Nat.mul_le_mul (by omega) hmax
            omega
          have HR0 := RdS.start p (rdsG lv (l + 1) q (List.range k)) cc
          rw [htot] at HR0
          have hT := HT.out
          generalize rdsG lv (l + 1) q (List.range k) = X at *
          have HTOT := Lib.hid (And.intro htot2 hNX)
          have H30 : Hid (RdS p X X 0 cc tot ∧ X.length = k ∧ (∀ x ∈ X, x < k) ∧ TwoS w w.heap.size wr (.slice A7 k c7) (.slice A4 k c4) X (lvlL lv k)) := Lib.hid ⟨HR0, hXL, hXM, hT⟩
          clear hp hcnt htot htot2 hNX HR0 hT hXL hXM HCC HT
          go_wp2
          go_loopw [9, 11] (fun v9 v11 wr => ∃ (a c : Nat) (L : List Nat), a ≤ k + 1 ∧ v11 = .int .i64 (a : Int) ∧ v9 = .int .i64 (c : Int) ∧ Hid (RdS p X L a c tot ∧ L.length = k ∧ (∀ x ∈ L, x < k) ∧ TwoS w w.heap.size wr (.slice A7 k c7) (.slice A4 k c4) L (lvlL lv k))) (fun _ v _ => k + 1 - (intOf v).toNat)
          case atStart => exact ⟨0, cc, X, by omega, rfl, rfl, H30⟩
          case round =>
            clear H30
            obtain ⟨a, cn, L, hak, rfl, rfl, HL⟩ := hrel
            by_cases hlt3 : a < k
            · obtain ⟨hR, hLl, hLm, hTw⟩ := HL.out
              have hct := hR.le
              obtain ⟨hT0, hc0⟩ := hR.in_ (by omega)
              have HT0 := Lib.hid hT0
              clear hR hT0
              go_wp2
              have HTW := Lib.hid hTw
              have hctb : cn ≤ 200000 := by omega
              have HLM := Lib.hid hLm
              clear hTw hct HL hLm
              obtain ⟨W3, hW3⟩ : ∃ W, W = wr := ⟨_, rfl⟩
              have HW3 := Lib.hid hW3
              go_loopw [12] (fun v12 wr => ∃ t : Nat, a ≤ t ∧ t ≤ k ∧ v12 = .int .i64 (t : Int) ∧ Hid (TrnS p X L a t) ∧ wr = W3) (fun v _ => k - (intOf v).toNat)
              case atStart => exact ⟨a, by omega, by omega, rfl, HT0, hW3.symm⟩
              case round =>
                clear hW3 HT0
                obtain ⟨t, hat, htk, rfl, HT, rfl⟩ := hrel
                have HTW2 : Hid (TwoS w w.heap.size wr (.slice A7 k c7) (.slice A4 k c4) L (lvlL lv k)) := Lib.hid (by have := HTW.out; rw [← HW3.out] at this; exact this)
                clear HTW HW3
                by_cases hlt5 : t < k
                · obtain ⟨x, hx⟩ : ∃ x, L[t]? = some x := ⟨_, List.getElem?_eq_getElem (by omega)⟩
                  have hxk := HLM.out x (List.mem_of_getElem? hx)
                  obtain ⟨g7, rfl, hc7', _, _⟩ := HTW2.out.set hx
                  obtain ⟨g4, rfl, hc4'⟩ := HTW2.out.at2 (lvl_get lv k x hxk)
                  by_cases hlx : l ≤ lv x
                  · have HT2 := Lib.hid (HT.out.keep hx (by rw [HP.out]; exact decide_eq_true hlx))
                    have hlx2 : (l : Int) ≤ (lv x : Int) := by omega
                    generalize lv x = V at *
                    clear HT HTW2 hx
                    go_wp2
                    go_roundw
                    case rel => exact ⟨t + 1, by omega, by omega, by go_num, HT2, by trivial⟩
                    case measure => simp [intOf] <;> omega
                  · have hlx2 : ¬ ((l : Int) ≤ (lv x : Int)) := by omega
                    have HST : Hid (t = L.length ∨ ∃ x, L[t]? = some x ∧ p x = false) := Lib.hid (.inr ⟨x, hx, by rw [HP.out]; exact decide_eq_false hlx⟩)
                    generalize lv x = V at *
                    clear hx hlx
                    have hT := HT.out
                    have HNX2 := Lib.hid (RdS.next hT hc0 HST.out)
                    have hRV := Lib.hid (fun (i : Nat) (cur : List Nat) (h : RevAt L a (t - a) i cur) (h1 : t - a ≤ 2 * i + 1) (h2 : 2 * i ≤ t - a) => RevAt.done h h1 h2 (by have := hT.lk; omega))
                    have HRS : Hid ((revS L a (t - a)).length = k ∧ ∀ x ∈ revS L a (t - a), x < k) := Lib.hid ⟨by rw [revS_len _ _ _ (by have := hT.lk; omega)]; exact hLl, revS_mem HLM.out _ _⟩
                    have HTW5 : Hid (RevAt L a (t - a) 0 L ∧ TwoS w w.heap.size wr (.slice (some ⟨g7, 0, none⟩) k c7) (.slice (some ⟨g4, 0, none⟩) k c4) L (lvlL lv k)) := Lib.hid ⟨RevAt.start _ _ _, HTW2.out⟩
                    clear HT HST hT HTW2
                    by_cases hat2 : a < t
                    · have hat3 : (a : Int) < (t : Int) := by omega
                      rw [if_pos hat2] at HNX2
                      go_wp2
                      go_loopw [13, 14] (fun v13 v14 wr => ∃ (i u : Nat) (cur : List Nat), u = a + i ∧ 2 * i ≤ t - a ∧ v13 = .int .i64 (u : Int) ∧ v14 = .int .i64 ((t : Int) - 1 - i) ∧ Hid (RevAt L a (t - a) i cur ∧ TwoS w w.heap.size wr (.slice (some ⟨g7, 0, none⟩) k c7) (.slice (some ⟨g4, 0, none⟩) k c4) cur (lvlL lv k))) (fun v _ _ => t - (intOf v).toNat)
                      case atStart => exact ⟨0, a, L, by omega, by omega, rfl, by go_num, HTW5⟩
                      case round =>
                        clear HTW5
                        obtain ⟨i, u, cur, hui, hiu, rfl, rfl, HC⟩ := hrel
                        obtain ⟨hC1, hC2⟩ := HC.out
                        by_cases hlt6 : 2 * i + 1 < t - a
                        · obtain ⟨e, he⟩ : ∃ e, e = t - 1 - i := ⟨_, rfl⟩
                          have hez : ((t : Int) - 1 - i) = (e : Int) := by omega
                          have hue : u < e := by omega
                          have hek : e < k := by omega
                          have hut : u < t := by omega
                          have huk : u < k := by omega
                          rw [hez]
                          obtain ⟨x, hx⟩ : ∃ x, cur[u]? = some x := ⟨_, List.getElem?_eq_getElem (by rw [hC1.1]; omega)⟩
                          obtain ⟨y, hy⟩ : ∃ y, cur[e]? = some y := ⟨_, List.getElem?_eq_getElem (by rw [hC1.1]; omega)⟩
                          have hst := hC1.step hlt6 (by omega) (x := x) (y := y) (by rw [← hui]; exact hx) (by rw [show a + (t - a) - 1 - i = e by omega]; exact hy)
                          rw [show a + (t - a) - 1 - i = e by omega, ← hui] at hst
                          obtain ⟨g, hg1, c1, f1, s1⟩ := hC2.set hx
                          cases hg1
                          obtain ⟨g', hg2, c2, f2, _⟩ := hC2.set hy
                          cases hg2
                          obtain ⟨g', hg3, c3, f3, s3⟩ := (s1 y).set (i := e) (x := y) (by rw [List.getElem?_set_ne (by omega)]; exact hy)
                          cases hg3
                          have HC2 := Lib.hid (And.intro hst (s3 x))
                          have HE := Lib.hid (And.intro he hui)
                          clear HC hC1 hC2 hst s1 s3 hx hy he hez hui
                          go_wp2
                          go_roundw
                          case rel => exact ⟨i + 1, u + 1, _, by have := HE.out.2; omega, by omega, by go_num, by have := HE.out.1; go_num, HC2⟩
                          case measure => simp [intOf] <;> omega
                        · have hlt7 : ¬ ((u : Int) < (t : Int) - 1 - i) := by omega
                          clear hui
                          have e1 := hRV.out i cur hC1 (by omega) (by omega)
                          rw [e1] at hC2
                          have HC2 := Lib.hid hC2
                          clear HC hC1 hC2 e1 hRV
                          go_wp2
                          go_roundw
                          case rel => exact ⟨t + 1, cn + 1, _, by omega, by go_num, by go_num, Lib.hid ⟨HNX2.out, HRS.out.1, HRS.out.2, HC2.out⟩⟩
                          case measure => simp [intOf] <;> omega
                    · obtain rfl : a = t := by omega
                      have hat3 : ¬ ((a : Int) < (a : Int)) := by omega
                      rw [if_neg hat2] at HNX2
                      have HZ : Hid (TwoS w w.heap.size wr (.slice (some ⟨g7, 0, none⟩) k c7) (.slice (some ⟨g4, 0, none⟩) k c4) (revS L a (a - a)) (lvlL lv k)) := Lib.hid (by
                        have := hRV.out 0 L HTW5.out.1 (by omega) (by omega)
                        rw [← this]; exact HTW5.out.2)
                      clear HTW5 hRV
                      go_wp2
                      go_loopw [13, 14] (fun v13 v14 wr2 => v13 = .int .i64 (a : Int) ∧ v14 = .int .i64 ((a : Int) - 1) ∧ wr2 = wr) (fun _ _ _ => 0)
                      case atStart => exact ⟨rfl, by go_num, rfl⟩
                      case round =>
                        obtain ⟨rfl, rfl, rfl⟩ := hrel
                        have hlt7 : ¬ ((a : Int) < (a : Int) - 1) := by omega
                        go_wp2
                        go_roundw
                        case rel => exact ⟨a + 1, cn, _, by omega, by go_num, rfl, Lib.hid ⟨HNX2.out, HRS.out.1, HRS.out.2, HZ.out⟩⟩
                        case measure => simp [intOf] <;> omega
                · have htk2 : t = k := by omega
                  have HST : Hid (t = L.length ∨ ∃ x, L[t]? = some x ∧ p x = false) := Lib.hid (.inl (by omega))
                  have hlt5' : ¬ ((t : Int) < (k : Int)) := by omega
                  clear htk2
                  have hT := HT.out
                  have HNX2 := Lib.hid (RdS.next hT hc0 HST.out)
                  have hRV := Lib.hid (fun (i : Nat) (cur : List Nat) (h : RevAt L a (t - a) i cur) (h1 : t - a ≤ 2 * i + 1) (h2 : 2 * i ≤ t - a) => RevAt.done h h1 h2 (by have := hT.lk; omega))
                  have HRS : Hid ((revS L a (t - a)).length = k ∧ ∀ x ∈ revS L a (t - a), x < k) := Lib.hid ⟨by rw [revS_len _ _ _ (by have := hT.lk; omega)]; exact hLl, revS_mem HLM.out _ _⟩
                  have HTW5 : Hid (RevAt L a (t - a) 0 L ∧ TwoS w w.heap.size wr (.slice A7 k c7) (.slice A4 k c4) L (lvlL lv k)) := Lib.hid ⟨RevAt.start _ _ _, HTW2.out⟩
                  clear HT HST hT HTW2
                  by_cases hat2 : a < t
                  · have hat3 : (a : Int) < (t : Int) := by omega
                    rw [if_pos hat2] at HNX2
                    go_wp2
                    go_loopw [13, 14] (fun v13 v14 wr => ∃ (i u : Nat) (cur : List Nat), u = a + i ∧ 2 * i ≤ t - a ∧ v13 = .int .i64 (u : Int) ∧ v14 = .int .i64 ((t : Int) - 1 - i) ∧ Hid (RevAt L a (t - a) i cur ∧ TwoS w w.heap.size wr (.slice A7 k c7) (.slice A4 k c4) cur (lvlL lv k))) (fun v _ _ => t - (intOf v).toNat)
                    case atStart => exact ⟨0, a, L, by omega, by omega, rfl, by go_num, HTW5⟩
                    case round =>
                      clear HTW5
                      obtain ⟨i, u, cur, hui, hiu, rfl, rfl, HC⟩ := hrel
                      obtain ⟨hC1, hC2⟩ := HC.out
                      by_cases hlt6 : 2 * i + 1 < t - a
                      · obtain ⟨e, he⟩ : ∃ e, e = t - 1 - i := ⟨_, rfl⟩
                        have hez : ((t : Int) - 1 - i) = (e : Int) := by omega
                        have hue : u < e := by omega
                        have hek : e < k := by omega
                        have hut : u < t := by omega
                        have huk : u < k := by omega
                        rw [hez]
                        obtain ⟨x, hx⟩ : ∃ x, cur[u]? = some x := ⟨_, List.getElem?_eq_getElem (by rw [hC1.1]; omega)⟩
                        obtain ⟨y, hy⟩ : ∃ y, cur[e]? = some y := ⟨_, List.getElem?_eq_getElem (by rw [hC1.1]; omega)⟩
                        have hst := hC1.step hlt6 (by omega) (x := x) (y := y) (by rw [← hui]; exact hx) (by rw [show a + (t - a) - 1 - i = e by omega]; exact hy)
                        rw [show a + (t - a) - 1 - i = e by omega, ← hui] at hst
                        obtain ⟨g, hg1, c1, f1, s1⟩ := hC2.set hx
                        cases hg1
                        obtain ⟨g', hg2, c2, f2, _⟩ := hC2.set hy
                        cases hg2
                        obtain ⟨g', hg3, c3, f3, s3⟩ := (s1 y).set (i := e) (x := y) (by rw [List.getElem?_set_ne (by omega)]; exact hy)
                        cases hg3
                        have HC2 := Lib.hid (And.intro hst (s3 x))
                        have HE := Lib.hid (And.intro he hui)
                        clear HC hC1 hC2 hst s1 s3 hx hy he hez hui
                        go_wp2
                        go_roundw
                        case rel => exact ⟨i + 1, u + 1, _, by have := HE.out.2; omega, by omega, by go_num, by have := HE.out.1; go_num, HC2⟩
                        case measure => simp [intOf] <;> omega
                      · have hlt7 : ¬ ((u : Int) < (t : Int) - 1 - i) := by omega
                        clear hui
                        have e1 := hRV.out i cur hC1 (by omega) (by omega)
                        rw [e1] at hC2
                        have HC2 := Lib.hid hC2
                        clear HC hC1 hC2 e1 hRV
                        go_wp2
                        go_roundw
                        case rel => exact ⟨t + 1, cn + 1, _, by omega, by go_num, by go_num, Lib.hid ⟨HNX2.out, HRS.out.1, HRS.out.2, HC2.out⟩⟩
                        case measure => simp [intOf] <;> omega
                  · obtain rfl : a = t := by omega
                    have hat3 : ¬ ((a : Int) < (a : Int)) := by omega
                    rw [if_neg hat2] at HNX2
                    have HZ : Hid (TwoS w w.heap.size wr (.slice A7 k c7) (.slice A4 k c4) (revS L a (a - a)) (lvlL lv k)) := Lib.hid (by
                      have := hRV.out 0 L HTW5.out.1 (by omega) (by omega)
                      rw [← this]; exact HTW5.out.2)
                    clear HTW5 hRV
                    go_wp2
                    go_loopw [13, 14] (fun v13 v14 wr2 => v13 = .int .i64 (a : Int) ∧ v14 = .int .i64 ((a : Int) - 1) ∧ wr2 = wr) (fun _ _ _ => 0)
                    case atStart => exact ⟨rfl, by go_num, rfl⟩
                    case round =>
                      obtain ⟨rfl, rfl, rfl⟩ := hrel
                      have hlt7 : ¬ ((a : Int) < (a : Int) - 1) := by omega
                      go_wp2
                      go_roundw
                      case rel => exact ⟨a + 1, cn, _, by omega, by go_num, rfl, Lib.hid ⟨HNX2.out, HRS.out.1, HRS.out.2, HZ.out⟩⟩
                      case measure => simp [intOf] <;> omega
            · have hlt4 : ¬ ((a : Int) < (k : Int)) := by omega
              obtain ⟨hR, hLl, hLm, hTw⟩ := HL.out
              obtain ⟨e1, e2⟩ := hR.end_ (by omega)
              rw [HTOT.out.2] at e1
              rw [HTOT.out.1] at e2
              rw [e1] at hTw
              have HTw := Lib.hid hTw
              have he2 := Lib.hid e2
              clear hR hLl hLm hTw e1 e2 HL HTOT
              go_wp2
              go_roundw
              case rel => exact ⟨l - 1, q + 1, cn, by omega, .inr (by omega), by go_num, rfl, he2, HTw⟩
              case measure => simp [intOf] <;> omega
        · have hlt2 : ¬ ((lo : Int) ≤ (l : Int)) := by omega
          have he : l + 1 = lo ∧ q = hi + 1 - lo ∨ hi + 1 - lo = 0 ∧ q = 0 := by omega
          have hT := HT.out
          have hC := HCC.out
          have e1 : rdsG lv (l + 1) q (List.range k) = rdsG lv lo (hi + 1 - lo) (List.range k) := by
            rcases he with ⟨e1, e2⟩ | ⟨e1, e2⟩
            · rw [e1, e2]
            · rw [e1, e2]; rfl
          have e2 : cR lv k (l + 1) q = cR lv k lo (hi + 1 - lo) := by
            rcases he with ⟨e1, e2⟩ | ⟨e1, e2⟩
            · rw [e1, e2]
            · rw [e1, e2]; rfl
          rw [e1] at hT
          rw [e2] at hC
          clear e1 e2 HT HCC he
          go_wp2
          go_ret2
          exact ⟨_, by rw [← hC]; rfl, hT.one, hT.bel⟩
end Go.Proofs.Ytnocdminhcpmpaa
