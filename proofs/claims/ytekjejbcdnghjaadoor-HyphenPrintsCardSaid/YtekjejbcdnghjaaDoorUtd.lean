/-
  UTF-8, the document's: Decode, at any bytes. No condition but that there are at most a million.
-/
import Derived.Test.YtekjejbcdnghjaaDoorUtc
set_option linter.unusedVariables false
set_option linter.unusedSimpArgs false
namespace Go.Proofs.YtekjejbcdnghjaaDoor
open Go.ChangeShapes Go.WideShapes Go.ChangeAt Go.RowKit
theorem decG_ok (k : Nat) (s : List Int) (p : Nat) (t : List Int) (hp : p < s.length) (h : (standP (s.drop p)).2 = true) : decG (k + 1) s p t = decG k s (p + (standP (s.drop p)).1) (t ++ [runeP (s.drop p)]) := by
  rw [decG, if_pos hp, if_pos h]
theorem decG_bad (k : Nat) (s : List Int) (p : Nat) (t : List Int) (hp : p < s.length) (h : (standP (s.drop p)).2 = false) : decG (k + 1) s p t = ([], p, if truncP (s.drop p) = true then 4 else 3) := by
  rw [decG, if_pos hp, if_neg (by rw [h]; simp)]
theorem decG_end (k : Nat) (s : List Int) (t : List Int) : decG (k + 1) s s.length t = (t, s.length, 0) := by
  rw [decG, if_neg (by omega)]
theorem rest_facts (s : List Int) (p : Nat) (hp : p < s.length) : s.drop p ≠ [] ∧ (s.drop p).length = s.length - p ∧ p + (standP (s.drop p)).1 ≤ s.length := by
  have h1 : (s.drop p).length = s.length - p := List.length_drop
  have h2 : s.drop p ≠ [] := by intro e; rw [e] at h1; simp at h1; omega
  have h3 := standP_le (s.drop p) h2
  exact ⟨h2, h1, by omega⟩
theorem bad_trunc_n (n : Nat) (a b c d : Int) (h : (standN n a b c d).2 = false) (hn : 1 ≤ n) : truncN n a b c = decide ((standN n a b c d).1 = n ∧ ((standN n a b c d).1 : Int) < longP a) := by
  unfold truncN
  apply decide_eq_decide.2
  unfold standN at h ⊢
  have hc := longP_cases a
  obtain ⟨L, hL⟩ : ∃ L, longP a = L := ⟨_, rfl⟩
  rw [hL] at h hc ⊢
  by_cases s2 : secP a b
  · by_cases s3 : okP c
    · by_cases s4 : okP d
      · rcases hc with rfl | rfl | rfl | rfl | rfl
        · simp; intro h; exfalso; omega
        · simp at h
        all_goals
          simp [s2, s3, s4] at h ⊢
          (repeat' split at h) <;> simp_all <;> (repeat' split) <;> omega
      · rcases hc with rfl | rfl | rfl | rfl | rfl
        · simp; intro h; exfalso; omega
        · simp at h
        all_goals
          simp [s2, s3, s4] at h ⊢
          (repeat' split at h) <;> simp_all <;> (repeat' split) <;> omega
    · rcases hc with rfl | rfl | rfl | rfl | rfl
      · simp; intro h; exfalso; omega
      · simp at h
      all_goals
        simp [s2, s3] at h ⊢
        (repeat' split at h) <;> simp_all <;> (repeat' split) <;> omega
  · rcases hc with rfl | rfl | rfl | rfl | rfl
    · simp; intro h; exfalso; omega
    · simp at h
    all_goals
      simp [s2] at h ⊢
      omega
theorem bad_trunc (s : List Int) (p : Nat) (hp : p < s.length) (h : (standP (s.drop p)).2 = false) : truncP (s.drop p) = decide (p + (standP (s.drop p)).1 = s.length ∧ ((standP (s.drop p)).1 : Int) < longP (s.getD p 0)) := by
  have hl : (s.drop p).length = s.length - p := List.length_drop
  have := bad_trunc_n (s.drop p).length _ _ _ _ h (by omega)
  have e0 : (s.drop p).getD 0 0 = s.getD p 0 := by rw [getD_drop]; rfl
  unfold truncP
  rw [this]
  apply decide_eq_decide.2
  rw [e0, hl]
  have e1 : (standN (s.length - p) (s.getD p 0) ((s.drop p).getD 1 0) ((s.drop p).getD 2 0) ((s.drop p).getD 3 0)).1 = (standP (s.drop p)).1 := by unfold standP; rw [e0, hl]
  rw [e1]
  omega
theorem rune_take (u : List Int) (hz : ByteZ u) (h : (standP u).2 = true) :
    runeN (standP u).1 ((u.take (standP u).1).getD 0 0) ((u.take (standP u).1).getD 1 0) ((u.take (standP u).1).getD 2 0) ((u.take (standP u).1).getD 3 0) = runeP u ∧ 0 ≤ runeP u ∧ runeP u ≤ 1114111 := by
  have hp := standP_pos u
  have hb := rune_back _ _ _ _ _ h (hz.get 0).1 (hz.get 0).2
  have hv := valid_range hb.1
  refine ⟨?_, hv⟩
  unfold runeP
  obtain ⟨N, hN⟩ : ∃ N, (standP u).1 = N := ⟨_, rfl⟩
  rw [hN] at hp ⊢
  have hc : N = 1 ∨ N = 2 ∨ N = 3 ∨ N = 4 := by omega
  rcases hc with rfl | rfl | rfl | rfl
  · simp only [runeN, if_true]; rw [getD_take u 1 0 (by omega)]
  · simp only [runeN, if_true, if_false, Nat.reduceEqDiff]; rw [getD_take u 2 0 (by omega), getD_take u 2 1 (by omega)]
  · simp only [runeN, if_true, if_false, Nat.reduceEqDiff]; rw [getD_take u 3 0 (by omega), getD_take u 3 1 (by omega), getD_take u 3 2 (by omega)]
  · simp only [runeN, if_true, if_false, Nat.reduceEqDiff]; rw [getD_take u 4 0 (by omega), getD_take u 4 1 (by omega), getD_take u 4 2 (by omega), getD_take u 4 3 (by omega)]
set_option maxHeartbeats 2000000 in
theorem refDecode_ok (A : Option Addr) (c : Nat) (s : List Int) (w : World) (hn : s.length ≤ 1000000) (hc : s.length ≤ c) (hz : ByteZ s) (h : Has w w.heap.size A (s.map (Value.int .u8))) :
    Calls Tryd.prog 31 #[.slice A s.length c] w fun e w' => TripleOf .i32 w w' e (decP s) := by
  have HZ := Lib.hid hz
  clear hz
  go_enter Tryd.func31, Tryd.ntmps31
  go_wp2
  go_loopw [5, 6] (fun v i wr => ∃ (k p : Nat) (xs : List Int), p ≤ s.length ∧ xs.length ≤ p ∧ s.length < k + p ∧ i = .int .i64 p ∧ Mine .i32 21 wr w.heap.size v xs ∧ Below w.heap.size w wr ∧ Hid (decP s = decG k s p xs)) (fun _ i _ => s.length - (intOf i).toNat)
  case atStart => exact ⟨s.length + 1, 0, [], by omega, by simp, by omega, rfl, Mine.nil_ _ _ _ _, Below.refl _ _, Lib.hid rfl⟩
  case round =>
    obtain ⟨k, p, xs, hp, hxs, hk, rfl, hown, hbl, HG⟩ := hrel
    obtain ⟨k, rfl⟩ : ∃ k', k = k' + 1 := ⟨k - 1, by omega⟩
    have hsz := hbl.size
    by_cases hlt : p < s.length
    · have hw := h.carry hbl
      obtain ⟨b, off, hA, hb, hcc⟩ := hw.getD_cell (s := s) (by intro e; rw [e] at hlt; simp at hlt)
      have hcell := hcc p hlt
      have cs := stands_ok A c s p _ (by omega) HZ.out hlt hw
      subst hA
      obtain ⟨hne, hul, hpn⟩ := rest_facts s p hlt
      have hpos := standP_pos (s.drop p)
      have hcp : ¬ c = p := by omega
      have hu := hw.dropI p
      have HOK := fun q => Lib.hid (HG.out.trans (decG_ok k s p xs hlt q))
      have HBAD := fun q => Lib.hid (HG.out.trans (decG_bad k s p xs hlt q))
      have HTR := fun q => Lib.hid (bad_trunc s p hlt q)
      have HRT := fun q => Lib.hid (rune_take (s.drop p) (HZ.out.drop p) q)
      have hx := HZ.out.get p
      obtain ⟨X, hX⟩ : ∃ X, s.getD p 0 = X := ⟨_, rfl⟩
      obtain ⟨N, hN⟩ : ∃ N, (standP (s.drop p)).1 = N := ⟨_, rfl⟩
      obtain ⟨R, hR⟩ : ∃ R, runeP (s.drop p) = R := ⟨_, rfl⟩
      obtain ⟨T, hTr⟩ : ∃ T, truncP (s.drop p) = T := ⟨_, rfl⟩
      obtain ⟨O, hO⟩ : ∃ O, (standP (s.drop p)).2 = O := ⟨_, rfl⟩
      rw [hX] at hcell hx
      rw [hN] at hpos hpn
      simp only [hN, hR, hO] at cs HOK HRT
      simp only [hTr, hO] at HBAD
      simp only [hX, hN, hTr, hO] at HTR
      have HU := Lib.hid hu
      have HNE := Lib.hid hne
      have HUL := Lib.hid hul
      have cl := fun w => long_ok X w
      obtain ⟨L, hL⟩ : ∃ L, longP X = L := ⟨_, rfl⟩
      simp only [hL] at cl HTR
      have HD := Lib.hid (HZ.out.drop p)
      clear h hcc hu hne hul hN hR hTr hO HG hw hL hX
      cases O
      · have HB := HBAD rfl
        have HT := HTR rfl
        clear HOK HBAD HTR HRT
        by_cases q1 : p + N = s.length
        · have q1' : (p : Int) + N = s.length := by omega
          by_cases q2 : (N : Int) < L
          · have q2' : L > (N : Int) := q2
            have hd : decP s = ([], p, 4) := by rw [HB.out, HT.out, decide_eq_true ⟨q1, q2⟩]; rfl
            have HD2 := Lib.hid hd
            clear hd hown
            go_wp2_with (first
              | (go_at_call 51; refine cs.mono ?_; rintro e w2 ⟨rfl, rfl⟩)
              | (go_at_call 52; refine (cl _).mono ?_; rintro e w3 ⟨rfl, rfl⟩))
            go_ret3
            rw [HD2.out]
            exact ⟨_, rfl, sliceV_nil _ _ _ hbl⟩
          · have q2' : ¬ L > (N : Int) := q2
            have hd : decP s = ([], p, 3) := by rw [HB.out, HT.out, decide_eq_false (fun h => q2 h.2)]; rfl
            have HD2 := Lib.hid hd
            clear hd hown
            go_wp2_with (first
              | (go_at_call 51; refine cs.mono ?_; rintro e w2 ⟨rfl, rfl⟩)
              | (go_at_call 52; refine (cl _).mono ?_; rintro e w3 ⟨rfl, rfl⟩))
            go_ret3
            rw [HD2.out]
            exact ⟨_, rfl, sliceV_nil _ _ _ hbl⟩
        · have q1' : ¬ (p : Int) + N = s.length := by omega
          have hd : decP s = ([], p, 3) := by rw [HB.out, HT.out, decide_eq_false (fun h => q1 h.1)]; rfl
          have HD2 := Lib.hid hd
          clear hd hown
          go_wp2_with (first
            | (go_at_call 51; refine cs.mono ?_; rintro e w2 ⟨rfl, rfl⟩)
            | (go_at_call 52; refine (cl _).mono ?_; rintro e w3 ⟨rfl, rfl⟩))
          go_ret3
          rw [HD2.out]
          exact ⟨_, rfl, sliceV_nil _ _ _ hbl⟩
      · have HO := HOK rfl
        have HR := HRT rfl
        have hpc : p + N ≤ c := by omega
        have cr := rune1_ok (some ⟨b, off + p, none⟩) (c - p) ((s.drop p).take N) N _ (HD.out.take N) (by rw [List.length_take, HUL.out]; omega) hpos.1 hpos.2 (HU.out.takeI N) R HR.out.1 HR.out.2
        clear HOK HBAD HTR HRT hcell
        go_wp2_with (first
          | (go_at_call 51; refine cs.mono ?_; rintro e w2 ⟨rfl, rfl⟩)
          | (go_at_call 53; refine cr.mono ?_; rintro e w3 ⟨rfl, rfl⟩)
          | (at_builtin; refine wpList_push rfl _ _ 22 rfl Tryd.underlying22 infoI32 (by omega) w.heap.size _ xs R w _ hown rfl rfl hbl hsz (by omega) ?_; intro v' w1 hown' hbl'))
        go_roundw
        case rel => exact ⟨k, p + N, xs ++ [R], by omega, by simp; omega, by omega, by go_num, hown', hbl', HO⟩
        case measure => simp [intOf]; omega
    · obtain rfl : p = s.length := by omega
      have HE := Lib.hid (HG.out.trans (decG_end k s xs))
      go_wp2
      go_ret3
      have hd : decP s = (xs, s.length, 0) := HE.out
      rw [hd]
      exact ⟨_, rfl, hown.sliceV hbl⟩
end Go.Proofs.YtekjejbcdnghjaaDoor
