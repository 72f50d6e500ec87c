/-
  What a form's rune is: in range, and back to its bytes. Contracts of the document's rune1 and of the program's 'invalid'. No condition beside the library's tables.
-/
import Derived.Test.YtcegaelpbeefaaaDoorStand
set_option linter.unusedVariables false
set_option linter.unusedSimpArgs false
namespace Go.Proofs.YtcegaelpbeefaaaDoor
open Go.ChangeShapes Go.WideShapes Go.ChangeAt Go.RowKit

/-- what a form is, case by case -/
theorem stand_cases (n : Nat) (a b c d : Int) (h : (standN n a b c d).2 = true) (h0 : 0 ≤ a) (h1 : a ≤ 255) :
    ((standN n a b c d).1 = 1 ∧ a < 128) ∨ ((standN n a b c d).1 = 2 ∧ 2 ≤ n ∧ 194 ≤ a ∧ a < 224 ∧ 128 ≤ b ∧ b ≤ 191) ∨
    ((standN n a b c d).1 = 3 ∧ 3 ≤ n ∧ 224 ≤ a ∧ a < 240 ∧ loP a ≤ b ∧ b ≤ hiP a ∧ 128 ≤ c ∧ c ≤ 191) ∨
    ((standN n a b c d).1 = 4 ∧ 4 ≤ n ∧ 240 ≤ a ∧ a < 245 ∧ loP a ≤ b ∧ b ≤ hiP a ∧ 128 ≤ c ∧ c ≤ 191 ∧ 128 ≤ d ∧ d ≤ 191) := by
  have hl := stand_ok n a b c d h
  unfold standN at h ⊢
  have hc := longP_cases a
  have hr : (longP a = 1 → a < 128) ∧ (longP a = 2 → 194 ≤ a ∧ a < 224) ∧ (longP a = 3 → 224 ≤ a ∧ a < 240) ∧ (longP a = 4 → 240 ≤ a ∧ a < 245) := by
    unfold longP
    repeat' split
    all_goals omega
  obtain ⟨L, hL⟩ : ∃ L, longP a = L := ⟨_, rfl⟩
  rw [hL] at h hr hc hl ⊢
  rcases hc with rfl | rfl | rfl | rfl | rfl
  · simp at h
  · left; simp; omega
  · right; left
    by_cases q : n < 2 ∨ ¬ secP a b
    · simp [q] at h
    · have q1 : secP a b := by have := not_or.1 q; simpa using this.2
      have q2 : ¬ n < 2 := fun h => q (Or.inl h)
      have q3 := sec_ok a b q1
      unfold okP at q3
      simp [q1, q2]; omega
  · right; right; left
    by_cases q : n < 2 ∨ ¬ secP a b
    · simp [q] at h
    · have q1 : secP a b := by have := not_or.1 q; simpa using this.2
      have q2 : ¬ n < 2 := fun h => q (Or.inl h)
      by_cases p : n < 3 ∨ ¬ okP c
      · simp [q1, q2, p] at h
      · have p1 : okP c := by have := not_or.1 p; simpa using this.2
        have p2 : ¬ n < 3 := fun h => p (Or.inl h)
        simp [q1, q2, p1, p2]
        unfold secP at q1
        unfold okP at p1
        omega
  · right; right; right
    by_cases q : n < 2 ∨ ¬ secP a b
    · simp [q] at h
    · have q1 : secP a b := by have := not_or.1 q; simpa using this.2
      have q2 : ¬ n < 2 := fun h => q (Or.inl h)
      by_cases p : n < 3 ∨ ¬ okP c
      · simp [q1, q2, p] at h
      · have p1 : okP c := by have := not_or.1 p; simpa using this.2
        have p2 : ¬ n < 3 := fun h => p (Or.inl h)
        by_cases r : n < 4 ∨ ¬ okP d
        · simp [q1, q2, p1, p2, r] at h
        · have r1 : okP d := by have := not_or.1 r; simpa using this.2
          have r2 : ¬ n < 4 := fun h => r (Or.inl h)
          simp [q1, q2, p1, p2, r1, r2]
          unfold secP at q1
          unfold okP at p1 r1
          omega

theorem rune_back (n : Nat) (a b c d : Int) (h : (standN n a b c d).2 = true) (h0 : 0 ≤ a) (h1 : a ≤ 255) :
    Lib.validRune (runeN (standN n a b c d).1 a b c d) = true ∧ Lib.encodeRuneZ (runeN (standN n a b c d).1 a b c d) = [a, b, c, d].take (standN n a b c d).1 := by
  rcases stand_cases n a b c d h h0 h1 with ⟨e, q⟩ | ⟨e, q⟩ | ⟨e, q⟩ | ⟨e, q⟩
  · rw [e]
    simp only [runeN, if_true]
    refine ⟨decide_eq_true (by omega), ?_⟩
    rw [Lib.encodeRuneZ_one h0 (by omega)]
    rfl
  · rw [e]
    simp only [runeN, if_true, if_false, Nat.reduceEqDiff]
    refine ⟨decide_eq_true (by omega), ?_⟩
    rw [Lib.encodeRuneZ_two (by omega) (by omega)]
    simp only [List.take_succ_cons, List.take_zero, List.cons.injEq, and_true]
    omega
  · rw [e]
    simp only [runeN, if_true, if_false, Nat.reduceEqDiff]
    have hx : (2048 ≤ ((a - 224) * 64 + b - 128) * 64 + c - 128 ∧ ((a - 224) * 64 + b - 128) * 64 + c - 128 < 55296) ∨ (57343 < ((a - 224) * 64 + b - 128) * 64 + c - 128 ∧ ((a - 224) * 64 + b - 128) * 64 + c - 128 ≤ 65535) := by
      obtain ⟨_, q1, q2, q3, q4, q5, q6⟩ := q
      unfold loP at q3
      unfold hiP at q4
      (repeat' split at q3) <;> (repeat' split at q4) <;> omega
    refine ⟨decide_eq_true (by omega), ?_⟩
    rw [Lib.encodeRuneZ_three hx]
    have hb : 128 ≤ b ∧ b ≤ 191 := by
      obtain ⟨_, q1, q2, q3, q4, q5, q6⟩ := q
      unfold loP at q3
      unfold hiP at q4
      (repeat' split at q3) <;> (repeat' split at q4) <;> omega
    simp only [List.take_succ_cons, List.take_zero, List.cons.injEq, and_true]
    omega
  · rw [e]
    simp only [runeN, if_true, if_false, Nat.reduceEqDiff]
    have hx : 65536 ≤ (((a - 240) * 64 + b - 128) * 64 + c - 128) * 64 + d - 128 ∧ (((a - 240) * 64 + b - 128) * 64 + c - 128) * 64 + d - 128 ≤ 1114111 := by
      obtain ⟨_, q1, q2, q3, q4, q5, q6⟩ := q
      unfold loP at q3
      unfold hiP at q4
      (repeat' split at q3) <;> (repeat' split at q4) <;> omega
    refine ⟨decide_eq_true (by omega), ?_⟩
    rw [Lib.encodeRuneZ_four hx.1 hx.2]
    have hb : 128 ≤ b ∧ b ≤ 191 := by
      obtain ⟨_, q1, q2, q3, q4, q5, q6⟩ := q
      unfold loP at q3
      unfold hiP at q4
      (repeat' split at q3) <;> (repeat' split at q4) <;> omega
    simp only [List.take_succ_cons, List.take_zero, List.cons.injEq, and_true]
    omega

/-- a rune, byte by byte -/
def rkP (base : Int) (s : List Int) : Nat → Int
  | 0 => s.getD 0 0 - base
  | j + 1 => rkP base s j * 64 + s.getD (j + 1) 0 - 128
theorem rkP_range (base : Int) (s : List Int) (hb : ByteZ s) (h0 : 0 ≤ base) (h1 : base ≤ 240) (j : Nat) (hj : j ≤ 3) : -200000000 ≤ rkP base s j ∧ rkP base s j ≤ 200000000 := by
  have g0 := hb.get 0
  have g1 := hb.get 1
  have g2 := hb.get 2
  have g3 := hb.get 3
  have hc : j = 0 ∨ j = 1 ∨ j = 2 ∨ j = 3 := by omega
  rcases hc with rfl | rfl | rfl | rfl <;> simp only [rkP, Nat.reduceAdd] <;> omega

set_option maxHeartbeats 1000000 in
/-- the document's rune1 -/
theorem rune1_ok (A : Option Addr) (c : Nat) (s : List Int) (n : Nat) (w : World) (hz : ByteZ s) (hl : s.length = n) (h1 : 1 ≤ n) (h4 : n ≤ 4) (h : Has w w.heap.size A (s.map (Value.int .u8)))
    (R : Int) (hR : runeN n (s.getD 0 0) (s.getD 1 0) (s.getD 2 0) (s.getD 3 0) = R) (hr : 0 ≤ R ∧ R ≤ 1114111) :
    Calls Tryd.prog 36 #[.slice A n c] w fun e w' => e = .returned (.int .i32 R) ∧ w = w' := by
  obtain ⟨b, off, rfl, hb, hc⟩ := h.getD_cell (by intro e; rw [e] at hl; simp at hl; omega)
  obtain ⟨base, hbase⟩ : ∃ base : Int, base = if n = 1 then 0 else if n = 2 then 192 else if n = 3 then 224 else 240 := ⟨_, rfl⟩
  have hbr : 0 ≤ base ∧ base ≤ 240 := by rw [hbase]; (repeat' split) <;> omega
  have hfin : rkP base s (n - 1) = R := by
    rw [← hR, hbase]
    have hcs : n = 1 ∨ n = 2 ∨ n = 3 ∨ n = 4 := by omega
    rcases hcs with rfl | rfl | rfl | rfl <;> simp [rkP, runeN]
  have HF := Lib.hid hfin
  have HB := Lib.hid hz
  have hcc : ∀ j, j < n → w.cell? ⟨b, off + j, none⟩ = some (.int .u8 (s.getD j 0)) := fun j hj => hc j (by omega)
  have HC := Lib.hid hcc
  have c0 := hcc 0 (by omega)
  rw [Nat.add_zero] at c0
  have g0 := hz.get 0
  obtain ⟨X, hX⟩ : ∃ X, s.getD 0 0 = X := ⟨_, rfl⟩
  rw [hX] at c0 g0
  have H0 : Hid (rkP base s 0 = X - base) := Lib.hid (by show s.getD 0 0 - base = _; rw [hX])
  clear h hc hcc hfin hz hl hR hX
  have hcs : n = 1 ∨ n = 2 ∨ n = 3 ∨ n = 4 := by omega
  rcases hcs with rfl | rfl | rfl | rfl
  all_goals
    simp only [Nat.reduceEqDiff, if_true, if_false] at hbase
    have HBA := Lib.hid hbase
    clear h1 h4 hbase
    go_enter Tryd.func36, Tryd.ntmps36
    go_wp2
  · go_loop [3, 4] (fun v i => ∃ j : Nat, j + 1 ≤ 1 ∧ i = .int .i64 (j + 1) ∧ v = .int .i64 (rkP base s j)) (fun _ i => 10 - (intOf i).toNat)
    case atStart => exact ⟨0, by omega, by go_num, by rw [H0.out, HBA.out]; go_num⟩
    case round =>
      obtain ⟨j, hj, rfl, rfl⟩ := hrel
      by_cases hlt : j + 1 < 1
      · exfalso; omega
      · obtain rfl : j = 0 := by omega
        have e : rkP base s 0 = R := HF.out
        rw [e]
        clear e
        go_wp2
        go_ret
        exact ⟨rfl, rfl⟩
  · go_loop [3, 4] (fun v i => ∃ j : Nat, j + 1 ≤ 2 ∧ i = .int .i64 (j + 1) ∧ v = .int .i64 (rkP base s j)) (fun _ i => 10 - (intOf i).toNat)
    case atStart => exact ⟨0, by omega, by go_num, by rw [H0.out, HBA.out]⟩
    case round =>
      obtain ⟨j, hj, rfl, rfl⟩ := hrel
      by_cases hlt : j + 1 < 2
      · have hcell := HC.out (j + 1) hlt
        have hr := rkP_range base s HB.out hbr.1 hbr.2 j (by omega)
        have HS : Hid (rkP base s (j + 1) = rkP base s j * 64 + s.getD (j + 1) 0 - 128) := Lib.hid rfl
        have hy := HB.out.get (j + 1)
        obtain ⟨Y, hY⟩ : ∃ Y, s.getD (j + 1) 0 = Y := ⟨_, rfl⟩
        obtain ⟨Z, hZ⟩ : ∃ Z, rkP base s j = Z := ⟨_, rfl⟩
        rw [hY] at hcell hy
        rw [hZ] at hr ⊢
        have HY := Lib.hid hY
        have HZ := Lib.hid hZ
        clear hY hZ
        have hj1 : (j : Int) + 1 < 2 := by omega
        go_wp2
        go_round
        case rel => exact ⟨j + 1, by omega, by go_num, by rw [HS.out, HY.out, HZ.out]⟩
        case measure => simp [intOf]; omega
      · obtain rfl : j = 1 := by omega
        have e : rkP base s 1 = R := HF.out
        rw [e]
        clear e
        go_wp2
        go_ret
        exact ⟨rfl, rfl⟩
  · go_loop [3, 4] (fun v i => ∃ j : Nat, j + 1 ≤ 3 ∧ i = .int .i64 (j + 1) ∧ v = .int .i64 (rkP base s j)) (fun _ i => 10 - (intOf i).toNat)
    case atStart => exact ⟨0, by omega, by go_num, by rw [H0.out, HBA.out]⟩
    case round =>
      obtain ⟨j, hj, rfl, rfl⟩ := hrel
      by_cases hlt : j + 1 < 3
      · have hcell := HC.out (j + 1) hlt
        have hr := rkP_range base s HB.out hbr.1 hbr.2 j (by omega)
        have HS : Hid (rkP base s (j + 1) = rkP base s j * 64 + s.getD (j + 1) 0 - 128) := Lib.hid rfl
        have hy := HB.out.get (j + 1)
        obtain ⟨Y, hY⟩ : ∃ Y, s.getD (j + 1) 0 = Y := ⟨_, rfl⟩
        obtain ⟨Z, hZ⟩ : ∃ Z, rkP base s j = Z := ⟨_, rfl⟩
        rw [hY] at hcell hy
        rw [hZ] at hr ⊢
        have HY := Lib.hid hY
        have HZ := Lib.hid hZ
        clear hY hZ
        have hj1 : (j : Int) + 1 < 3 := by omega
        go_wp2
        go_round
        case rel => exact ⟨j + 1, by omega, by go_num, by rw [HS.out, HY.out, HZ.out]⟩
        case measure => simp [intOf]; omega
      · obtain rfl : j = 2 := by omega
        have e : rkP base s 2 = R := HF.out
        rw [e]
        clear e
        go_wp2
        go_ret
        exact ⟨rfl, rfl⟩
  · go_loop [3, 4] (fun v i => ∃ j : Nat, j + 1 ≤ 4 ∧ i = .int .i64 (j + 1) ∧ v = .int .i64 (rkP base s j)) (fun _ i => 10 - (intOf i).toNat)
    case atStart => exact ⟨0, by omega, by go_num, by rw [H0.out, HBA.out]⟩
    case round =>
      obtain ⟨j, hj, rfl, rfl⟩ := hrel
      by_cases hlt : j + 1 < 4
      · have hcell := HC.out (j + 1) hlt
        have hr := rkP_range base s HB.out hbr.1 hbr.2 j (by omega)
        have HS : Hid (rkP base s (j + 1) = rkP base s j * 64 + s.getD (j + 1) 0 - 128) := Lib.hid rfl
        have hy := HB.out.get (j + 1)
        obtain ⟨Y, hY⟩ : ∃ Y, s.getD (j + 1) 0 = Y := ⟨_, rfl⟩
        obtain ⟨Z, hZ⟩ : ∃ Z, rkP base s j = Z := ⟨_, rfl⟩
        rw [hY] at hcell hy
        rw [hZ] at hr ⊢
        have HY := Lib.hid hY
        have HZ := Lib.hid hZ
        clear hY hZ
        have hj1 : (j : Int) + 1 < 4 := by omega
        go_wp2
        go_round
        case rel => exact ⟨j + 1, by omega, by go_num, by rw [HS.out, HY.out, HZ.out]⟩
        case measure => simp [intOf]; omega
      · obtain rfl : j = 3 := by omega
        have e : rkP base s 3 = R := HF.out
        rw [e]
        clear e
        go_wp2
        go_ret
        exact ⟨rfl, rfl⟩

theorem getD_take (s : List Int) (k j : Nat) (h : j < k) : (s.take k).getD j 0 = s.getD j 0 := by
  simp [List.getD_eq_getElem?_getD, List.getElem?_take, h]
theorem trunc_take (u : List Int) (k : Nat) (h1 : 1 ≤ k) (hk : k < u.length) : truncP (u.take (k + 1)) = truncN (k + 1) (u.getD 0 0) (u.getD 1 0) (u.getD 2 0) := by
  unfold truncP
  have hl : (u.take (k + 1)).length = k + 1 := by rw [List.length_take]; omega
  rw [hl, getD_take u (k + 1) 0 (by omega), getD_take u (k + 1) 1 (by omega)]
  by_cases h2 : 2 < k + 1
  · rw [getD_take u (k + 1) 2 h2]
  · unfold truncN
    apply decide_eq_decide.2
    exact ⟨fun ⟨a, b, c⟩ => ⟨a, b, fun h => absurd h h2⟩, fun ⟨a, b, c⟩ => ⟨a, b, fun h => absurd h h2⟩⟩
theorem Has.take {w : World} {B : Nat} {A : Option Addr} {q : IntKind} {s : List Int} (h : Has w B A (s.map (Value.int q))) (k : Nat) : Has w B A ((s.take k).map (Value.int q)) := fun hne => by
  have hne' : s.map (Value.int q) ≠ [] := by intro e; apply hne; simp at e; simp [e]
  obtain ⟨b, off, e, hl, hc⟩ := h hne'
  refine ⟨b, off, e, hl, fun j u hu => hc j u ?_⟩
  rw [List.map_take, List.getElem?_take] at hu
  split at hu
  · exact hu
  · cases hu
theorem Has.drop {w : World} {B : Nat} {b off : Nat} {q : IntKind} {s : List Int} (h : Has w B (some ⟨b, off, none⟩) (s.map (Value.int q))) (k : Nat) : Has w B (some ⟨b, off + k, none⟩) ((s.drop k).map (Value.int q)) := fun hne => by
  have hne' : s.map (Value.int q) ≠ [] := by intro e; apply hne; simp at e; simp [e]
  obtain ⟨b', off', e, hl, hc⟩ := h hne'
  injection e with e; injection e with e1 e2; subst e1; subst e2
  refine ⟨b, off + k, rfl, hl, fun j u hu => ?_⟩
  rw [Nat.add_assoc]
  apply hc
  rw [List.map_drop, List.getElem?_drop] at hu
  exact hu

set_option maxHeartbeats 1000000 in
/-- the program's 'invalid' -/
theorem invalid_ok (A : Option Addr) (c : Nat) (u : List Int) (w : World) (hn : u.length ≤ 1000000000) (hc : u.length ≤ c) (hT : Lib.Utf8Tabs 0 1 w) (hz : ByteZ u) (hne : u ≠ []) (h : Has w w.heap.size A (u.map (Value.int .u8))) (hbad : (standP u).2 = false) :
    Calls Tryd.prog 37 #[.slice A u.length c] w fun e w' => e = .returned (.int .i64 (standP u).1) ∧ Below w.heap.size w w' := by
  have hp := standP_pos u
  have hle := standP_le u hne
  obtain ⟨K, hK⟩ : ∃ K, (standP u).1 = K := ⟨_, rfl⟩
  have HK := Lib.hid hK
  have HB := Lib.hid hbad
  have HZ := Lib.hid hz
  rw [hK] at hp hle ⊢
  clear hK hbad hz
  go_enter Tryd.func37, Tryd.ntmps37
  go_wp2
  go_loopw [3] (fun i wr => ∃ k : Nat, 1 ≤ k ∧ k ≤ K ∧ i = .int .i64 k ∧ Below w.heap.size w wr) (fun i _ => 10 - (intOf i).toNat)
  case atStart => exact ⟨1, by omega, by omega, by go_num, Below.refl _ _⟩
  case round =>
    obtain ⟨k, hk1, hk2, rfl, hbl⟩ := hrel
    by_cases hlt : k < u.length
    · have hE : (standN u.length (u.getD 0 0) (u.getD 1 0) (u.getD 2 0) (u.getD 3 0)).1 = K := HK.out
      have HT := Lib.hid ((trunc_take u k hk1 hlt).trans (trunc_next u.length k _ _ _ _ HB.out hk1 (by rw [hE]; exact hk2) hlt))
      have HT2 : Hid (truncP (u.take (k + 1)) = decide (k + 1 ≤ K)) := by have := HT.out; rw [hE] at this; exact this
      have ct := truncated_ok A c (u.take (k + 1)) _ (tabs_below hT hbl) (HZ.out.take _) (by intro e; have := congrArg List.length e; rw [List.length_take, List.length_nil] at this; omega) ((h.carry hbl).take (k + 1))
      have hl : (u.take (k + 1)).length = k + 1 := by rw [List.length_take]; omega
      rw [hl, HT2.out] at ct
      have hk3 : (k : Int) + 1 ≤ c := by omega
      clear hE hl HT
      by_cases hin : k + 1 ≤ K
      · simp only [hin, decide_true] at ct
        go_wp2_with (go_at_call 33; refine ct.mono ?_; rintro e w2 ⟨rfl, hb2⟩)
        go_roundw
        case rel => exact ⟨k + 1, by omega, by omega, by go_num, below_trans hbl hb2 hbl.size⟩
        case measure => simp [intOf]; omega
      · simp only [hin, decide_false] at ct
        obtain rfl : k = K := by omega
        go_wp2_with (go_at_call 33; refine ct.mono ?_; rintro e w2 ⟨rfl, hb2⟩)
        go_ret
        exact ⟨rfl, below_trans hbl hb2 hbl.size⟩
    · obtain rfl : k = K := by omega
      go_wp2
      go_ret
      exact ⟨rfl, hbl⟩
end Go.Proofs.YtcegaelpbeefaaaDoor
