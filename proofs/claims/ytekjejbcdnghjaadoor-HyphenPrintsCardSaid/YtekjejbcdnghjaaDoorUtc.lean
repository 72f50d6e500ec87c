/-
  UTF-8, the document's: Stands and rune1, at any bytes. No condition.
-/
import Derived.Test.YtekjejbcdnghjaaDoorUtb
set_option linter.unusedVariables false
set_option linter.unusedSimpArgs false
namespace Go.Proofs.YtekjejbcdnghjaaDoor
open Go.ChangeShapes Go.WideShapes Go.ChangeAt Go.RowKit
def goodAt (a : Int) (j : Nat) (c : Int) : Prop := (j = 1 → secP a c) ∧ okP c
theorem sec_ok (a c : Int) (h : secP a c) : okP c := by
  unfold secP loP hiP at h
  unfold okP
  (repeat' split at h) <;> omega
theorem getD_drop (s : List Int) (k j : Nat) : (s.drop k).getD j 0 = s.getD (k + j) 0 := by simp [List.getD_eq_getElem?_getD]
theorem stand_end_n (n k : Nat) (a b c d : Int) (h1 : 1 ≤ k) (hm : k ≤ n) (hl : (k : Int) ≤ longP a) (g1 : 1 < k → secP a b) (g2 : 2 < k → okP c) (g3 : 3 < k → okP d) (he : (k : Int) = longP a ∨ k = n) :
    standN n a b c d = (k, decide ((k : Int) = longP a)) := by
  unfold standN
  obtain ⟨L, hL⟩ : ∃ L, longP a = L := ⟨_, rfl⟩
  have hc := longP_cases a
  rw [hL] at hl he hc ⊢
  have hk : k = 1 ∨ k = 2 ∨ k = 3 ∨ k = 4 := by omega
  rcases hk with rfl | rfl | rfl | rfl
  · rcases hc with rfl | rfl | rfl | rfl | rfl
    · omega
    · simp
    all_goals
      have h2 : n < 2 := by omega
      simp [h2]
  · have s1 := g1 (by omega)
    have h2 : ¬ n < 2 := by omega
    rcases hc with rfl | rfl | rfl | rfl | rfl
    · omega
    · omega
    · simp [h2, s1]
    all_goals
      have h3 : n < 3 := by omega
      simp [h2, h3, s1]
  · have s1 := g1 (by omega)
    have s2 := g2 (by omega)
    have h2 : ¬ n < 2 := by omega
    have h3 : ¬ n < 3 := by omega
    rcases hc with rfl | rfl | rfl | rfl | rfl
    · omega
    · omega
    · omega
    · simp [h2, h3, s1, s2]
    · have h4 : n < 4 := by omega
      simp [h2, h3, h4, s1, s2]
  · have s1 := g1 (by omega)
    have s2 := g2 (by omega)
    have s3 := g3 (by omega)
    have h2 : ¬ n < 2 := by omega
    have h3 : ¬ n < 3 := by omega
    have h4 : ¬ n < 4 := by omega
    rcases hc with rfl | rfl | rfl | rfl | rfl
    · omega
    · omega
    · omega
    · omega
    · simp [h2, h3, h4, s1, s2, s3]
theorem stand_bad_n (n k : Nat) (a b c d : Int) (h1 : 1 ≤ k) (hm : k < n) (hl : (k : Int) < longP a) (g1 : 1 < k → secP a b) (g2 : 2 < k → okP c) (b1 : k = 1 → ¬ secP a b) (b2 : k = 2 → ¬ okP c) (b3 : k = 3 → ¬ okP d) :
    standN n a b c d = (k, false) := by
  unfold standN
  obtain ⟨L, hL⟩ : ∃ L, longP a = L := ⟨_, rfl⟩
  have hc := longP_cases a
  rw [hL] at hl hc ⊢
  have hk : k = 1 ∨ k = 2 ∨ k = 3 := by omega
  rcases hk with rfl | rfl | rfl
  · have s1 := b1 rfl
    rcases hc with rfl | rfl | rfl | rfl | rfl <;> first | (exfalso; omega) | simp [s1]
  · have s1 := g1 (by omega)
    have s2 := b2 rfl
    have h2 : ¬ n < 2 := by omega
    rcases hc with rfl | rfl | rfl | rfl | rfl <;> first | (exfalso; omega) | simp [s1, s2, h2]
  · have s1 := g1 (by omega)
    have s2 := g2 (by omega)
    have s3 := b3 rfl
    have h2 : ¬ n < 2 := by omega
    have h3 : ¬ n < 3 := by omega
    rcases hc with rfl | rfl | rfl | rfl | rfl <;> first | (exfalso; omega) | simp [s1, s2, s3, h2, h3]
theorem stand_end (u : List Int) (k : Nat) (h1 : 1 ≤ k) (hm : k ≤ u.length) (hl : (k : Int) ≤ longP (u.getD 0 0)) (hg : ∀ j, 1 ≤ j → j < k → goodAt (u.getD 0 0) j (u.getD j 0)) (he : (k : Int) = longP (u.getD 0 0) ∨ k = u.length) :
    standP u = (k, decide ((k : Int) = longP (u.getD 0 0))) :=
  stand_end_n u.length k _ _ _ _ h1 hm hl (fun h => (hg 1 (by omega) h).1 rfl) (fun h => (hg 2 (by omega) h).2) (fun h => (hg 3 (by omega) h).2) he
theorem stand_bad (u : List Int) (k : Nat) (h1 : 1 ≤ k) (hm : k < u.length) (hl : (k : Int) < longP (u.getD 0 0)) (hg : ∀ j, 1 ≤ j → j < k → goodAt (u.getD 0 0) j (u.getD j 0)) (hb : ¬ goodAt (u.getD 0 0) k (u.getD k 0)) :
    standP u = (k, false) :=
  stand_bad_n u.length k _ _ _ _ h1 hm hl (fun h => (hg 1 (by omega) h).1 rfl) (fun h => (hg 2 (by omega) h).2)
    (fun e h => hb (by subst e; exact ⟨fun _ => h, sec_ok _ _ h⟩)) (fun e h => hb (by subst e; exact ⟨fun h => by omega, h⟩)) (fun e h => hb (by subst e; exact ⟨fun h => by omega, h⟩))
theorem stand_none (u : List Int) (h : longP (u.getD 0 0) = 0) : standP u = (1, false) := by
  unfold standP standN
  rw [if_pos h]
set_option maxHeartbeats 2000000 in
/-- the document's Stands -/
theorem stands_ok (A : Option Addr) (c : Nat) (s : List Int) (p : Nat) (w : World) (hn : s.length ≤ 1000000000) (hz : ByteZ s) (hp : p < s.length) (h : Has w w.heap.size A (s.map (Value.int .u8))) :
    Calls Tryd.prog 51 #[.slice A s.length c, .int .i64 p] w fun e w' => e = .returned (.tuple #[.int .i64 (standP (s.drop p)).1, .bool (standP (s.drop p)).2]) ∧ w = w' := by
  obtain ⟨b, off, rfl, hb, hc⟩ := h.getD_cell (by intro e; rw [e] at hp; simp at hp)
  clear h
  obtain ⟨u, hu⟩ : ∃ u, s.drop p = u := ⟨_, rfl⟩
  have hul : u.length = s.length - p := by rw [← hu]; simp
  have hcu : ∀ j, j < u.length → w.cell? ⟨b, off + (p + j), none⟩ = some (.int .u8 (u.getD j 0)) := fun j hj => by
    rw [hc (p + j) (by omega), ← hu, getD_drop]
  rw [hu]
  obtain ⟨X, hX⟩ : ∃ X, u.getD 0 0 = X := ⟨_, rfl⟩
  have h0 := hcu 0 (by omega)
  rw [hX, Nat.add_zero] at h0
  have hbu : ByteZ u := by rw [← hu]; exact hz.drop p
  have hx0 := hbu.get 0
  rw [hX] at hx0
  have HB := Lib.hid hbu
  obtain ⟨R, hR⟩ : ∃ R, standP u = R := ⟨_, rfl⟩
  obtain ⟨r1, r2⟩ := R
  rw [hR]
  have HR := Lib.hid hR
  have HX := Lib.hid hX
  have HU := Lib.hid hul
  have HLEN := Lib.hid (show (p : Int) + u.length = s.length by omega)
  have hpos : 1 ≤ u.length := by omega
  have HC := Lib.hid hcu
  obtain ⟨L, hL⟩ : ∃ L, longP X = L := ⟨_, rfl⟩
  have HL := Lib.hid hL
  have hLr : 0 ≤ L ∧ L ≤ 4 := by have := longP_cases X; omega
  have cl := fun w => long_ok X w
  rw [hL] at cl
  clear hc hu hcu hX hR hul hL hbu hz
  by_cases hz : L = 0
  · have e := HR.out
    rw [stand_none u (by rw [HX.out, HL.out]; exact hz)] at e
    injection e with e1 e2
    subst e1; subst e2; subst hz
    go_enter Tryd.func51, Tryd.ntmps51
    go_wp2_with (go_at_call 52; refine (cl _).mono ?_; rintro e w' ⟨rfl, rfl⟩)
    go_ret2
    exact ⟨rfl, rfl⟩
  · have hzb : (L == (0 : Int)) = false := by simpa using hz
    go_enter Tryd.func51, Tryd.ntmps51
    go_wp2_with (go_at_call 52; refine (cl _).mono ?_; rintro e w' ⟨rfl, rfl⟩)
    go_loop [7] (fun i => ∃ k : Nat, 1 ≤ k ∧ k ≤ u.length ∧ (k : Int) ≤ L ∧ i = .int .i64 k ∧ Hid (∀ j, 1 ≤ j → j < k → goodAt X j (u.getD j 0))) (fun i => u.length - (intOf i).toNat)
    case atStart => exact ⟨1, Nat.le_refl 1, by omega, by omega, by go_num, Lib.hid (fun j h1 h2 => absurd h2 (by omega))⟩
    case round =>
      obtain ⟨k, hk1, hk2, hk3, rfl, HG⟩ := hrel
      by_cases hin : (k : Int) < L
      · by_cases him : k < u.length
        · have hkl : (p : Int) + k < s.length := by have := HLEN.out; omega
          have hck := HC.out k him
          obtain ⟨C, hC⟩ : ∃ C, u.getD k 0 = C := ⟨_, rfl⟩
          have hcr := HB.out.get k
          rw [hC] at hck hcr
          have HCC := Lib.hid hC
          clear hC
          have cs := fun w => second_ok X C w
          by_cases hgood : goodAt X k C
          · have HG2 : Hid (∀ j, 1 ≤ j → j < k + 1 → goodAt X j (u.getD j 0)) := Lib.hid (fun j h1 h2 => by
              by_cases hjk : j = k
              · subst hjk; rw [HCC.out]; exact hgood
              · exact HG.out j h1 (by omega))
            have hok := hgood.2
            unfold okP at hok
            have o1 : ¬ C < 128 := by omega
            have o2 : ¬ C > 191 := by omega
            by_cases hk : k = 1
            · have hs := hgood.1 hk
              simp only [hs, decide_true] at cs
              subst hk
              clear hgood hs hok
              go_wp2_with (go_at_call 72; refine (cs _).mono ?_; rintro e w' ⟨rfl, rfl⟩)
              go_round
              case rel => exact ⟨2, by omega, by omega, by omega, by go_num, HG2⟩
              case measure => simp [intOf]; omega
            · have hkk : ¬ (k : Int) = 1 := by omega
              clear hgood hok cs
              go_wp2
              go_round
              case rel => exact ⟨k + 1, by omega, by omega, by omega, by go_num, HG2⟩
              case measure => simp [intOf]; omega
          · have e := HR.out
            rw [stand_bad u k hk1 him (by rw [HX.out, HL.out]; exact hin) (by rw [HX.out]; exact HG.out) (by rw [HX.out, HCC.out]; exact hgood)] at e
            injection e with e1 e2
            subst e1; subst e2
            by_cases hk : k = 1
            · subst hk
              have hs : ¬ secP X C := fun h => hgood ⟨fun _ => h, sec_ok _ _ h⟩
              simp only [hs, decide_false] at cs
              clear hgood hs
              go_wp2_with (go_at_call 72; refine (cs _).mono ?_; rintro e w' ⟨rfl, rfl⟩)
              go_ret2
              exact ⟨rfl, rfl⟩
            · have ho : ¬ okP C := fun h => hgood ⟨fun h => absurd h hk, h⟩
              have hkk : ¬ (k : Int) = 1 := by omega
              unfold okP at ho
              by_cases o1 : C < 128
              · clear hgood cs ho
                go_wp2
                go_ret2
                exact ⟨rfl, rfl⟩
              · have o2 : C > 191 := by omega
                clear hgood cs ho
                go_wp2
                go_ret2
                exact ⟨rfl, rfl⟩
        · have hkl : ¬ (p : Int) + k < s.length := by have := HLEN.out; omega
          have e := HR.out
          rw [stand_end u k hk1 hk2 (by rw [HX.out, HL.out]; exact hk3) (by rw [HX.out]; exact HG.out) (Or.inr (by omega)), HX.out, HL.out] at e
          injection e with e1 e2
          subst e1
          have e3 : r2 = false := by rw [← e2]; apply decide_eq_false; omega
          subst e3
          have hne : ¬ (k : Int) = L := by omega
          have hnb : ((k : Int) == L) = false := by simpa using hne
          clear e2
          go_wp2
          go_ret2
          exact ⟨rfl, rfl⟩
      · have e := HR.out
        rw [stand_end u k hk1 hk2 (by rw [HX.out, HL.out]; exact hk3) (by rw [HX.out]; exact HG.out) (Or.inl (by rw [HX.out, HL.out]; omega)), HX.out, HL.out] at e
        injection e with e1 e2
        subst e1
        have e3 : r2 = true := by rw [← e2]; apply decide_eq_true; omega
        subst e3
        have hne : (k : Int) = L := by omega
        clear e2
        go_wp2
        go_ret2
        exact ⟨rfl, rfl⟩
/-- what a form is, case by case -/
theorem stand_cases (n : Nat) (a b c d : Int) (h : (standN n a b c d).2 = true) (h0 : 0 ≤ a) (h1 : a ≤ 255) :
    ((standN n a b c d).1 = 1 ∧ a < 128) ∨ ((standN n a b c d).1 = 2 ∧ 2 ≤ n ∧ 194 ≤ a ∧ a < 224 ∧ 128 ≤ b ∧ b ≤ 191) ∨
    ((standN n a b c d).1 = 3 ∧ 3 ≤ n ∧ 224 ≤ a ∧ a < 240 ∧ loP a ≤ b ∧ b ≤ hiP a ∧ 128 ≤ c ∧ c ≤ 191) ∨
    ((standN n a b c d).1 = 4 ∧ 4 ≤ n ∧ 240 ≤ a ∧ a < 245 ∧ loP a ≤ b ∧ b ≤ hiP a ∧ 128 ≤ c ∧ c ≤ 191 ∧ 128 ≤ d ∧ d ≤ 191) := by
  have hl := stand_ok n a b c d h
  unfold standN at h ⊢
  have hc := longP_cases a
  have hr : (longP a = 1 → a < 128) ∧ (longP a = 2 → 194 ≤ a ∧ a < 224) ∧ (longP a = 3 → 224 ≤ a ∧ a < 240) ∧ (longP a = 4 → 240 ≤ a ∧ a < 245) := by
    unfold longP
    repeat' split
    all_goals omega
  obtain ⟨L, hL⟩ : ∃ L, longP a = L := ⟨_, rfl⟩
  rw [hL] at h hr hc hl ⊢
  rcases hc with rfl | rfl | rfl | rfl | rfl
  · simp at h
  · left; simp; omega
  · right; left
    by_cases q : n < 2 ∨ ¬ secP a b
    · simp [q] at h
    · have q1 : secP a b := by have := not_or.1 q; simpa using this.2
      have q2 : ¬ n < 2 := fun h => q (Or.inl h)
      have q3 := sec_ok a b q1
      unfold okP at q3
      simp [q1, q2]; omega
  · right; right; left
    by_cases q : n < 2 ∨ ¬ secP a b
    · simp [q] at h
    · have q1 : secP a b := by have := not_or.1 q; simpa using this.2
      have q2 : ¬ n < 2 := fun h => q (Or.inl h)
      by_cases p : n < 3 ∨ ¬ okP c
      · simp [q1, q2, p] at h
      · have p1 : okP c := by have := not_or.1 p; simpa using this.2
        have p2 : ¬ n < 3 := fun h => p (Or.inl h)
        simp [q1, q2, p1, p2]
        unfold secP at q1
        unfold okP at p1
        omega
  · right; right; right
    by_cases q : n < 2 ∨ ¬ secP a b
    · simp [q] at h
    · have q1 : secP a b := by have := not_or.1 q; simpa using this.2
      have q2 : ¬ n < 2 := fun h => q (Or.inl h)
      by_cases p : n < 3 ∨ ¬ okP c
      · simp [q1, q2, p] at h
      · have p1 : okP c := by have := not_or.1 p; simpa using this.2
        have p2 : ¬ n < 3 := fun h => p (Or.inl h)
        by_cases r : n < 4 ∨ ¬ okP d
        · simp [q1, q2, p1, p2, r] at h
        · have r1 : okP d := by have := not_or.1 r; simpa using this.2
          have r2 : ¬ n < 4 := fun h => r (Or.inl h)
          simp [q1, q2, p1, p2, r1, r2]
          unfold secP at q1
          unfold okP at p1 r1
          omega
theorem rune_back (n : Nat) (a b c d : Int) (h : (standN n a b c d).2 = true) (h0 : 0 ≤ a) (h1 : a ≤ 255) :
    Lib.validRune (runeN (standN n a b c d).1 a b c d) = true ∧ Lib.encodeRuneZ (runeN (standN n a b c d).1 a b c d) = [a, b, c, d].take (standN n a b c d).1 := by
  rcases stand_cases n a b c d h h0 h1 with ⟨e, q⟩ | ⟨e, q⟩ | ⟨e, q⟩ | ⟨e, q⟩
  · rw [e]
    simp only [runeN, if_true]
    refine ⟨decide_eq_true (by omega), ?_⟩
    rw [Lib.encodeRuneZ_one h0 (by omega)]
    rfl
  · rw [e]
    simp only [runeN, if_true, if_false, Nat.reduceEqDiff]
    refine ⟨decide_eq_true (by omega), ?_⟩
    rw [Lib.encodeRuneZ_two (by omega) (by omega)]
    simp only [List.take_succ_cons, List.take_zero, List.cons.injEq, and_true]
    omega
  · rw [e]
    simp only [runeN, if_true, if_false, Nat.reduceEqDiff]
    have hx : (2048 ≤ ((a - 224) * 64 + b - 128) * 64 + c - 128 ∧ ((a - 224) * 64 + b - 128) * 64 + c - 128 < 55296) ∨ (57343 < ((a - 224) * 64 + b - 128) * 64 + c - 128 ∧ ((a - 224) * 64 + b - 128) * 64 + c - 128 ≤ 65535) := by
      obtain ⟨_, q1, q2, q3, q4, q5, q6⟩ := q
      unfold loP at q3
      unfold hiP at q4
      (repeat' split at q3) <;> (repeat' split at q4) <;> omega
    refine ⟨decide_eq_true (by omega), ?_⟩
    rw [Lib.encodeRuneZ_three hx]
    have hb : 128 ≤ b ∧ b ≤ 191 := by
      obtain ⟨_, q1, q2, q3, q4, q5, q6⟩ := q
      unfold loP at q3
      unfold hiP at q4
      (repeat' split at q3) <;> (repeat' split at q4) <;> omega
    simp only [List.take_succ_cons, List.take_zero, List.cons.injEq, and_true]
    omega
  · rw [e]
    simp only [runeN, if_true, if_false, Nat.reduceEqDiff]
    have hx : 65536 ≤ (((a - 240) * 64 + b - 128) * 64 + c - 128) * 64 + d - 128 ∧ (((a - 240) * 64 + b - 128) * 64 + c - 128) * 64 + d - 128 ≤ 1114111 := by
      obtain ⟨_, q1, q2, q3, q4, q5, q6⟩ := q
      unfold loP at q3
      unfold hiP at q4
      (repeat' split at q3) <;> (repeat' split at q4) <;> omega
    refine ⟨decide_eq_true (by omega), ?_⟩
    rw [Lib.encodeRuneZ_four hx.1 hx.2]
    have hb : 128 ≤ b ∧ b ≤ 191 := by
      obtain ⟨_, q1, q2, q3, q4, q5, q6⟩ := q
      unfold loP at q3
      unfold hiP at q4
      (repeat' split at q3) <;> (repeat' split at q4) <;> omega
    simp only [List.take_succ_cons, List.take_zero, List.cons.injEq, and_true]
    omega
/-- a rune, byte by byte -/
def rkP (base : Int) (s : List Int) : Nat → Int
  | 0 => s.getD 0 0 - base
  | j + 1 => rkP base s j * 64 + s.getD (j + 1) 0 - 128
theorem rkP_range (base : Int) (s : List Int) (hb : ByteZ s) (h0 : 0 ≤ base) (h1 : base ≤ 240) (j : Nat) (hj : j ≤ 3) : -200000000 ≤ rkP base s j ∧ rkP base s j ≤ 200000000 := by
  have g0 := hb.get 0
  have g1 := hb.get 1
  have g2 := hb.get 2
  have g3 := hb.get 3
  have hc : j = 0 ∨ j = 1 ∨ j = 2 ∨ j = 3 := by omega
  rcases hc with rfl | rfl | rfl | rfl <;> simp only [rkP, Nat.reduceAdd] <;> omega
set_option maxHeartbeats 1000000 in
/-- the document's rune1 -/
theorem rune1_ok (A : Option Addr) (c : Nat) (s : List Int) (n : Nat) (w : World) (hz : ByteZ s) (hl : s.length = n) (h1 : 1 ≤ n) (h4 : n ≤ 4) (h : Has w w.heap.size A (s.map (Value.int .u8)))
    (R : Int) (hR : runeN n (s.getD 0 0) (s.getD 1 0) (s.getD 2 0) (s.getD 3 0) = R) (hr : 0 ≤ R ∧ R ≤ 1114111) :
    Calls Tryd.prog 53 #[.slice A n c] w fun e w' => e = .returned (.int .i32 R) ∧ w = w' := by
  obtain ⟨b, off, rfl, hb, hc⟩ := h.getD_cell (by intro e; rw [e] at hl; simp at hl; omega)
  obtain ⟨base, hbase⟩ : ∃ base : Int, base = if n = 1 then 0 else if n = 2 then 192 else if n = 3 then 224 else 240 := ⟨_, rfl⟩
  have hbr : 0 ≤ base ∧ base ≤ 240 := by rw [hbase]; (repeat' split) <;> omega
  have hfin : rkP base s (n - 1) = R := by
    rw [← hR, hbase]
    have hcs : n = 1 ∨ n = 2 ∨ n = 3 ∨ n = 4 := by omega
    rcases hcs with rfl | rfl | rfl | rfl <;> simp [rkP, runeN]
  have HF := Lib.hid hfin
  have HB := Lib.hid hz
  have hcc : ∀ j, j < n → w.cell? ⟨b, off + j, none⟩ = some (.int .u8 (s.getD j 0)) := fun j hj => hc j (by omega)
  have HC := Lib.hid hcc
  have c0 := hcc 0 (by omega)
  rw [Nat.add_zero] at c0
  have g0 := hz.get 0
  obtain ⟨X, hX⟩ : ∃ X, s.getD 0 0 = X := ⟨_, rfl⟩
  rw [hX] at c0 g0
  have H0 : Hid (rkP base s 0 = X - base) := Lib.hid (by show s.getD 0 0 - base = _; rw [hX])
  clear h hc hcc hfin hz hl hR hX
  have hcs : n = 1 ∨ n = 2 ∨ n = 3 ∨ n = 4 := by omega
  rcases hcs with rfl | rfl | rfl | rfl
  all_goals
    simp only [Nat.reduceEqDiff, if_true, if_false] at hbase
    have HBA := Lib.hid hbase
    clear h1 h4 hbase
    go_enter Tryd.func53, Tryd.ntmps53
    go_wp2
  · go_loop [3, 4] (fun v i => ∃ j : Nat, j + 1 ≤ 1 ∧ i = .int .i64 (j + 1) ∧ v = .int .i64 (rkP base s j)) (fun _ i => 10 - (intOf i).toNat)
    case atStart => exact ⟨0, by omega, by go_num, by rw [H0.out, HBA.out]; go_num⟩
    case round =>
      obtain ⟨j, hj, rfl, rfl⟩ := hrel
      by_cases hlt : j + 1 < 1
      · exfalso; omega
      · obtain rfl : j = 0 := by omega
        have e : rkP base s 0 = R := HF.out
        rw [e]
        clear e
        go_wp2
        go_ret
        exact ⟨rfl, rfl⟩
  · go_loop [3, 4] (fun v i => ∃ j : Nat, j + 1 ≤ 2 ∧ i = .int .i64 (j + 1) ∧ v = .int .i64 (rkP base s j)) (fun _ i => 10 - (intOf i).toNat)
    case atStart => exact ⟨0, by omega, by go_num, by rw [H0.out, HBA.out]⟩
    case round =>
      obtain ⟨j, hj, rfl, rfl⟩ := hrel
      by_cases hlt : j + 1 < 2
      · have hcell := HC.out (j + 1) hlt
        have hr := rkP_range base s HB.out hbr.1 hbr.2 j (by omega)
        have HS : Hid (rkP base s (j + 1) = rkP base s j * 64 + s.getD (j + 1) 0 - 128) := Lib.hid rfl
        have hy := HB.out.get (j + 1)
        obtain ⟨Y, hY⟩ : ∃ Y, s.getD (j + 1) 0 = Y := ⟨_, rfl⟩
        obtain ⟨Z, hZ⟩ : ∃ Z, rkP base s j = Z := ⟨_, rfl⟩
        rw [hY] at hcell hy
        rw [hZ] at hr ⊢
        have HY := Lib.hid hY
        have HZ := Lib.hid hZ
        clear hY hZ
        have hj1 : (j : Int) + 1 < 2 := by omega
        go_wp2
        go_round
        case rel => exact ⟨j + 1, by omega, by go_num, by rw [HS.out, HY.out, HZ.out]⟩
        case measure => simp [intOf]; omega
      · obtain rfl : j = 1 := by omega
        have e : rkP base s 1 = R := HF.out
        rw [e]
        clear e
        go_wp2
        go_ret
        exact ⟨rfl, rfl⟩
  · go_loop [3, 4] (fun v i => ∃ j : Nat, j + 1 ≤ 3 ∧ i = .int .i64 (j + 1) ∧ v = .int .i64 (rkP base s j)) (fun _ i => 10 - (intOf i).toNat)
    case atStart => exact ⟨0, by omega, by go_num, by rw [H0.out, HBA.out]⟩
    case round =>
      obtain ⟨j, hj, rfl, rfl⟩ := hrel
      by_cases hlt : j + 1 < 3
      · have hcell := HC.out (j + 1) hlt
        have hr := rkP_range base s HB.out hbr.1 hbr.2 j (by omega)
        have HS : Hid (rkP base s (j + 1) = rkP base s j * 64 + s.getD (j + 1) 0 - 128) := Lib.hid rfl
        have hy := HB.out.get (j + 1)
        obtain ⟨Y, hY⟩ : ∃ Y, s.getD (j + 1) 0 = Y := ⟨_, rfl⟩
        obtain ⟨Z, hZ⟩ : ∃ Z, rkP base s j = Z := ⟨_, rfl⟩
        rw [hY] at hcell hy
        rw [hZ] at hr ⊢
        have HY := Lib.hid hY
        have HZ := Lib.hid hZ
        clear hY hZ
        have hj1 : (j : Int) + 1 < 3 := by omega
        go_wp2
        go_round
        case rel => exact ⟨j + 1, by omega, by go_num, by rw [HS.out, HY.out, HZ.out]⟩
        case measure => simp [intOf]; omega
      · obtain rfl : j = 2 := by omega
        have e : rkP base s 2 = R := HF.out
        rw [e]
        clear e
        go_wp2
        go_ret
        exact ⟨rfl, rfl⟩
  · go_loop [3, 4] (fun v i => ∃ j : Nat, j + 1 ≤ 4 ∧ i = .int .i64 (j + 1) ∧ v = .int .i64 (rkP base s j)) (fun _ i => 10 - (intOf i).toNat)
    case atStart => exact ⟨0, by omega, by go_num, by rw [H0.out, HBA.out]⟩
    case round =>
      obtain ⟨j, hj, rfl, rfl⟩ := hrel
      by_cases hlt : j + 1 < 4
      · have hcell := HC.out (j + 1) hlt
        have hr := rkP_range base s HB.out hbr.1 hbr.2 j (by omega)
        have HS : Hid (rkP base s (j + 1) = rkP base s j * 64 + s.getD (j + 1) 0 - 128) := Lib.hid rfl
        have hy := HB.out.get (j + 1)
        obtain ⟨Y, hY⟩ : ∃ Y, s.getD (j + 1) 0 = Y := ⟨_, rfl⟩
        obtain ⟨Z, hZ⟩ : ∃ Z, rkP base s j = Z := ⟨_, rfl⟩
        rw [hY] at hcell hy
        rw [hZ] at hr ⊢
        have HY := Lib.hid hY
        have HZ := Lib.hid hZ
        clear hY hZ
        have hj1 : (j : Int) + 1 < 4 := by omega
        go_wp2
        go_round
        case rel => exact ⟨j + 1, by omega, by go_num, by rw [HS.out, HY.out, HZ.out]⟩
        case measure => simp [intOf]; omega
      · obtain rfl : j = 3 := by omega
        have e : rkP base s 3 = R := HF.out
        rw [e]
        clear e
        go_wp2
        go_ret
        exact ⟨rfl, rfl⟩
theorem getD_take (s : List Int) (k j : Nat) (h : j < k) : (s.take k).getD j 0 = s.getD j 0 := by
  simp [List.getD_eq_getElem?_getD, List.getElem?_take, h]
theorem Has.takeI {w : World} {B : Nat} {A : Option Addr} {q : IntKind} {s : List Int} (h : Has w B A (s.map (Value.int q))) (k : Nat) : Has w B A ((s.take k).map (Value.int q)) := fun hne => by
  have hne' : s.map (Value.int q) ≠ [] := by intro e; apply hne; simp at e; simp [e]
  obtain ⟨b, off, e, hl, hc⟩ := h hne'
  refine ⟨b, off, e, hl, fun j u hu => hc j u ?_⟩
  rw [List.map_take, List.getElem?_take] at hu
  split at hu
  · exact hu
  · cases hu
theorem Has.dropI {w : World} {B : Nat} {b off : Nat} {q : IntKind} {s : List Int} (h : Has w B (some ⟨b, off, none⟩) (s.map (Value.int q))) (k : Nat) : Has w B (some ⟨b, off + k, none⟩) ((s.drop k).map (Value.int q)) := fun hne => by
  have hne' : s.map (Value.int q) ≠ [] := by intro e; apply hne; simp at e; simp [e]
  obtain ⟨b', off', e, hl, hc⟩ := h hne'
  injection e with e; injection e with e1 e2; subst e1; subst e2
  refine ⟨b, off + k, rfl, hl, fun j u hu => ?_⟩
  rw [Nat.add_assoc]
  apply hc
  rw [List.map_drop, List.getElem?_drop] at hu
  exact hu
end Go.Proofs.YtekjejbcdnghjaaDoor
