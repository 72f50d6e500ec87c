/-
  Contracts of the document's Stands and rune1, and of the program's 'invalid'. No condition beside the library's tables.
-/
import Derived.Test.YtcegaelpbeefaaaDoorBytes
set_option linter.unusedVariables false
namespace Go.Proofs.YtcegaelpbeefaaaDoor
open Go.ChangeShapes Go.WideShapes Go.ChangeAt Go.RowKit

def goodAt (a : Int) (j : Nat) (c : Int) : Prop := (j = 1 → secP a c) ∧ okP c
theorem sec_ok (a c : Int) (h : secP a c) : okP c := by
  unfold secP loP hiP at h
  unfold okP
  (repeat' split at h) <;> omega
theorem getD_drop (s : List Int) (k j : Nat) : (s.drop k).getD j 0 = s.getD (k + j) 0 := by simp [List.getD_eq_getElem?_getD]

theorem stand_end_n (n k : Nat) (a b c d : Int) (h1 : 1 ≤ k) (hm : k ≤ n) (hl : (k : Int) ≤ longP a) (g1 : 1 < k → secP a b) (g2 : 2 < k → okP c) (g3 : 3 < k → okP d) (he : (k : Int) = longP a ∨ k = n) :
    standN n a b c d = (k, decide ((k : Int) = longP a)) := by
  unfold standN
  obtain ⟨L, hL⟩ : ∃ L, longP a = L := ⟨_, rfl⟩
  have hc := longP_cases a
  rw [hL] at hl he hc ⊢
  have hk : k = 1 ∨ k = 2 ∨ k = 3 ∨ k = 4 := by omega
  rcases hk with rfl | rfl | rfl | rfl
  · rcases hc with rfl | rfl | rfl | rfl | rfl
    · omega
    · simp
    all_goals
      have h2 : n < 2 := by omega
      simp [h2]
  · have s1 := g1 (by omega)
    have h2 : ¬ n < 2 := by omega
    rcases hc with rfl | rfl | rfl | rfl | rfl
    · omega
    · omega
    · simp [h2, s1]
    all_goals
      have h3 : n < 3 := by omega
      simp [h2, h3, s1]
  · have s1 := g1 (by omega)
    have s2 := g2 (by omega)
    have h2 : ¬ n < 2 := by omega
    have h3 : ¬ n < 3 := by omega
    rcases hc with rfl | rfl | rfl | rfl | rfl
    · omega
    · omega
    · omega
    · simp [h2, h3, s1, s2]
    · have h4 : n < 4 := by omega
      simp [h2, h3, h4, s1, s2]
  · have s1 := g1 (by omega)
    have s2 := g2 (by omega)
    have s3 := g3 (by omega)
    have h2 : ¬ n < 2 := by omega
    have h3 : ¬ n < 3 := by omega
    have h4 : ¬ n < 4 := by omega
    rcases hc with rfl | rfl | rfl | rfl | rfl
    · omega
    · omega
    · omega
    · omega
    · simp [h2, h3, h4, s1, s2, s3]
theorem stand_bad_n (n k : Nat) (a b c d : Int) (h1 : 1 ≤ k) (hm : k < n) (hl : (k : Int) < longP a) (g1 : 1 < k → secP a b) (g2 : 2 < k → okP c) (b1 : k = 1 → ¬ secP a b) (b2 : k = 2 → ¬ okP c) (b3 : k = 3 → ¬ okP d) :
    standN n a b c d = (k, false) := by
  unfold standN
  obtain ⟨L, hL⟩ : ∃ L, longP a = L := ⟨_, rfl⟩
  have hc := longP_cases a
  rw [hL] at hl hc ⊢
  have hk : k = 1 ∨ k = 2 ∨ k = 3 := by omega
  rcases hk with rfl | rfl | rfl
  · have s1 := b1 rfl
    rcases hc with rfl | rfl | rfl | rfl | rfl <;> first | (exfalso; omega) | simp [s1]
  · have s1 := g1 (by omega)
    have s2 := b2 rfl
    have h2 : ¬ n < 2 := by omega
    rcases hc with rfl | rfl | rfl | rfl | rfl <;> first | (exfalso; omega) | simp [s1, s2, h2]
  · have s1 := g1 (by omega)
    have s2 := g2 (by omega)
    have s3 := b3 rfl
    have h2 : ¬ n < 2 := by omega
    have h3 : ¬ n < 3 := by omega
    rcases hc with rfl | rfl | rfl | rfl | rfl <;> first | (exfalso; omega) | simp [s1, s2, s3, h2, h3]
theorem stand_end (u : List Int) (k : Nat) (h1 : 1 ≤ k) (hm : k ≤ u.length) (hl : (k : Int) ≤ longP (u.getD 0 0)) (hg : ∀ j, 1 ≤ j → j < k → goodAt (u.getD 0 0) j (u.getD j 0)) (he : (k : Int) = longP (u.getD 0 0) ∨ k = u.length) :
    standP u = (k, decide ((k : Int) = longP (u.getD 0 0))) :=
  stand_end_n u.length k _ _ _ _ h1 hm hl (fun h => (hg 1 (by omega) h).1 rfl) (fun h => (hg 2 (by omega) h).2) (fun h => (hg 3 (by omega) h).2) he
theorem stand_bad (u : List Int) (k : Nat) (h1 : 1 ≤ k) (hm : k < u.length) (hl : (k : Int) < longP (u.getD 0 0)) (hg : ∀ j, 1 ≤ j → j < k → goodAt (u.getD 0 0) j (u.getD j 0)) (hb : ¬ goodAt (u.getD 0 0) k (u.getD k 0)) :
    standP u = (k, false) :=
  stand_bad_n u.length k _ _ _ _ h1 hm hl (fun h => (hg 1 (by omega) h).1 rfl) (fun h => (hg 2 (by omega) h).2)
    (fun e h => hb (by subst e; exact ⟨fun _ => h, sec_ok _ _ h⟩)) (fun e h => hb (by subst e; exact ⟨fun h => by omega, h⟩)) (fun e h => hb (by subst e; exact ⟨fun h => by omega, h⟩))
theorem stand_none (u : List Int) (h : longP (u.getD 0 0) = 0) : standP u = (1, false) := by
  unfold standP standN
  rw [if_pos h]

set_option maxHeartbeats 2000000 in
/-- the document's Stands -/
theorem stands_ok (A : Option Addr) (c : Nat) (s : List Int) (p : Nat) (w : World) (hn : s.length ≤ 1000000000) (hz : ByteZ s) (hp : p < s.length) (h : Has w w.heap.size A (s.map (Value.int .u8))) :
    Calls Tryd.prog 34 #[.slice A s.length c, .int .i64 p] w fun e w' => e = .returned (.tuple #[.int .i64 (standP (s.drop p)).1, .bool (standP (s.drop p)).2]) ∧ w = w' := by
  obtain ⟨b, off, rfl, hb, hc⟩ := h.getD_cell (by intro e; rw [e] at hp; simp at hp)
  clear h
  obtain ⟨u, hu⟩ : ∃ u, s.drop p = u := ⟨_, rfl⟩
  have hul : u.length = s.length - p := by rw [← hu]; simp
  have hcu : ∀ j, j < u.length → w.cell? ⟨b, off + (p + j), none⟩ = some (.int .u8 (u.getD j 0)) := fun j hj => by
    rw [hc (p + j) (by omega), ← hu, getD_drop]
  rw [hu]
  obtain ⟨X, hX⟩ : ∃ X, u.getD 0 0 = X := ⟨_, rfl⟩
  have h0 := hcu 0 (by omega)
  rw [hX, Nat.add_zero] at h0
  have hbu : ByteZ u := by rw [← hu]; exact hz.drop p
  have hx0 := hbu.get 0
  rw [hX] at hx0
  have HB := Lib.hid hbu
  obtain ⟨R, hR⟩ : ∃ R, standP u = R := ⟨_, rfl⟩
  obtain ⟨r1, r2⟩ := R
  rw [hR]
  have HR := Lib.hid hR
  have HX := Lib.hid hX
  have HU := Lib.hid hul
  have HLEN := Lib.hid (show (p : Int) + u.length = s.length by omega)
  have hpos : 1 ≤ u.length := by omega
  have HC := Lib.hid hcu
  obtain ⟨L, hL⟩ : ∃ L, longP X = L := ⟨_, rfl⟩
  have HL := Lib.hid hL
  have hLr : 0 ≤ L ∧ L ≤ 4 := by have := longP_cases X; omega
  have cl := fun w => long_ok X w
  rw [hL] at cl
  clear hc hu hcu hX hR hul hL hbu hz
  by_cases hz : L = 0
  · have e := HR.out
    rw [stand_none u (by rw [HX.out, HL.out]; exact hz)] at e
    injection e with e1 e2
    subst e1; subst e2; subst hz
    go_enter Tryd.func34, Tryd.ntmps34
    go_wp2_with (go_at_call 35; refine (cl _).mono ?_; rintro e w' ⟨rfl, rfl⟩)
    go_ret2
    exact ⟨rfl, rfl⟩
  · have hzb : (L == (0 : Int)) = false := by simpa using hz
    go_enter Tryd.func34, Tryd.ntmps34
    go_wp2_with (go_at_call 35; refine (cl _).mono ?_; rintro e w' ⟨rfl, rfl⟩)
    go_loop [7] (fun i => ∃ k : Nat, 1 ≤ k ∧ k ≤ u.length ∧ (k : Int) ≤ L ∧ i = .int .i64 k ∧ Hid (∀ j, 1 ≤ j → j < k → goodAt X j (u.getD j 0))) (fun i => u.length - (intOf i).toNat)
    case atStart => exact ⟨1, Nat.le_refl 1, by omega, by omega, by go_num, Lib.hid (fun j h1 h2 => absurd h2 (by omega))⟩
    case round =>
      obtain ⟨k, hk1, hk2, hk3, rfl, HG⟩ := hrel
      by_cases hin : (k : Int) < L
      · by_cases him : k < u.length
        · have hkl : (p : Int) + k < s.length := by have := HLEN.out; omega
          have hck := HC.out k him
          obtain ⟨C, hC⟩ : ∃ C, u.getD k 0 = C := ⟨_, rfl⟩
          have hcr := HB.out.get k
          rw [hC] at hck hcr
          have HCC := Lib.hid hC
          clear hC
          have cs := fun w => second_ok X C w
          by_cases hgood : goodAt X k C
          · have HG2 : Hid (∀ j, 1 ≤ j → j < k + 1 → goodAt X j (u.getD j 0)) := Lib.hid (fun j h1 h2 => by
              by_cases hjk : j = k
              · subst hjk; rw [HCC.out]; exact hgood
              · exact HG.out j h1 (by omega))
            have hok := hgood.2
            unfold okP at hok
            have o1 : ¬ C < 128 := by omega
            have o2 : ¬ C > 191 := by omega
            by_cases hk : k = 1
            · have hs := hgood.1 hk
              simp only [hs, decide_true] at cs
              subst hk
              clear hgood hs hok
              go_wp2_with (go_at_call 44; refine (cs _).mono ?_; rintro e w' ⟨rfl, rfl⟩)
              go_round
              case rel => exact ⟨2, by omega, by omega, by omega, by go_num, HG2⟩
              case measure => simp [intOf]; omega
            · have hkk : ¬ (k : Int) = 1 := by omega
              clear hgood hok cs
              go_wp2
              go_round
              case rel => exact ⟨k + 1, by omega, by omega, by omega, by go_num, HG2⟩
              case measure => simp [intOf]; omega
          · have e := HR.out
            rw [stand_bad u k hk1 him (by rw [HX.out, HL.out]; exact hin) (by rw [HX.out]; exact HG.out) (by rw [HX.out, HCC.out]; exact hgood)] at e
            injection e with e1 e2
            subst e1; subst e2
            by_cases hk : k = 1
            · subst hk
              have hs : ¬ secP X C := fun h => hgood ⟨fun _ => h, sec_ok _ _ h⟩
              simp only [hs, decide_false] at cs
              clear hgood hs
              go_wp2_with (go_at_call 44; refine (cs _).mono ?_; rintro e w' ⟨rfl, rfl⟩)
              go_ret2
              exact ⟨rfl, rfl⟩
            · have ho : ¬ okP C := fun h => hgood ⟨fun h => absurd h hk, h⟩
              have hkk : ¬ (k : Int) = 1 := by omega
              unfold okP at ho
              by_cases o1 : C < 128
              · clear hgood cs ho
                go_wp2
                go_ret2
                exact ⟨rfl, rfl⟩
              · have o2 : C > 191 := by omega
                clear hgood cs ho
                go_wp2
                go_ret2
                exact ⟨rfl, rfl⟩
        · have hkl : ¬ (p : Int) + k < s.length := by have := HLEN.out; omega
          have e := HR.out
          rw [stand_end u k hk1 hk2 (by rw [HX.out, HL.out]; exact hk3) (by rw [HX.out]; exact HG.out) (Or.inr (by omega)), HX.out, HL.out] at e
          injection e with e1 e2
          subst e1
          have e3 : r2 = false := by rw [← e2]; apply decide_eq_false; omega
          subst e3
          have hne : ¬ (k : Int) = L := by omega
          have hnb : ((k : Int) == L) = false := by simpa using hne
          clear e2
          go_wp2
          go_ret2
          exact ⟨rfl, rfl⟩
      · have e := HR.out
        rw [stand_end u k hk1 hk2 (by rw [HX.out, HL.out]; exact hk3) (by rw [HX.out]; exact HG.out) (Or.inl (by rw [HX.out, HL.out]; omega)), HX.out, HL.out] at e
        injection e with e1 e2
        subst e1
        have e3 : r2 = true := by rw [← e2]; apply decide_eq_true; omega
        subst e3
        have hne : (k : Int) = L := by omega
        clear e2
        go_wp2
        go_ret2
        exact ⟨rfl, rfl⟩
end Go.Proofs.YtcegaelpbeefaaaDoor
