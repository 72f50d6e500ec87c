/-
  Contracts of Whole (both): any spans. No condition but the length.
-/
import Derived.Test.YtojplkkmpnaibaaAt
set_option linter.unusedVariables false
namespace Go.Proofs.Ytojplkkmpnaibaa
open Go.ChangeShapes Go.WideShapes Go.ChangeAt Go.RowKit

set_option maxHeartbeats 1000000 in
theorem whole_ok (A : Option Addr) (c n : Nat) (l : List Sp) (N : Int) (w : World) (hnl : n = l.length) (hn : n ≤ 1000000) (h : HasS w w.heap.size A l) :
    Calls Try.prog 16 #[.slice A n c, .int .i64 N] w fun e w' => e = .returned (.bool (wholeB l N)) ∧ Below w.heap.size w w' := by
  obtain ⟨V, hV⟩ : ∃ V, wholeB l N = V := ⟨_, rfl⟩
  rw [hV]
  have HV := Lib.hid hV
  have HL := Lib.hid hnl
  clear hV hnl
  go_enter Try.func16, Try.ntmps16
  go_wp2
  go_loopw [5, 10] (fun a j wr => ∃ (k : Nat) (E : Int), k ≤ n ∧ a = .int .i64 E ∧ j = .int .i64 k ∧ Hid (Ok l k) ∧ Hid (endS (l.take k) = E) ∧ Below w.heap.size w wr) (fun _ j _ => n - (intOf j).toNat)
  case atStart => exact ⟨0, 0, by omega, rfl, rfl, Lib.hid (fun j hj => absurd hj (by omega)), Lib.hid rfl, Below.refl _ _⟩
  case round =>
    obtain ⟨k, E, hk, rfl, rfl, HO, HE, hbl⟩ := hrel
    by_cases hlt : k < n
    · have hlt1 : k < l.length := by rw [← HL.out]; exact hlt
      have hh := h.carry hbl
      have hsz := hbl.size
      have HET := endS_take l k hlt1
      have HB := bad_at l N k hlt1
      rw [HE.out] at HB
      cases k with
      | zero =>
        obtain ⟨b, off, rfl, hb, hc0, hc1, hc2⟩ := hh.at_ hlt1
        have HS := fun h1 h2 => Ok.succ0 (l := l) hlt1 h1 h2
        have hE0 : E = 0 := by rw [← HE.out]; rfl
        obtain ⟨X, hX⟩ : ∃ X, l[0] = X := ⟨_, rfl⟩
        rw [hX] at hc0 hc1 hc2 HET HB HS
        obtain ⟨f, t, v⟩ := X
        simp only [Nat.zero_mul, Nat.add_zero] at hc0 hc1 hc2 HET HB HS
        replace HB := Lib.hid HB
        replace HS := Lib.hid HS
        replace HET := Lib.hid HET
        subst hE0
        clear hX h hh
        by_cases h1 : f = 0
        · subst h1
          by_cases h2 : t ≤ 0
          · have HE2 : Hid (V = false) := Lib.hid (by rw [← HV.out]; exact HB.out (fun h => by omega))
            have d1 : decide (t ≤ 0) = true := decide_eq_true h2
            go_wp2
            go_quiet (fail)
            go_wp2
            go_ret
            exact ⟨by rw [HE2.out]; rfl, below_drewN (hbl.alloc hsz _) _⟩
          · have d1 : decide (t ≤ 0) = false := decide_eq_false h2
            go_wp2
            go_quiet (fail)
            go_wp2
            go_roundw
            case rel => exact ⟨1, t, by omega, rfl, by go_num, Lib.hid (HS.out (by trivial) (by omega)), HET, below_drewN (hbl.alloc hsz _) _⟩
            case measure => simp [intOf]; omega
        · have HE2 : Hid (V = false) := Lib.hid (by rw [← HV.out]; exact HB.out (fun h => h1 h.1))
          have d1 : (f != 0) = true := by simpa using h1
          clear h1 HB HS
          go_wp2
          go_quiet (fail)
          go_wp2
          go_ret
          exact ⟨by rw [HE2.out]; rfl, below_drewN (hbl.alloc hsz _) _⟩
      | succ k =>
        have hlt0 : k < l.length := by omega
        obtain ⟨b, off, rfl, hb, hc0, hc1, hc2⟩ := hh.at_ hlt1
        obtain ⟨b', off', he, hb', hp0, hp1, hp2⟩ := hh.at_ hlt0
        injection he with he; injection he with he1 he2; subst he1; subst he2
        have HS := fun h1 h2 h3 => Ok.succ HO.out hlt1 h1 h2 h3
        rw [HE.out] at HS
        have HBV := bad_val l N k hlt1
        obtain ⟨X, hX⟩ : ∃ X, l[k + 1] = X := ⟨_, rfl⟩
        rw [hX] at hc0 hc1 hc2 HET HB HS HBV
        obtain ⟨f, t, v⟩ := X
        obtain ⟨Y, hY⟩ : ∃ X, l[k] = X := ⟨_, rfl⟩
        rw [hY] at hp0 hp1 hp2 HS HBV
        obtain ⟨pf, pt, pv⟩ := Y
        simp only at hc0 hc1 hc2 HET HB HS HBV hp0 hp1 hp2
        replace HB := Lib.hid HB
        replace HS := Lib.hid HS
        replace HET := Lib.hid HET
        replace HBV := Lib.hid HBV
        clear hX h hh hY
        by_cases h1 : f = E
        · subst h1
          by_cases h2 : t ≤ f
          · have HE2 : Hid (V = false) := Lib.hid (by rw [← HV.out]; exact HB.out (fun h => by omega))
            have d1 : decide (t ≤ f) = true := decide_eq_true h2
            go_wp2
            go_quiet (fail)
            go_wp2
            go_ret
            exact ⟨by rw [HE2.out]; rfl, below_drewN (hbl.alloc hsz _) _⟩
          · have d1 : decide (t ≤ f) = false := decide_eq_false h2
            have d2 : decide ((0 : Int) < (k : Int) + 1) = true := decide_eq_true (by omega)
            by_cases h3 : v = pv
            · have HE2 : Hid (V = false) := Lib.hid (by rw [← HV.out]; exact HBV.out h3)
              subst h3
              go_wp2
              go_quiet (fail)
              go_wp2
              go_ret
              exact ⟨by rw [HE2.out]; rfl, below_drewN (hbl.alloc hsz _) _⟩
            · have d3 : (v == pv) = false := by simpa using h3
              have HS2 := Lib.hid (HS.out rfl (by omega) h3)
              clear h3 HB HS HBV
              go_wp2
              go_quiet (fail)
              go_wp2
              go_roundw
              case rel => exact ⟨k + 1 + 1, t, by omega, rfl, by go_num, HS2, HET, below_drewN (hbl.alloc hsz _) _⟩
              case measure => simp [intOf]; omega
        · have HE2 : Hid (V = false) := Lib.hid (by rw [← HV.out]; exact HB.out (fun h => h1 h.1))
          have d1 : (f != E) = true := by simpa using h1
          clear h1 HB HS HBV
          go_wp2
          go_quiet (fail)
          go_wp2
          go_ret
          exact ⟨by rw [HE2.out]; rfl, below_drewN (hbl.alloc hsz _) _⟩
    · obtain rfl : k = n := by omega
      have HF := HO.out.end_ (by rw [← HL.out]; exact Nat.le_refl _) N
      have hE := HE.out
      rw [HL.out, List.take_length] at hE
      rw [HV.out, hE] at HF
      have HF := Lib.hid HF
      clear hE
      go_wp2
      go_ret
      exact ⟨by rw [HF.out]; rfl, hbl⟩
set_option maxHeartbeats 1000000 in
theorem rwhole_ok (A : Option Addr) (c n : Nat) (l : List Sp) (N : Int) (w : World) (hnl : n = l.length) (hn : n ≤ 1000000) (h : HasS w w.heap.size A l) :
    Calls Try.prog 15 #[.slice A n c, .int .i64 N] w fun e w' => e = .returned (.bool (wholeB l N)) ∧ Below w.heap.size w w' := by
  by_cases hN : N < 0
  · rw [wholeB_false l N (fun hw => by have := hw.nonneg; omega)]
    go_enter Try.func15, Try.ntmps15
    go_wp2
    go_ret
    exact ⟨rfl, Below.refl _ _⟩
  obtain ⟨V, hV⟩ : ∃ V, wholeB l N = V := ⟨_, rfl⟩
  rw [hV]
  have HV := Lib.hid hV
  have HL := Lib.hid hnl
  clear hV hnl
  go_enter Try.func15, Try.ntmps15
  go_wp2
  go_loopw [5, 6] (fun a j wr => ∃ (k : Nat) (E : Int), k ≤ n ∧ a = .int .i64 E ∧ j = .int .i64 k ∧ Hid (Ok l k) ∧ Hid (endS (l.take k) = E) ∧ ∃ q, wr = w.drewN q) (fun _ j _ => n - (intOf j).toNat)
  case atStart => exact ⟨0, 0, by omega, rfl, rfl, Lib.hid (fun j hj => absurd hj (by omega)), Lib.hid rfl, 0, rfl⟩
  case round =>
    obtain ⟨k, E, hk, rfl, rfl, HO, HE, q, rfl⟩ := hrel
    by_cases hlt : k < n
    · have hlt1 : k < l.length := by rw [← HL.out]; exact hlt
      have hh := h
      have HET := endS_take l k hlt1
      have HB := bad_at l N k hlt1
      rw [HE.out] at HB
      cases k with
      | zero =>
        obtain ⟨b, off, rfl, hb, hc0, hc1, hc2⟩ := hh.at_ hlt1
        have HS := fun h1 h2 => Ok.succ0 (l := l) hlt1 h1 h2
        have hE0 : E = 0 := by rw [← HE.out]; rfl
        obtain ⟨X, hX⟩ : ∃ X, l[0] = X := ⟨_, rfl⟩
        rw [hX] at hc0 hc1 hc2 HET HB HS
        obtain ⟨f, t, v⟩ := X
        simp only [Nat.zero_mul, Nat.add_zero] at hc0 hc1 hc2 HET HB HS
        replace HB := Lib.hid HB
        replace HS := Lib.hid HS
        replace HET := Lib.hid HET
        subst hE0
        clear hX h hh
        by_cases h1 : f = 0
        · subst h1
          by_cases h2 : t ≤ 0
          · have HE2 : Hid (V = false) := Lib.hid (by rw [← HV.out]; exact HB.out (fun h => by omega))
            have d1 : decide (t ≤ 0) = true := decide_eq_true h2
            go_wp2
            go_quiet (fail)
            go_wp2
            go_ret
            exact ⟨by rw [HE2.out]; rfl, below_drewN (below_drewN (Below.refl _ _) _) _⟩
          · have d1 : decide (t ≤ 0) = false := decide_eq_false h2
            go_wp2
            go_quiet (fail)
            go_wp2
            go_roundw
            case rel => exact ⟨1, t, by omega, rfl, by go_num, Lib.hid (HS.out (by trivial) (by omega)), HET, _, rfl⟩
            case measure => simp [intOf]; omega
        · have HE2 : Hid (V = false) := Lib.hid (by rw [← HV.out]; exact HB.out (fun h => h1 h.1))
          have d1 : (f != 0) = true := by simpa using h1
          clear h1 HB HS
          go_wp2
          go_quiet (fail)
          go_wp2
          go_ret
          exact ⟨by rw [HE2.out]; rfl, below_drewN (below_drewN (Below.refl _ _) _) _⟩
      | succ k =>
        have hlt0 : k < l.length := by omega
        obtain ⟨b, off, rfl, hb, hc0, hc1, hc2⟩ := hh.at_ hlt1
        obtain ⟨b', off', he, hb', hp0, hp1, hp2⟩ := hh.at_ hlt0
        injection he with he; injection he with he1 he2; subst he1; subst he2
        have HS := fun h1 h2 h3 => Ok.succ HO.out hlt1 h1 h2 h3
        rw [HE.out] at HS
        have HBV := bad_val l N k hlt1
        obtain ⟨X, hX⟩ : ∃ X, l[k + 1] = X := ⟨_, rfl⟩
        rw [hX] at hc0 hc1 hc2 HET HB HS HBV
        obtain ⟨f, t, v⟩ := X
        obtain ⟨Y, hY⟩ : ∃ X, l[k] = X := ⟨_, rfl⟩
        rw [hY] at hp0 hp1 hp2 HS HBV
        obtain ⟨pf, pt, pv⟩ := Y
        simp only at hc0 hc1 hc2 HET HB HS HBV hp0 hp1 hp2
        replace HB := Lib.hid HB
        replace HS := Lib.hid HS
        replace HET := Lib.hid HET
        replace HBV := Lib.hid HBV
        clear hX h hh hY
        by_cases h1 : f = E
        · subst h1
          by_cases h2 : t ≤ f
          · have HE2 : Hid (V = false) := Lib.hid (by rw [← HV.out]; exact HB.out (fun h => by omega))
            have d1 : decide (t ≤ f) = true := decide_eq_true h2
            go_wp2
            go_quiet (fail)
            go_wp2
            go_ret
            exact ⟨by rw [HE2.out]; rfl, below_drewN (below_drewN (Below.refl _ _) _) _⟩
          · have d1 : decide (t ≤ f) = false := decide_eq_false h2
            have d2 : decide ((0 : Int) < (k : Int) + 1) = true := decide_eq_true (by omega)
            by_cases h3 : v = pv
            · have HE2 : Hid (V = false) := Lib.hid (by rw [← HV.out]; exact HBV.out h3)
              subst h3
              go_wp2
              go_quiet (fail)
              go_wp2
              go_ret
              exact ⟨by rw [HE2.out]; rfl, below_drewN (below_drewN (Below.refl _ _) _) _⟩
            · have d3 : (v == pv) = false := by simpa using h3
              have HS2 := Lib.hid (HS.out rfl (by omega) h3)
              clear h3 HB HS HBV
              go_wp2
              go_quiet (fail)
              go_wp2
              go_roundw
              case rel => exact ⟨k + 1 + 1, t, by omega, rfl, by go_num, HS2, HET, _, rfl⟩
              case measure => simp [intOf]; omega
        · have HE2 : Hid (V = false) := Lib.hid (by rw [← HV.out]; exact HB.out (fun h => h1 h.1))
          have d1 : (f != E) = true := by simpa using h1
          clear h1 HB HS HBV
          go_wp2
          go_quiet (fail)
          go_wp2
          go_ret
          exact ⟨by rw [HE2.out]; rfl, below_drewN (below_drewN (Below.refl _ _) _) _⟩
    · obtain rfl : k = n := by omega
      have HF := HO.out.end_ (by rw [← HL.out]; exact Nat.le_refl _) N
      have hE := HE.out
      rw [HL.out, List.take_length] at hE
      rw [HV.out, hE] at HF
      have HF := Lib.hid HF
      clear hE
      go_wp2
      go_ret
      exact ⟨by rw [HF.out]; rfl, below_drewN (Below.refl _ _) _⟩
end Go.Proofs.Ytojplkkmpnaibaa
