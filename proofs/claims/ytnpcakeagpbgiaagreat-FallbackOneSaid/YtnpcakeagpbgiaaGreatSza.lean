/-
  Contracts of the document's Same over spans. No condition but bounds on lengths.
-/
import Derived.Test.YtnpcakeagpbgiaaGreatZSpn
import Derived.Deep.Fields
import Derived.BigQuiet
import Derived.Deep.QuietTactic
set_option linter.unusedVariables false
namespace Go.Proofs.YtnpcakeagpbgiaaGreat.S5
open Go.ChangeShapes Go.WideShapes Go.ChangeAt Go.RowKit

theorem take_eq {α : Type} (xs ys : List α) (k : Nat) (h1 : k < xs.length) (h2 : k < ys.length) (h : xs.take k = ys.take k) (he : xs[k] = ys[k]) : xs.take (k + 1) = ys.take (k + 1) := by
  rw [List.take_add_one, List.take_add_one, List.getElem?_eq_getElem h1, List.getElem?_eq_getElem h2, h, he]
theorem ne_at {α : Type} [DecidableEq α] (xs ys : List α) (k : Nat) (h1 : k < xs.length) (h2 : k < ys.length) (he : xs[k] ≠ ys[k]) : decide (xs = ys) = false := by
  apply decide_eq_false
  intro h
  subst h
  exact he rfl
theorem neS_run (p q : Sp) (w : World) : (binOp .neq 32 (.agg #[.int .i64 p.f, .int .i64 p.t, .int .i64 p.v]) (.agg #[.int .i64 q.f, .int .i64 q.t, .int .i64 q.v])).run Tryz.prog w = .ok (.bool (!decide (p = q))) w := by
  obtain ⟨a, b, c⟩ := p
  obtain ⟨a', b', c'⟩ := q
  simp [go_sem]
  repeat' split
  all_goals simp_all

set_option maxHeartbeats 1000000 in
theorem sameS_ok (A B : Option Addr) (c d n m : Nat) (xs ys : List Sp) (w : World) (hnl : n = xs.length) (hml : m = ys.length) (hn : n ≤ 1000000) (hm : m ≤ 1000000) (h1 : HasS w w.heap.size A xs) (h2 : HasS w w.heap.size B ys) :
    Calls Tryz.prog 7 #[.slice A n c, .slice B m d] w fun e w' => e = .returned (.bool (decide (xs = ys))) ∧ Up w w' := by
  by_cases hl : n = m
  · subst hl
    obtain ⟨V, hV⟩ : ∃ V, decide (xs = ys) = V := ⟨_, rfl⟩
    rw [hV]
    have HV := Lib.hid hV
    have HL := Lib.hid hnl
    have HM := Lib.hid hml
    clear hV hnl hml
    go_enter Tryz.func7, Tryz.ntmps7
    go_wp2
    go_loopw [5] (fun i wr => ∃ k : Nat, k ≤ n ∧ i = .int .i64 k ∧ Hid (xs.take k = ys.take k) ∧ ∃ q, wr = w.drewN q) (fun i _ => n - (intOf i).toNat)
    case atStart => exact ⟨0, by omega, rfl, Lib.hid rfl, 0, rfl⟩
    case round =>
      obtain ⟨k, hk, rfl, HT, q, rfl⟩ := hrel
      by_cases hlt : k < n
      · have hlt1 : k < xs.length := by rw [← HL.out]; exact hlt
        have hlt2 : k < ys.length := by rw [← HM.out]; exact hlt
        obtain ⟨b, off, rfl, hb, hc0, hc1, hc2⟩ := h1.at_ hlt1
        obtain ⟨b2, off2, rfl, hb2, hd0, hd1, hd2⟩ := h2.at_ hlt2
        obtain ⟨X, hX⟩ : ∃ X, xs[k] = X := ⟨_, rfl⟩
        obtain ⟨Y, hY⟩ : ∃ Y, ys[k] = Y := ⟨_, rfl⟩
        rw [hX] at hc0 hc1 hc2
        rw [hY] at hd0 hd1 hd2
        have HX := Lib.hid hX
        have HY := Lib.hid hY
        have hne := fun w => neS_run X Y w
        have HLT := Lib.hid hlt1
        have HLT2 := Lib.hid hlt2
        clear hX hY h1 h2
        by_cases hxy : X = Y
        · have HTn := Lib.hid (take_eq xs ys k HLT.out HLT2.out HT.out (by rw [HX.out, HY.out]; exact hxy))
          rw [decide_eq_true hxy] at hne
          obtain ⟨f, t, v⟩ := X
          obtain ⟨f', t', v'⟩ := Y
          simp only at hc0 hc1 hc2 hd0 hd1 hd2 hne
          clear hxy
          go_wp2
          go_quiet (fail)
          go_wp2
          go_roundw
          case rel => exact ⟨k + 1, by omega, by go_num, HTn, _, rfl⟩
          case measure => simp [intOf]; omega
        · have HF := Lib.hid (ne_at xs ys k HLT.out HLT2.out (by rw [HX.out, HY.out]; exact hxy))
          rw [decide_eq_false hxy] at hne
          obtain ⟨f, t, v⟩ := X
          obtain ⟨f', t', v'⟩ := Y
          simp only at hc0 hc1 hc2 hd0 hd1 hd2 hne
          clear hxy
          go_wp2
          go_quiet (fail)
          go_wp2
          go_ret
          exact ⟨by rw [← HV.out, HF.out]; rfl, Up.drewN (Up.drewN (Up.refl _) _) _⟩
      · obtain rfl : k = n := by omega
        have HE : Hid (V = true) := Lib.hid (by
          have := HT.out
          rw [List.take_of_length_le (by rw [← HL.out]; omega), List.take_of_length_le (by rw [← HM.out]; omega)] at this
          rw [← HV.out, this]; simp)
        go_wp2
        go_ret
        exact ⟨by rw [HE.out]; rfl, Up.drewN (Up.refl _) _⟩
  · have e : decide (xs = ys) = false := decide_eq_false (fun h => hl (by rw [hnl, hml, h]))
    rw [e]
    clear e
    have hl2 : ¬ ((n : Int) = m) := by omega
    clear hl
    go_enter Tryz.func7, Tryz.ntmps7
    go_wp2
    go_ret
    exact ⟨rfl, Up.refl _⟩
end Go.Proofs.YtnpcakeagpbgiaaGreat.S5

/-
  Contracts of At (both) and of Whole (both): any spans. No condition but the length.
-/
set_option linter.unusedVariables false
namespace Go.Proofs.YtnpcakeagpbgiaaGreat.S5
open Go.ChangeShapes Go.WideShapes Go.ChangeAt Go.RowKit

def atP : List Sp → Int → Int
  | [], _ => 0
  | s :: l, i => if s.f ≤ i ∧ i < s.t then s.v else atP l i
theorem atP_drop (l : List Sp) (k : Nat) (i : Int) (h : k < l.length) : atP (l.drop k) i = if l[k].f ≤ i ∧ i < l[k].t then l[k].v else atP (l.drop (k + 1)) i := by
  rw [List.drop_eq_getElem_cons h]; rfl

set_option maxHeartbeats 1000000 in
theorem rat_ok (A : Option Addr) (c n : Nat) (l : List Sp) (i : Int) (w : World) (hnl : n = l.length) (hn : n ≤ 1000000) (h : HasS w w.heap.size A l) :
    Calls Tryz.prog 22 #[.slice A n c, .int .i64 i] w fun e w' => e = .returned (.int .i64 (atP l i)) ∧ Up w w' := by
  obtain ⟨V, hV⟩ : ∃ V, atP l i = V := ⟨_, rfl⟩
  rw [hV]
  have HV := Lib.hid (show atP (l.drop 0) i = V from hV)
  have HL := Lib.hid hnl
  clear hV hnl
  go_enter Tryz.func22, Tryz.ntmps22
  go_wp2
  go_loopw [5] (fun j wr => ∃ k : Nat, k ≤ n ∧ j = .int .i64 k ∧ Hid (atP (l.drop k) i = V) ∧ wr = w) (fun j _ => n - (intOf j).toNat)
  case atStart => exact ⟨0, by omega, rfl, HV, rfl⟩
  case round =>
    clear HV
    obtain ⟨k, hk, rfl, HT, rfl⟩ := hrel
    by_cases hlt : k < n
    · have hlt1 : k < l.length := by rw [← HL.out]; exact hlt
      obtain ⟨b, off, rfl, hb, hc0, hc1, hc2⟩ := h.at_ hlt1
      have hat := atP_drop l k i hlt1
      obtain ⟨X, hX⟩ : ∃ X, l[k] = X := ⟨_, rfl⟩
      rw [hX] at hc0 hc1 hc2 hat
      obtain ⟨f, t, v⟩ := X
      simp only at hc0 hc1 hc2 hat
      rw [HT.out] at hat
      have HA := Lib.hid hat
      clear hX h HT hat
      by_cases h1 : f ≤ i
      · by_cases h2 : i < t
        · have HE : Hid (V = v) := Lib.hid (by rw [HA.out, if_pos ⟨h1, h2⟩])
          go_wp2
          go_ret
          exact ⟨by rw [HE.out]; rfl, Up.refl _⟩
        · have HE : Hid (V = atP (l.drop (k + 1)) i) := Lib.hid (by rw [HA.out, if_neg (fun h => h2 h.2)])
          go_wp2
          go_roundw
          case rel => exact ⟨k + 1, by omega, by go_num, Lib.hid HE.out.symm, by trivial⟩
          case measure => simp [intOf]; omega
      · have HE : Hid (V = atP (l.drop (k + 1)) i) := Lib.hid (by rw [HA.out, if_neg (fun h => h1 h.1)])
        go_wp2
        go_roundw
        case rel => exact ⟨k + 1, by omega, by go_num, Lib.hid HE.out.symm, by trivial⟩
        case measure => simp [intOf]; omega
    · obtain rfl : k = n := by omega
      have HE : Hid (V = 0) := Lib.hid (by
        have := HT.out
        rw [List.drop_of_length_le (by rw [← HL.out]; omega)] at this
        exact this.symm)
      go_wp2
      go_ret
      exact ⟨by rw [HE.out]; rfl, Up.refl _⟩

set_option maxHeartbeats 1000000 in
theorem at_ok (A : Option Addr) (c n : Nat) (l : List Sp) (i : Int) (w : World) (hnl : n = l.length) (hn : n ≤ 1000000) (h : HasS w w.heap.size A l) :
    Calls Tryz.prog 13 #[.slice A n c, .int .i64 i] w fun e w' => e = .returned (.int .i64 (atP l i)) ∧ Up w w' := by
  obtain ⟨V, hV⟩ : ∃ V, atP l i = V := ⟨_, rfl⟩
  rw [hV]
  have HV := Lib.hid (show atP (l.drop 0) i = V from hV)
  have HL := Lib.hid hnl
  clear hV hnl
  go_enter Tryz.func13, Tryz.ntmps13
  go_wp2
  go_loopw [9] (fun j wr => ∃ k : Nat, k ≤ n ∧ j = .int .i64 k ∧ Hid (atP (l.drop k) i = V) ∧ Up w wr) (fun j _ => n - (intOf j).toNat)
  case atStart => exact ⟨0, by omega, rfl, HV, Up.refl _⟩
  case round =>
    clear HV
    obtain ⟨k, hk, rfl, HT, hbl⟩ := hrel
    by_cases hlt : k < n
    · have hlt1 : k < l.length := by rw [← HL.out]; exact hlt
      have hh := h.carry hbl.1
      obtain ⟨b, off, rfl, hb, hc0, hc1, hc2⟩ := hh.at_ hlt1
      have hat := atP_drop l k i hlt1
      have hsz := hbl.1.size
      obtain ⟨X, hX⟩ : ∃ X, l[k] = X := ⟨_, rfl⟩
      rw [hX] at hc0 hc1 hc2 hat
      obtain ⟨f, t, v⟩ := X
      simp only at hc0 hc1 hc2 hat
      rw [HT.out] at hat
      have HA := Lib.hid hat
      clear hX h hh HT hat
      by_cases h1 : f ≤ i
      · by_cases h2 : i < t
        · have HE : Hid (V = v) := Lib.hid (by rw [HA.out, if_pos ⟨h1, h2⟩])
          go_wp2
          go_ret
          exact ⟨by rw [HE.out]; rfl, hbl.alloc _⟩
        · have HE : Hid (V = atP (l.drop (k + 1)) i) := Lib.hid (by rw [HA.out, if_neg (fun h => h2 h.2)])
          go_wp2
          go_roundw
          case rel => exact ⟨k + 1, by omega, by go_num, Lib.hid HE.out.symm, hbl.alloc _⟩
          case measure => simp [intOf]; omega
      · have HE : Hid (V = atP (l.drop (k + 1)) i) := Lib.hid (by rw [HA.out, if_neg (fun h => h1 h.1)])
        go_wp2
        go_roundw
        case rel => exact ⟨k + 1, by omega, by go_num, Lib.hid HE.out.symm, hbl.alloc _⟩
        case measure => simp [intOf]; omega
    · obtain rfl : k = n := by omega
      have HE : Hid (V = 0) := Lib.hid (by
        have := HT.out
        rw [List.drop_of_length_le (by rw [← HL.out]; omega)] at this
        exact this.symm)
      go_wp2
      go_ret
      exact ⟨by rw [HE.out]; rfl, hbl⟩

/-- the span at k is as it must be in a whole list -/
def okAt (l : List Sp) (k : Nat) : Prop := ∃ s, l[k]? = some s ∧ s.f = endS (l.take k) ∧ s.f < s.t ∧ ∀ p, 0 < k → l[k - 1]? = some p → s.v ≠ p.v
def WholeP (l : List Sp) (n : Int) : Prop := (∀ k, k < l.length → okAt l k) ∧ endS l = n
noncomputable def wholeB (l : List Sp) (n : Int) : Bool := @decide (WholeP l n) (Classical.propDecidable _)
theorem wholeB_true (l : List Sp) (n : Int) (h : WholeP l n) : wholeB l n = true := by unfold wholeB; simp [h]
theorem wholeB_false (l : List Sp) (n : Int) (h : ¬ WholeP l n) : wholeB l n = false := by unfold wholeB; simp [h]
theorem endS_take (l : List Sp) (k : Nat) (h : k < l.length) : endS (l.take (k + 1)) = l[k].t := by
  rw [List.take_add_one, List.getElem?_eq_getElem h]
  exact endS_snoc _ _
theorem bad_at (l : List Sp) (n : Int) (k : Nat) (h : k < l.length) (hb : ¬ (l[k].f = endS (l.take k) ∧ l[k].f < l[k].t)) : wholeB l n = false :=
  wholeB_false _ _ fun hw => by
    obtain ⟨s, hs, h1, h2, _⟩ := hw.1 k h
    rw [List.getElem?_eq_getElem h] at hs
    injection hs with hs
    subst hs
    exact hb ⟨h1, h2⟩
theorem bad_val (l : List Sp) (n : Int) (k : Nat) (h : k + 1 < l.length) (hb : l[k + 1].v = l[k].v) : wholeB l n = false :=
  wholeB_false _ _ fun hw => by
    obtain ⟨s, hs, _, _, h3⟩ := hw.1 (k + 1) h
    rw [List.getElem?_eq_getElem h] at hs
    injection hs with hs
    subst hs
    exact h3 _ (by omega) (by rw [show k + 1 - 1 = k by omega]; exact List.getElem?_eq_getElem (by omega)) hb
/-- all spans before k are as they must be -/
def Ok (l : List Sp) (k : Nat) : Prop := ∀ j, j < k → okAt l j
theorem Ok.succ0 {l : List Sp} (h0 : 0 < l.length) (h1 : l[0].f = 0) (h2 : l[0].f < l[0].t) : Ok l 1 := fun j hj => by
  obtain rfl : j = 0 := by omega
  exact ⟨_, List.getElem?_eq_getElem h0, by rw [h1]; rfl, h2, fun p hp => absurd hp (by omega)⟩
theorem Ok.succ {l : List Sp} {k : Nat} (h : Ok l (k + 1)) (h0 : k + 1 < l.length) (h1 : l[k + 1].f = endS (l.take (k + 1))) (h2 : l[k + 1].f < l[k + 1].t) (h3 : l[k + 1].v ≠ l[k].v) : Ok l (k + 1 + 1) := fun j hj => by
  rcases Nat.lt_or_ge j (k + 1) with hj' | hj'
  · exact h j hj'
  obtain rfl : j = k + 1 := by omega
  refine ⟨_, List.getElem?_eq_getElem h0, h1, h2, fun p _ hp => ?_⟩
  rw [show k + 1 - 1 = k by omega, List.getElem?_eq_getElem (by omega)] at hp
  injection hp with hp
  rw [← hp]
  exact h3
theorem Ok.end_ {l : List Sp} {k : Nat} (h : Ok l k) (hk : l.length ≤ k) (n : Int) : wholeB l n = decide (endS l = n) := by
  unfold wholeB WholeP
  by_cases he : endS l = n
  · rw [decide_eq_true he]
    simp only [decide_eq_true_eq]
    exact ⟨fun j hj => h j (by omega), he⟩
  · rw [decide_eq_false he]
    simp [he]
theorem WholeP.nonneg {l : List Sp} {n : Int} (h : WholeP l n) : 0 ≤ n := by
  obtain ⟨h1, h2⟩ := h
  have hall : ∀ k, k ≤ l.length → 0 ≤ endS (l.take k) := by
    intro k
    induction k with
    | zero => intro _; simp [endS]
    | succ k ih =>
      intro hk
      obtain ⟨s, hs, e1, e2, _⟩ := h1 k (by omega)
      rw [endS_take _ _ (by omega)]
      rw [List.getElem?_eq_getElem (by omega)] at hs
      injection hs with hs
      rw [hs]
      have := ih (by omega)
      omega
  have := hall l.length (Nat.le_refl _)
  rw [List.take_length] at this
  omega


set_option maxHeartbeats 1000000 in
theorem whole_ok (A : Option Addr) (c n : Nat) (l : List Sp) (N : Int) (w : World) (hnl : n = l.length) (hn : n ≤ 1000000) (h : HasS w w.heap.size A l) :
    Calls Tryz.prog 10 #[.slice A n c, .int .i64 N] w fun e w' => e = .returned (.bool (wholeB l N)) ∧ Up w w' := by
  obtain ⟨V, hV⟩ : ∃ V, wholeB l N = V := ⟨_, rfl⟩
  rw [hV]
  have HV := Lib.hid hV
  have HL := Lib.hid hnl
  clear hV hnl
  go_enter Tryz.func10, Tryz.ntmps10
  go_wp2
  go_loopw [5, 10] (fun a j wr => ∃ (k : Nat) (E : Int), k ≤ n ∧ a = .int .i64 E ∧ j = .int .i64 k ∧ Hid (Ok l k) ∧ Hid (endS (l.take k) = E) ∧ Up w wr) (fun _ j _ => n - (intOf j).toNat)
  case atStart => exact ⟨0, 0, by omega, rfl, rfl, Lib.hid (fun j hj => absurd hj (by omega)), Lib.hid rfl, Up.refl _⟩
  case round =>
    obtain ⟨k, E, hk, rfl, rfl, HO, HE, hbl⟩ := hrel
    by_cases hlt : k < n
    · have hlt1 : k < l.length := by rw [← HL.out]; exact hlt
      have hh := h.carry hbl.1
      have hsz := hbl.1.size
      have HET := endS_take l k hlt1
      have HB := bad_at l N k hlt1
      rw [HE.out] at HB
      cases k with
      | zero =>
        obtain ⟨b, off, rfl, hb, hc0, hc1, hc2⟩ := hh.at_ hlt1
        have HS := fun h1 h2 => Ok.succ0 (l := l) hlt1 h1 h2
        have hE0 : E = 0 := by rw [← HE.out]; rfl
        obtain ⟨X, hX⟩ : ∃ X, l[0] = X := ⟨_, rfl⟩
        rw [hX] at hc0 hc1 hc2 HET HB HS
        obtain ⟨f, t, v⟩ := X
        simp only [Nat.zero_mul, Nat.add_zero] at hc0 hc1 hc2 HET HB HS
        replace HB := Lib.hid HB
        replace HS := Lib.hid HS
        replace HET := Lib.hid HET
        subst hE0
        clear hX h hh
        by_cases h1 : f = 0
        · subst h1
          by_cases h2 : t ≤ 0
          · have HE2 : Hid (V = false) := Lib.hid (by rw [← HV.out]; exact HB.out (fun h => by omega))
            have d1 : decide (t ≤ 0) = true := decide_eq_true h2
            go_wp2
            go_quiet (fail)
            go_wp2
            go_ret
            exact ⟨by rw [HE2.out]; rfl, Up.drewN (hbl.alloc _) _⟩
          · have d1 : decide (t ≤ 0) = false := decide_eq_false h2
            go_wp2
            go_quiet (fail)
            go_wp2
            go_roundw
            case rel => exact ⟨1, t, by omega, rfl, by go_num, Lib.hid (HS.out (by trivial) (by omega)), HET, Up.drewN (hbl.alloc _) _⟩
            case measure => simp [intOf]; omega
        · have HE2 : Hid (V = false) := Lib.hid (by rw [← HV.out]; exact HB.out (fun h => h1 h.1))
          have d1 : (f != 0) = true := by simpa using h1
          clear h1 HB HS
          go_wp2
          go_quiet (fail)
          go_wp2
          go_ret
          exact ⟨by rw [HE2.out]; rfl, Up.drewN (hbl.alloc _) _⟩
      | succ k =>
        have hlt0 : k < l.length := by omega
        obtain ⟨b, off, rfl, hb, hc0, hc1, hc2⟩ := hh.at_ hlt1
        obtain ⟨b', off', he, hb', hp0, hp1, hp2⟩ := hh.at_ hlt0
        injection he with he; injection he with he1 he2; subst he1; subst he2
        have HS := fun h1 h2 h3 => Ok.succ HO.out hlt1 h1 h2 h3
        rw [HE.out] at HS
        have HBV := bad_val l N k hlt1
        obtain ⟨X, hX⟩ : ∃ X, l[k + 1] = X := ⟨_, rfl⟩
        rw [hX] at hc0 hc1 hc2 HET HB HS HBV
        obtain ⟨f, t, v⟩ := X
        obtain ⟨Y, hY⟩ : ∃ X, l[k] = X := ⟨_, rfl⟩
        rw [hY] at hp0 hp1 hp2 HS HBV
        obtain ⟨pf, pt, pv⟩ := Y
        simp only at hc0 hc1 hc2 HET HB HS HBV hp0 hp1 hp2
        replace HB := Lib.hid HB
        replace HS := Lib.hid HS
        replace HET := Lib.hid HET
        replace HBV := Lib.hid HBV
        clear hX h hh hY
        by_cases h1 : f = E
        · subst h1
          by_cases h2 : t ≤ f
          · have HE2 : Hid (V = false) := Lib.hid (by rw [← HV.out]; exact HB.out (fun h => by omega))
            have d1 : decide (t ≤ f) = true := decide_eq_true h2
            go_wp2
            go_quiet (fail)
            go_wp2
            go_ret
            exact ⟨by rw [HE2.out]; rfl, Up.drewN (hbl.alloc _) _⟩
          · have d1 : decide (t ≤ f) = false := decide_eq_false h2
            have d2 : decide ((0 : Int) < (k : Int) + 1) = true := decide_eq_true (by omega)
            by_cases h3 : v = pv
            · have HE2 : Hid (V = false) := Lib.hid (by rw [← HV.out]; exact HBV.out h3)
              subst h3
              go_wp2
              go_quiet (fail)
              go_wp2
              go_ret
              exact ⟨by rw [HE2.out]; rfl, Up.drewN (hbl.alloc _) _⟩
            · have d3 : (v == pv) = false := by simpa using h3
              have HS2 := Lib.hid (HS.out rfl (by omega) h3)
              clear h3 HB HS HBV
              go_wp2
              go_quiet (fail)
              go_wp2
              go_roundw
              case rel => exact ⟨k + 1 + 1, t, by omega, rfl, by go_num, HS2, HET, Up.drewN (hbl.alloc _) _⟩
              case measure => simp [intOf]; omega
        · have HE2 : Hid (V = false) := Lib.hid (by rw [← HV.out]; exact HB.out (fun h => h1 h.1))
          have d1 : (f != E) = true := by simpa using h1
          clear h1 HB HS HBV
          go_wp2
          go_quiet (fail)
          go_wp2
          go_ret
          exact ⟨by rw [HE2.out]; rfl, Up.drewN (hbl.alloc _) _⟩
    · obtain rfl : k = n := by omega
      have HF := HO.out.end_ (by rw [← HL.out]; exact Nat.le_refl _) N
      have hE := HE.out
      rw [HL.out, List.take_length] at hE
      rw [HV.out, hE] at HF
      have HF := Lib.hid HF
      clear hE
      go_wp2
      go_ret
      exact ⟨by rw [HF.out]; rfl, hbl⟩
end Go.Proofs.YtnpcakeagpbgiaaGreat.S5

/-
  Contracts of the document's Of (spans of values). No condition but bounds on lengths.
-/
set_option linter.unusedVariables false
namespace Go.Proofs.YtnpcakeagpbgiaaGreat.S5
open Go.ChangeShapes Go.WideShapes Go.ChangeAt Go.RowKit

theorem endS_get (l' : List Sp) (s : Sp) (i : Nat) (h : i = l'.length) : (l' ++ [s])[i]? = some s := by subst h; simp
theorem of_last (ys : List Int) (y : Int) : ∃ l' f, of (ys ++ [y]) = l' ++ [⟨f, ys.length + 1, y⟩] := by
  have hp := parts_of (ys ++ [y])
  have he := endS_of (ys ++ [y])
  rcases snoc_cases (of (ys ++ [y])) with h | ⟨l', s, h⟩
  · rw [h] at he; simp [endS] at he; omega
  · rw [h] at hp he
    rw [endS_snoc] at he
    obtain ⟨k, zs, hk, e4, _, _, _⟩ := hp.last
    obtain ⟨m, rfl⟩ : ∃ m, k = m + 1 := ⟨k - 1, by omega⟩
    rw [replicate_snoc, ← List.append_assoc] at e4
    have e5 := List.append_inj_right' e4 rfl
    injection e5 with e5
    refine ⟨l', s.f, ?_⟩
    rw [h]
    obtain ⟨f, t, v⟩ := s
    simp at he e5
    subst e5
    rw [he]
theorem of_step (xs : List Int) (i : Nat) (h : i < xs.length) : of (xs.take (i + 1)) = ext (of (xs.take i)) (i + 1) xs[i] := by
  rw [List.take_add_one, List.getElem?_eq_getElem h]
  show of (xs.take i ++ [xs[i]]) = _
  rw [of_snoc', List.length_take]
  congr 1
  omega
theorem of_step0 (xs : List Int) (h : 0 < xs.length) : of (xs.take 1) = [] ++ [⟨0, 1, xs[0]⟩] := by
  rw [of_step xs 0 h]
  simp [of, ext_nil]
theorem of_same (xs : List Int) (i : Nat) (h : i + 1 < xs.length) (he : xs[i + 1] = xs[i]) : ∃ l' f, of (xs.take (i + 1)) = l' ++ [⟨f, i + 1, xs[i]⟩] ∧ of (xs.take (i + 1 + 1)) = l' ++ [⟨f, i + 1 + 1, xs[i]⟩] := by
  obtain ⟨l', f, h1⟩ := of_last (xs.take i) xs[i]
  have e : xs.take i ++ [xs[i]] = xs.take (i + 1) := by rw [List.take_add_one, List.getElem?_eq_getElem (by omega)]; rfl
  rw [e, List.length_take, show min i xs.length = i by omega] at h1
  refine ⟨l', f, h1, ?_⟩
  rw [of_step xs (i + 1) h, h1, ext_snoc _ _ _ _ (by simp; omega), if_pos he.symm]
  simp
theorem of_other (xs : List Int) (i : Nat) (h : i + 1 < xs.length) (he : xs[i + 1] ≠ xs[i]) : of (xs.take (i + 1 + 1)) = of (xs.take (i + 1)) ++ [⟨i + 1, i + 1 + 1, xs[i + 1]⟩] := by
  obtain ⟨l', f, h1⟩ := of_last (xs.take i) xs[i]
  have e : xs.take i ++ [xs[i]] = xs.take (i + 1) := by rw [List.take_add_one, List.getElem?_eq_getElem (by omega)]; rfl
  rw [e, List.length_take, show min i xs.length = i by omega] at h1
  rw [of_step xs (i + 1) h, h1, ext_snoc _ _ _ _ (by simp; omega), if_neg (fun h => he h.symm)]
  simp

set_option maxHeartbeats 2000000 in
theorem of_ok (A : Option Addr) (c n : Nat) (xs : List Int) (w : World) (hnl : n = xs.length) (hn : n ≤ 100000) (h : Has w w.heap.size A (xs.map (Value.int .i64))) :
    Calls Tryz.prog 23 #[.slice A n c] w fun e w' => SpansOf w w' e (of xs) := by
  have HL := Lib.hid hnl
  clear hnl
  go_enter Tryz.func23, Tryz.ntmps23
  go_wp2
  go_loopw [3, 4] (fun v j wr => ∃ i : Nat, i ≤ n ∧ j = .int .i64 i ∧ MineS wr w.heap.size v (of (xs.take i)) ∧ Below w.heap.size w wr) (fun _ j _ => n - (intOf j).toNat)
  case atStart => exact ⟨0, by omega, rfl, MineS.nil_ _ _, Below.refl _ _⟩
  case round =>
    obtain ⟨i, hi, rfl, hown, hbl⟩ := hrel
    by_cases hlt : i < n
    · have hlt1 : i < xs.length := by rw [← HL.out]; exact hlt
      have hh := h.carry hbl
      have hsz := hbl.size
      have hlen := length_of (xs.take i)
      rw [List.length_take] at hlen
      cases i with
      | zero =>
        obtain ⟨b, off, rfl, hb, hc⟩ := hh.at_int hlt1
        have HS := of_step0 xs hlt1
        obtain ⟨X, hX⟩ : ∃ X, xs[0] = X := ⟨_, rfl⟩
        rw [hX] at hc HS
        replace HS := Lib.hid HS
        have hown : MineS wr w.heap.size u3 [] := hown
        simp only [Nat.add_zero] at hc
        clear hX h hh hlen
        go_wp2
        go_quiet (fail)
        go_wp2_with (at_builtin; refine wpList_pushS rfl _ _ 24 rfl (.agg #[.int .i64 0, .int .i64 0, .int .i64 0]) Tryz.underlying24 full32 rfl (by omega) w.heap.size _ [] ⟨0, 1, X⟩ w _ _ rfl (hown.drewN _) rfl rfl (below_drewN hbl _) hsz (by simp) ?_; intro v' w1 hown' hbl')
        go_roundw
        case rel => exact ⟨1, by omega, by go_num, by rw [HS.out]; exact hown', hbl'⟩
        case measure => simp [intOf]; omega
      | succ i =>
        have hlt0 : i < xs.length := by omega
        obtain ⟨b, off, rfl, hb, hc⟩ := hh.at_int hlt1
        obtain ⟨b', off', he, hb', hp⟩ := hh.at_int hlt0
        injection he with he; injection he with he1 he2; subst he1; subst he2
        have d2 : decide ((0 : Int) < (i : Int) + 1) = true := decide_eq_true (by omega)
        by_cases hxy : xs[i + 1] = xs[i]
        · obtain ⟨l', f, e1, e2⟩ := of_same xs i hlt1 hxy
          rw [hxy] at hc
          obtain ⟨X, hX⟩ : ∃ X, xs[i] = X := ⟨_, rfl⟩
          rw [hX] at hc hp e1 e2
          replace e2 := Lib.hid e2
          rw [e1] at hown hlen
          obtain ⟨g, c', rfl, _, hg1, hg2, hcell⟩ := hown.form (by simp)
          obtain ⟨k1, k2, k3⟩ := hcell l'.length _ (endS_get _ _ _ rfl)
          have hset := fun u => hown.setTo u
          have hfz : wr.frozen? ⟨g, 0 + l'.length * 3 + 1, none⟩ = false := by
            rcases hown.2 with ⟨hx, _⟩ | ⟨g', cap, cur, hx, _, hg, _⟩
            · cases hx
            · injection hx with hx1 hx2 hx3
              injection hx1 with hx1
              injection hx1 with hx1
              subst hx1
              exact At.free hg _
          have hll : (l' ++ [(⟨f, i + 1, X⟩ : Sp)]).length = l'.length + 1 := by simp
          rw [hll] at hset hlen ⊢
          obtain ⟨m, hm⟩ : ∃ m, l'.length = m := ⟨_, rfl⟩
          rw [hm] at k1 k2 k3 hset hfz hlen ⊢
          simp only [Nat.zero_add] at k1 k2 k3 hset hfz
          have HE := Lib.hid (fun q => (MineS.drewN (hset (i + 1 + 1)) q))
          clear hX h hh hcell hll hm hown e1 hxy hset
          go_wp2
          go_quiet (fail)
          go_wp2
          go_roundw
          case rel => exact ⟨i + 1 + 1, by omega, by go_num, by rw [e2.out]; exact HE.out _, (below_drewN hbl _).setCell (p := ⟨g, m * 3 + 1, none⟩) hg1 _⟩
          case measure => simp [intOf]; omega
        · have e2 := of_other xs i hlt1 hxy
          obtain ⟨X, hX⟩ : ∃ X, xs[i + 1] = X := ⟨_, rfl⟩
          obtain ⟨Y, hY⟩ : ∃ X, xs[i] = X := ⟨_, rfl⟩
          rw [hX] at hc e2 hxy
          rw [hY] at hp hxy
          replace e2 := Lib.hid e2
          have d3 : (X == Y) = false := by simpa using hxy
          have hlen2 : (of (xs.take (i + 1))).length ≤ 1000000 := by omega
          generalize of (xs.take (i + 1)) = L at hown hlen2 e2
          clear hX hY h hh hlen hxy
          go_wp2
          go_quiet (fail)
          go_wp2_with (at_builtin; refine wpList_pushS rfl _ _ 24 rfl (.agg #[.int .i64 0, .int .i64 0, .int .i64 0]) Tryz.underlying24 full32 rfl (by omega) w.heap.size _ L ⟨i + 1, i + 1 + 1, X⟩ w _ _ rfl (hown.drewN _) rfl rfl (below_drewN hbl _) hsz hlen2 ?_; intro v' w1 hown' hbl')
          go_roundw
          case rel => exact ⟨i + 1 + 1, by omega, by go_num, by rw [e2.out]; exact hown', hbl'⟩
          case measure => simp [intOf]; omega
    · obtain rfl : i = n := by omega
      rw [List.take_of_length_le (by rw [← HL.out]; omega)] at hown
      go_wp2
      go_ret
      exact ⟨_, rfl, hown.spansV hbl⟩

end Go.Proofs.YtnpcakeagpbgiaaGreat.S5
