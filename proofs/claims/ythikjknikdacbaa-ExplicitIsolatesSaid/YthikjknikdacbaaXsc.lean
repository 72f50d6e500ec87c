/-
  Contracts: opening and closing an embedding, what a removed character does to the program's state. Condition: at most 1000 entries, counters of at most 1000.
-/
import Derived.Test.YthikjknikdacbaaXsb
import Derived.IntWalk
set_option linter.unusedVariables false
set_option linter.unusedSimpArgs false
namespace Go.Proofs.Ythikjknikdacbaa
open Go.ChangeShapes Go.WideShapes Go.ChangeAt Go.RowKit Go.Sort

section
variable {B : Nat} {w : World} {g : Nat} {s : Xs}
theorem St.cells (h : St B w g s) : w.cell? ⟨g, 1, none⟩ = some (.int .i64 (s.isos : Int)) ∧ w.cell? ⟨g, 2, none⟩ = some (.int .i64 (s.embs : Int)) ∧ w.cell? ⟨g, 3, none⟩ = some (.int .i64 (s.vals : Int)) ∧ ∀ j, w.frozen? ⟨g, j, none⟩ = false := by
  obtain ⟨lo, v, h1, h2, h3⟩ := h
  exact ⟨h1.cell 1 _ rfl, h1.cell 2 _ rfl, h1.cell 3 _ rfl, fun j => h1.free j⟩
theorem St.head (h : St B w g s) : ∃ A c, w.cell? ⟨g, 0, none⟩ = some (.slice A s.l.length c) ∧ s.l.length ≤ c ∧ HasN LE w w.heap.size A s.l := by
  obtain ⟨lo, v, h1, h2, h3⟩ := h
  obtain ⟨A, c, rfl, hc, _, hh⟩ := h2.has
  exact ⟨A, c, h1.cell 0 _ rfl, hc, hh⟩
theorem St.set1 (h : St B w g s) (x : Nat) (y : Int) (hy : y = x) : St B (w.setCell ⟨g, 1, none⟩ (.int .i64 y)) g ⟨s.l, x, s.embs, s.vals⟩ := by
  subst hy
  obtain ⟨lo, v, h1, h2, h3⟩ := h
  exact ⟨lo, v, h1.setCell 1 _, h2.stays fun b hb _ => Below.heap_setCell _ _ _ _ (fun e => h3 (by rw [hb, e])), h3⟩
theorem St.set2 (h : St B w g s) (x : Nat) (y : Int) (hy : y = x) : St B (w.setCell ⟨g, 2, none⟩ (.int .i64 y)) g ⟨s.l, s.isos, x, s.vals⟩ := by
  subst hy
  obtain ⟨lo, v, h1, h2, h3⟩ := h
  exact ⟨lo, v, h1.setCell 2 _, h2.stays fun b hb _ => Below.heap_setCell _ _ _ _ (fun e => h3 (by rw [hb, e])), h3⟩
theorem St.set3 (h : St B w g s) (x : Nat) (y : Int) (hy : y = x) : St B (w.setCell ⟨g, 3, none⟩ (.int .i64 y)) g ⟨s.l, s.isos, s.embs, x⟩ := by
  subst hy
  obtain ⟨lo, v, h1, h2, h3⟩ := h
  exact ⟨lo, v, h1.setCell 3 _, h2.stays fun b hb _ => Below.heap_setCell _ _ _ _ (fun e => h3 (by rw [hb, e])), h3⟩
/-- the stack is cut to its first k entries, k not 0 -/
theorem St.cut (h : St B w g s) {A : Option Addr} {n c : Nat} (hc : w.cell? ⟨g, 0, none⟩ = some (.slice A n c)) (k : Nat) (hk : k ≤ s.l.length) (h0 : 0 < s.l.length) : St B (w.setCell ⟨g, 0, none⟩ (.slice A k c)) g ⟨s.l.take k, s.isos, s.embs, s.vals⟩ := by
  obtain ⟨lo, v, h1, h2, h3⟩ := h
  have e : w.cell? ⟨g, 0, none⟩ = some v := h1.cell 0 _ rfl
  rw [hc] at e
  injection e with e
  subst e
  obtain ⟨g', c', hv, _⟩ := h2.form (by intro e0; rw [e0] at h0; simp at h0)
  injection hv with v1 v2 v3
  subst v1
  refine ⟨lo, _, h1.setCell 0 _, (h2.cut hk).stays fun b hb _ => Below.heap_setCell _ _ _ _ (fun e => h3 ?_), h3⟩
  have hb2 : some g' = some b := hb
  injection hb2 with hb2
  show some g' = some g
  rw [hb2, e]
end
def openX (s : Xs) (left : Bool) (ov : Nat) : Xs :=
  if roomX s (nextL (lastE s.l).lv left) = true then ⟨s.l ++ [⟨nextL (lastE s.l).lv left, ov, false⟩], s.isos, s.embs, s.vals⟩
  else if s.isos = 0 then ⟨s.l, s.isos, s.embs + 1, s.vals⟩ else s
theorem embed_open (s : Xs) (c : Int) : embedX s c = openX s (c == 17 || c == 18) (ovC c) := rfl

set_option maxHeartbeats 4000000 in
theorem open_ok (B g : Nat) (s : Xs) (left : Bool) (ov : Nat) (w : World) (hs : St B w g s) (hl : 0 < s.l.length ∧ s.l.length ≤ 1000) (hv : (lastE s.l).lv ≤ 125) (hm : s.embs ≤ 1000) :
    Calls Try.prog 37 #[.pointer (some ⟨g, 0, none⟩), .bool left, .int .i64 (ov : Int)] w fun x w' => x = .returned (.tuple #[]) ∧ Below B w w' ∧ St B w' g (openX s left ov) := by
  have hsz : B ≤ w.heap.size := by have := hs.lt; have := hs.lo; omega
  have hlo := hs.lo
  have HA := Lib.hid (above_ok B g s left w hs hl hv)
  have HP : Hid (∀ W, Up w W → Calls Try.prog 41 #[.pointer (some ⟨g, 0, none⟩), .agg #[.int .i64 (nextL (lastE s.l).lv left : Int), .int .i64 (ov : Int), .bool false]] W fun x w' => x = .returned (.bool (roomX s (nextL (lastE s.l).lv left))) ∧ Below B W w' ∧ St B w' g (if roomX s (nextL (lastE s.l).lv left) = true then ⟨s.l ++ [⟨nextL (lastE s.l).lv left, ov, false⟩], s.isos, s.embs, s.vals⟩ else s)) :=
    Lib.hid fun W hW => push_ok B g s ⟨nextL (lastE s.l).lv left, ov, false⟩ W (hs.up hW) hl.2
  have HR : Hid (openX s left ov = if roomX s (nextL (lastE s.l).lv left) = true then ⟨s.l ++ [⟨nextL (lastE s.l).lv left, ov, false⟩], s.isos, s.embs, s.vals⟩ else if s.isos = 0 then ⟨s.l, s.isos, s.embs + 1, s.vals⟩ else s) := Lib.hid rfl
  generalize openX s left ov = R at *
  generalize nextL (lastE s.l).lv left = N at *
  cases hr : roomX s N with
  | true =>
    rw [hr] at HP HR
    simp only [if_true] at HP HR
    clear hs
    go_enter Try.func37, Try.ntmps37
    go_wp2_with (first | (go_at_call 42; refine HA.out.mono ?_; rintro e u ⟨rfl, hu⟩) | (go_at_call 41; refine (HP.out _ hu).mono ?_; rintro e u2 ⟨rfl, hb, hs2⟩))
    go_end0
    exact ⟨rfl, (hu.1.mono hsz).trans hb, by rw [HR.out]; exact hs2⟩
  | false =>
    rw [hr] at HP HR
    simp only [if_false, Bool.false_eq_true, reduceCtorEq] at HP HR
    clear hs
    go_enter Try.func37, Try.ntmps37
    rcases Nat.eq_zero_or_pos s.isos with h0 | h0
    · have HR2 : Hid (R = ⟨s.l, s.isos, s.embs + 1, s.vals⟩) := Lib.hid (by rw [HR.out, if_pos h0])
      have H0 := Lib.hid h0
      clear h0
      go_wp2_with (first | (go_at_call 42; refine HA.out.mono ?_; rintro e u ⟨rfl, hu⟩) | (go_at_call 41; refine (HP.out _ hu).mono ?_; rintro e u2 ⟨rfl, hb, hs2⟩; obtain ⟨c1, c2, c3, c4⟩ := hs2.cells; rw [H0.out] at c1))
      go_end0
      exact ⟨rfl, ((hu.1.mono hsz).trans hb).setCell hlo _, by rw [HR2.out]; exact hs2.set2 (s.embs + 1) _ (by omega)⟩
    · have HR2 : Hid (R = s) := Lib.hid (by rw [HR.out, if_neg (by omega)])
      have h1 : ((s.isos : Int) == 0) = false := by simp; omega
      go_wp2_with (first | (go_at_call 42; refine HA.out.mono ?_; rintro e u ⟨rfl, hu⟩) | (go_at_call 41; refine (HP.out _ hu).mono ?_; rintro e u2 ⟨rfl, hb, hs2⟩; obtain ⟨c1, c2, c3, c4⟩ := hs2.cells))
      go_end0
      exact ⟨rfl, (hu.1.mono hsz).trans hb, by rw [HR2.out]; exact hs2⟩

set_option maxHeartbeats 4000000 in
theorem endEmb_ok (B g : Nat) (s : Xs) (w : World) (hs : St B w g s) (hl : 0 < s.l.length ∧ s.l.length ≤ 1000) (hm : s.embs ≤ 1000) :
    Calls Try.prog 38 #[.pointer (some ⟨g, 0, none⟩)] w fun x w' => x = .returned (.tuple #[]) ∧ Below B w w' ∧ St B w' g (popX s) := by
  have hsz : B ≤ w.heap.size := by have := hs.lt; have := hs.lo; omega
  have hlo := hs.lo
  obtain ⟨c1, c2, c3, c4⟩ := hs.cells
  obtain ⟨A, c, c0, hc, _⟩ := hs.head
  have HR : Hid (popX s = if 0 < s.isos then s else if 0 < s.embs then ⟨s.l, s.isos, s.embs - 1, s.vals⟩
    else if (lastE s.l).iso = false ∧ 1 < s.l.length then ⟨s.l.dropLast, s.isos, s.embs, s.vals⟩ else s) := Lib.hid rfl
  have HL := Lib.hid (last_ok B g s w hs hl)
  have HS := Lib.hid hs
  have HU : Hid (∀ W, Up w W → St B W g s ∧ W.cell? ⟨g, 0, none⟩ = some (.slice A s.l.length c) ∧ W.frozen? ⟨g, 0, none⟩ = false) := Lib.hid fun W hW => ⟨hs.up hW, hW.cell c0, (hs.up hW).cells.2.2.2 0⟩
  generalize popX s = R at *
  by_cases h0 : 0 < s.isos
  · have HR2 : Hid (R = s) := Lib.hid (by rw [HR.out, if_pos h0])
    have h1 : decide ((0 : Int) < (s.isos : Int)) = true := decide_eq_true (by omega)
    clear hs HR
    go_enter Try.func38, Try.ntmps38
    go_wp2
    go_end0
    exact ⟨rfl, Below.refl _ _, by rw [HR2.out]; exact HS.out⟩
  have h1 : decide ((0 : Int) < (s.isos : Int)) = false := decide_eq_false (by omega)
  by_cases h2 : 0 < s.embs
  · have HR2 : Hid (R = ⟨s.l, s.isos, s.embs - 1, s.vals⟩) := Lib.hid (by rw [HR.out, if_neg h0, if_pos h2])
    have h3 : decide ((0 : Int) < (s.embs : Int)) = true := decide_eq_true (by omega)
    clear hs HR
    go_enter Try.func38, Try.ntmps38
    go_wp2
    go_end0
    exact ⟨rfl, (Below.refl _ _).setCell hlo _, by rw [HR2.out]; exact HS.out.set2 (s.embs - 1) _ (by omega)⟩
  have h3 : decide ((0 : Int) < (s.embs : Int)) = false := decide_eq_false (by omega)
  have hf := fun w => field2_59 (lastE s.l) w
  unfold entV at HL hf
  generalize lastE s.l = E at *
  by_cases h4 : 1 < s.l.length
  · have h5 : decide ((1 : Int) < (s.l.length : Int)) = true := decide_eq_true (by omega)
    cases hi : E.iso with
    | true =>
      have HR2 : Hid (R = s) := Lib.hid (by rw [HR.out, if_neg h0, if_neg h2, if_neg (by rw [hi]; simp)])
      rw [hi] at HL hf
      clear hs HR
      go_enter Try.func38, Try.ntmps38
      go_wp2_with (go_at_call 39; refine HL.out.mono ?_; rintro e u ⟨rfl, hu⟩)
      go_end0
      exact ⟨rfl, hu.1.mono hsz, by rw [HR2.out]; exact (HU.out _ hu).1⟩
    | false =>
      have HR2 : Hid (R = ⟨s.l.dropLast, s.isos, s.embs, s.vals⟩) := Lib.hid (by rw [HR.out, if_neg h0, if_neg h2, if_pos ⟨hi, h4⟩])
      rw [hi] at HL hf
      obtain ⟨q, hq⟩ : ∃ q, s.l.length = q + 1 := ⟨s.l.length - 1, by omega⟩
      have hq1 : q ≤ 1000 := by omega
      have hq2 : q + 1 ≤ c := by omega
      have HQ := Lib.hid hq
      have h6 : (1 : Int) < (q : Int) + 1 := by omega
      rw [hq] at c0 HU h5 hc
      clear hs HR h4 hq hl
      go_enter Try.func38, Try.ntmps38
      go_wp2_with (go_at_call 39; refine HL.out.mono ?_; rintro e u ⟨rfl, hu⟩; obtain ⟨hs2, d0, df⟩ := HU.out _ hu)
      have k1 : (0 : Int) ≤ (q : Int) := by omega
      have k2 : (q : Int) ≤ (c : Int) := by omega
      have k3 : IntKind.i64.wrap (q : Int) = (q : Int) := IntWalk.i64_in _ (by omega)
      go_region_law (fail)
      all_goals
        go_wp2
        clear k3
        go_end0
        refine ⟨rfl, (hu.1.mono hsz).drew.setCell hlo _, ?_⟩
        have := (hs2.up ((Up.refl u).drew)).cut (k := q) (n := q + 1) (A := A) (c := c) d0 (by rw [HQ.out]; omega) (by rw [HQ.out]; omega)
        rw [HR2.out, List.dropLast_eq_take, HQ.out]
        exact this
  · have h5 : decide ((1 : Int) < (s.l.length : Int)) = false := decide_eq_false (by omega)
    have HR2 : Hid (R = s) := Lib.hid (by rw [HR.out, if_neg h0, if_neg h2, if_neg (by omega)])
    clear hs HR
    go_enter Try.func38, Try.ntmps38
    go_wp2
    go_end0
    exact ⟨rfl, Below.refl _ _, by rw [HR2.out]; exact HS.out⟩
end Go.Proofs.Ythikjknikdacbaa
