/-
  Contracts: where isolates end, whether one runs from right to left, opening and closing an isolate. Condition: at most 1000 classes and entries, counters of at most 1000.
-/
import Derived.Test.YthikjknikdacbaaXsd
import Derived.Test.YthikjknikdacbaaMch
set_option linter.unusedVariables false
set_option linter.unusedSimpArgs false
namespace Go.Proofs.Ythikjknikdacbaa
open Go.ChangeShapes Go.WideShapes Go.ChangeAt Go.RowKit Go.Sort

/-- whether an isolate runs from right to left: the initiator, and what it isolates -/
def leftB (l : List Int) : Bool := if l.getD 0 0 = 22 then raC (firstV l 1 l.length) else l.getD 0 0 == 21

set_option maxHeartbeats 2000000 in
theorem leftward_ok (A : Option Addr) (n c : Nat) (l : List Int) (w : World) (hn : n = l.length) (h0 : 0 < n) (hmax : n ≤ 1000) (h : Has w w.heap.size A (l.map (Value.int .i64))) :
    Calls Try.prog 43 #[.slice A n c] w fun e w' => e = .returned (.bool (leftB l)) ∧ w = w' := by
  obtain ⟨b, off, rfl, hb, hc⟩ := h.at_int (k := 0) (by omega)
  have HF := Lib.hid (first_ok (some ⟨b, off, none⟩) n c l 1 n w hn hmax h)
  have hg : l.getD 0 0 = l[0] := by rw [List.getD_eq_getElem?_getD, List.getElem?_eq_getElem (by omega)]; rfl
  have HL : Hid (leftB l = if l[0] = 22 then raC (firstV l 1 n) else l[0] == 21) := Lib.hid (by unfold leftB; rw [hg]; simp only [← hn])
  rw [Nat.add_zero] at hc
  generalize l[0] = X at *
  generalize firstV l 1 (n : Int) = V at *
  generalize leftB l = R at *
  clear hn hg h
  by_cases h22 : X = 22
  · subst h22
    have HL2 : Hid (R = raC V) := Lib.hid (by rw [HL.out, if_pos rfl])
    clear HL
    by_cases h2 : V = 2
    · subst h2
      go_enter Try.func43, Try.ntmps43
      go_wp2_with (go_at_call 50; refine HF.out.mono ?_; rintro e u ⟨rfl, rfl⟩)
      go_ret
      exact ⟨by rw [HL2.out]; rfl, rfl⟩
    · have e2 : (V == 2) = false := by simpa using h2
      have HL3 : Hid (R = (V == 3)) := Lib.hid (by rw [HL2.out]; unfold raC; rw [e2]; rfl)
      obtain ⟨q, hq⟩ : ∃ q, (V == 3) = q := ⟨_, rfl⟩
      have HQ := Lib.hid hq
      go_enter Try.func43, Try.ntmps43
      go_wp2_with (go_at_call 50; refine HF.out.mono ?_; rintro e u ⟨rfl, rfl⟩)
      go_ret
      exact ⟨by rw [HL3.out, HQ.out]; rfl, rfl⟩
  · have e2 : (X == 22) = false := by simpa using h22
    have HL3 : Hid (R = (X == 21)) := Lib.hid (by rw [HL.out, if_neg h22])
    obtain ⟨q, hq⟩ : ∃ q, (X == 21) = q := ⟨_, rfl⟩
    have HQ := Lib.hid hq
    go_enter Try.func43, Try.ntmps43
    go_wp2
    go_ret
    exact ⟨by rw [HL3.out, HQ.out]; rfl, rfl⟩

theorem iso_full (s : Xs) (h : ovfB s = true) (odd : Bool) : isoX s odd = ⟨s.l, s.isos + 1, s.embs, s.vals⟩ := by
  unfold isoX
  rw [if_neg]
  intro hr
  obtain ⟨_, h1, h2⟩ := room_is hr
  unfold ovfB at h
  rw [h1, h2] at h
  cases h

set_option maxHeartbeats 4000000 in
theorem isolate_ok (B g : Nat) (s : Xs) (A : Option Addr) (n c : Nat) (l : List Int) (w : World) (hs : St B w g s) (hl : 0 < s.l.length ∧ s.l.length ≤ 1000) (hv : (lastE s.l).lv ≤ 125) (hm : s.isos ≤ 1000 ∧ s.vals ≤ 1000)
    (hn : n = l.length) (h0 : 0 < n) (hmax : n ≤ 1000) (h : Has w w.heap.size A (l.map (Value.int .i64))) :
    Calls Try.prog 24 #[.pointer (some ⟨g, 0, none⟩), .slice A n c] w fun x w' => x = .returned (.tuple #[]) ∧ Below B w w' ∧ St B w' g (isoX s (leftB l)) := by
  have hsz : B ≤ w.heap.size := by have := hs.lt; have := hs.lo; omega
  have hlo := hs.lo
  obtain ⟨c1, c2, c3, c4⟩ := hs.cells
  have HS := Lib.hid hs
  have HO := Lib.hid (ovf_ok B g s w hs)
  have HI := Lib.hid (fun odd => iso_full s (odd := odd))
  obtain ⟨hm1, hm2⟩ := hm
  cases hov : ovfB s with
  | true =>
    rw [hov] at HO
    have HR : Hid (isoX s (leftB l) = ⟨s.l, s.isos + 1, s.embs, s.vals⟩) := Lib.hid (HI.out _ hov)
    clear hs h hn
    go_enter Try.func24, Try.ntmps24
    go_wp2_with (go_at_call 40; refine HO.out.mono ?_; rintro x u ⟨rfl, rfl⟩)
    refine bodyPost_ret (results_none rfl _ _ _) rfl ?_
    exact ⟨rfl, (Below.refl _ _).setCell hlo _, by rw [HR.out]; exact HS.out.set1 (s.isos + 1) _ (by omega)⟩
  | false =>
    rw [hov] at HO
    have HL := Lib.hid (leftward_ok A n c l w hn h0 hmax h)
    generalize leftB l = L at *
    have HA := Lib.hid (above_ok B g s L w hs hl hv)
    have HR : Hid (isoX s L = if roomX s (nextL (lastE s.l).lv L) = true then ⟨s.l ++ [⟨nextL (lastE s.l).lv L, 0, true⟩], s.isos, s.embs, s.vals + 1⟩
      else ⟨s.l, s.isos + 1, s.embs, s.vals⟩) := Lib.hid rfl
    have HP : Hid (∀ W, Up w W → Calls Try.prog 41 #[.pointer (some ⟨g, 0, none⟩), .agg #[.int .i64 (nextL (lastE s.l).lv L : Int), .int .i64 0, .bool true]] W fun x w' => x = .returned (.bool (roomX s (nextL (lastE s.l).lv L))) ∧ Below B W w' ∧ St B w' g (if roomX s (nextL (lastE s.l).lv L) = true then ⟨s.l ++ [⟨nextL (lastE s.l).lv L, 0, true⟩], s.isos, s.embs, s.vals⟩ else s)) :=
      Lib.hid fun W hW => push_ok B g s ⟨nextL (lastE s.l).lv L, 0, true⟩ W (hs.up hW) hl.2
    generalize isoX s L = R at *
    generalize nextL (lastE s.l).lv L = N at *
    clear hs h hn
    cases hr : roomX s N with
    | true =>
      rw [hr] at HP HR
      simp only [if_true] at HP HR
      go_enter Try.func24, Try.ntmps24
      go_wp2_with (first
        | (go_at_call 40; refine HO.out.mono ?_; rintro x u ⟨rfl, rfl⟩)
        | (go_at_call 43; refine HL.out.mono ?_; rintro x u ⟨rfl, rfl⟩)
        | (go_at_call 42; refine HA.out.mono ?_; rintro e u ⟨rfl, hu⟩)
        | (go_at_call 41; refine (HP.out _ hu).mono ?_; rintro e u2 ⟨rfl, hb, hs2⟩; obtain ⟨d1, d2, d3, d4⟩ := hs2.cells))
      go_end0
      exact ⟨rfl, ((hu.1.mono hsz).trans hb).setCell hlo _, by rw [HR.out]; exact hs2.set3 (s.vals + 1) _ (by simp)⟩
    | false =>
      rw [hr] at HP HR
      simp only [if_false, Bool.false_eq_true, reduceCtorEq] at HP HR
      go_enter Try.func24, Try.ntmps24
      go_wp2_with (first
        | (go_at_call 40; refine HO.out.mono ?_; rintro x u ⟨rfl, rfl⟩)
        | (go_at_call 43; refine HL.out.mono ?_; rintro x u ⟨rfl, rfl⟩)
        | (go_at_call 42; refine HA.out.mono ?_; rintro e u ⟨rfl, hu⟩)
        | (go_at_call 41; refine (HP.out _ hu).mono ?_; rintro e u2 ⟨rfl, hb, hs2⟩; obtain ⟨d1, d2, d3, d4⟩ := hs2.cells))
      refine bodyPost_ret (results_none rfl _ _ _) rfl ?_
      exact ⟨rfl, ((hu.1.mono hsz).trans hb).setCell hlo _, by rw [HR.out]; exact hs2.set1 (s.isos + 1) _ (by omega)⟩
end Go.Proofs.Ythikjknikdacbaa
