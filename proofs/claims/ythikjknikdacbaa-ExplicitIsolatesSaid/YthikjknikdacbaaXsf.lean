/-
  Contract: closing an isolate. Condition: at most 1000 entries; as many isolates as are counted.
-/
import Derived.Test.YthikjknikdacbaaXse
set_option linter.unusedVariables false
set_option linter.unusedSimpArgs false
namespace Go.Proofs.Ythikjknikdacbaa
open Go.ChangeShapes Go.WideShapes Go.ChangeAt Go.RowKit Go.Sort

theorem split_get (u : List En) (e : En) (w : List En) (p : Nat) (x : En) (he : e.iso = true) (hw : ∀ x ∈ w, x.iso = false) (h1 : u.length ≤ p) (hx : (u ++ e :: w)[p]? = some x) : x.iso = decide (p = u.length) := by
  rw [List.getElem?_append_right h1] at hx
  by_cases h : p = u.length
  · subst h
    rw [Nat.sub_self] at hx
    simp at hx
    subst hx
    simpa using he
  · obtain ⟨q, hq⟩ : ∃ q, p - u.length = q + 1 := ⟨p - u.length - 1, by omega⟩
    rw [hq, List.getElem?_cons_succ] at hx
    rw [hw x (List.mem_of_getElem? hx)]
    simp [h]

set_option maxHeartbeats 4000000 in
theorem endIso_ok (B g : Nat) (s : Xs) (w : World) (hs : St B w g s) (hl : 0 < s.l.length ∧ s.l.length ≤ 1000) (hm : s.isos ≤ 1000 ∧ s.vals ≤ 1000) (hvals : s.vals = (s.l.filter (fun e => e.iso)).length) :
    Calls Try.prog 21 #[.pointer (some ⟨g, 0, none⟩)] w fun x w' => x = .returned (.tuple #[]) ∧ Below B w w' ∧ St B w' g (endX s) := by
  have hlo := hs.lo
  obtain ⟨c1, c2, c3, c4⟩ := hs.cells
  have HS := Lib.hid hs
  have HR : Hid (endX s = if 0 < s.isos then ⟨s.l, s.isos - 1, s.embs, s.vals⟩ else if s.vals = 0 then s else ⟨cutX s.l, s.isos, 0, s.vals - 1⟩) := Lib.hid rfl
  generalize endX s = R at *
  obtain ⟨hm1, hm2⟩ := hm
  by_cases h0 : 0 < s.isos
  · have HR2 : Hid (R = ⟨s.l, s.isos - 1, s.embs, s.vals⟩) := Lib.hid (by rw [HR.out, if_pos h0])
    clear hs HR hvals
    go_enter Try.func21, Try.ntmps21
    go_wp2
    go_end0
    exact ⟨rfl, (Below.refl _ _).setCell hlo _, by rw [HR2.out]; exact HS.out.set1 (s.isos - 1) _ (by omega)⟩
  by_cases h1 : s.vals = 0
  · have HR2 : Hid (R = s) := Lib.hid (by rw [HR.out, if_neg h0, if_pos h1])
    have h2 : ¬ 0 < s.vals := by omega
    clear hs HR hvals h1
    go_enter Try.func21, Try.ntmps21
    go_wp2
    go_end0
    exact ⟨rfl, Below.refl _ _, by rw [HR2.out]; exact HS.out⟩
  obtain ⟨u, e, t, p1, p2, p3⟩ := last_iso s.l (by omega)
  have hcut : cutX s.l = u := by rw [p1]; exact cut_is u e t p2 p3
  have hut : u = s.l.take u.length := by rw [p1]; simp
  obtain ⟨K, hK⟩ : ∃ K, u.length = K := ⟨_, rfl⟩
  have HR2 : Hid (R = ⟨s.l.take K, s.isos, 0, s.vals - 1⟩) := Lib.hid (by rw [HR.out, if_neg h0, if_neg h1, hcut, ← hK, ← hut])
  have hKN : K < s.l.length := by rw [p1]; simp; omega
  have HG : Hid (∀ p x, K ≤ p → s.l[p]? = some x → x.iso = decide (p = K)) := Lib.hid fun p x h1 hx => by rw [← hK]; rw [p1] at hx; exact split_get u e t p x p2 p3 (by omega) hx
  have h2 : 0 < s.vals := by omega
  have hs1 : St B (w.setCell ⟨g, 2, none⟩ (.int .i64 0)) g ⟨s.l, s.isos, 0, s.vals⟩ := hs.set2 0 0 rfl
  obtain ⟨N, hN⟩ : ∃ N, s.l.length = N + 1 := ⟨s.l.length - 1, by omega⟩
  obtain ⟨A, c, d0, hc, hh⟩ := hs1.head
  have HH : Hid (∀ W, w.setCell ⟨g, 2, none⟩ (.int .i64 0) = W → (∀ p, p < N + 1 → ∃ x b off, s.l[p]? = some x ∧ A = some ⟨b, off, none⟩ ∧ W.cell? ⟨b, off + p * 3 + 2, none⟩ = some (.bool x.iso)) ∧ W.cell? ⟨g, 0, none⟩ = some (.slice A (N + 1) c) ∧ St B W g ⟨s.l, s.isos, 0, s.vals⟩ ∧ Below B w W) := Lib.hid fun W hW => by
    subst hW
    refine ⟨fun p hp => ?_, by rw [← hN]; exact d0, hs1, (Below.refl _ _).setCell hlo _⟩
    obtain ⟨b, off, e1, _, _, _, h5⟩ := hh.ent (List.getElem?_eq_getElem (l := s.l) (i := p) (by omega))
    exact ⟨_, b, off, List.getElem?_eq_getElem _, e1, h5⟩
  have HQ := Lib.hid hN
  have hNb : N ≤ 1000 := by omega
  have hKN2 : K ≤ N := by omega
  simp only [hN] at hc d0
  clear hs hh hN hKN hcut hut p1 p2 p3 HR hvals hl hK h1 hs1
  go_enter Try.func21, Try.ntmps21
  go_wp2
  go_loopw [2] (fun v2 wr => ∃ p : Nat, K ≤ p ∧ p ≤ N ∧ v2 = .int .i64 p ∧ Hid (w.setCell ⟨g, 2, none⟩ (.int .i64 0) = wr)) (fun v2 _ => (intOf v2).toNat)
  case atStart => exact ⟨N, hKN2, Nat.le_refl _, rfl, Lib.hid rfl⟩
  case round =>
    clear d0
    obtain ⟨p, hp1, hp2, rfl, HW⟩ := hrel
    obtain ⟨f1, f2, f3, f4⟩ := HH.out _ HW.out
    obtain ⟨x, b, off, x1, rfl, x2⟩ := f1 p (by omega)
    have hx := HG.out p x hp1 x1
    obtain ⟨q1, q2, q3, q4⟩ := f3.cells
    by_cases hpk : p = K
    · subst hpk
      rw [hx, decide_eq_true rfl] at x2
      have k1 : (0 : Int) ≤ (p : Int) := by omega
      have k2 : (p : Int) ≤ (c : Int) := by omega
      clear f1 x1 hx c1 c2 c3 c4
      go_wp2
      go_end0
      exact ⟨rfl, (f4.setCell hlo _).setCell hlo _, by rw [HR2.out]; exact (f3.cut f2 p (by show p ≤ s.l.length; rw [HQ.out]; omega) (by show 0 < s.l.length; rw [HQ.out]; omega)).set3 (s.vals - 1) _ (by show (s.vals : Int) - 1 = _; omega)⟩
    · rw [hx, decide_eq_false hpk] at x2
      clear f1 x1 hx c1 c2 c3 c4
      go_wp2
      go_roundw
      case rel => exact ⟨p - 1, by omega, by omega, by go_num, HW⟩
      case measure => simp [intOf] <;> omega
end Go.Proofs.Ythikjknikdacbaa
