/-
  Contract of the document's end: closing an isolate. Condition: at most 1000 entries; as many isolates as are counted.
-/
import Derived.Test.YtjdkpnmejkbkiaaXre
import Derived.Test.YtjdkpnmejkbkiaaXsf
set_option linter.unusedVariables false
set_option linter.unusedSimpArgs false
namespace Go.Proofs.Ytjdkpnmejkbkiaa
open Go.ChangeShapes Go.WideShapes Go.ChangeAt Go.RowKit Go.Sort

set_option maxRecDepth 20000 in
set_option maxHeartbeats 8000000 in
theorem rend_ok (v : Value) (s : Xs) (w : World) (hs : RSt w v s) (hl : 0 < s.l.length ∧ s.l.length ≤ 1000) (hm : s.isos ≤ 1000 ∧ s.vals ≤ 1000) (hvals : s.vals = (s.l.filter (fun e => e.iso)).length) :
    Calls Try.prog 26 #[v] w fun e w' => ∃ v', e = .returned v' ∧ RSt w' v' (endX s) ∧ Below w.heap.size w w' ∧ Far w v v' := by
  obtain ⟨A, cc, rfl, hcc, hh⟩ := hs
  have HHH : Hid (∀ W, Below w.heap.size w W → HasN LE W W.heap.size A s.l) := Lib.hid fun W hW => hh.carry hW
  have HR : Hid (endX s = if 0 < s.isos then ⟨s.l, s.isos - 1, s.embs, s.vals⟩ else if s.vals = 0 then s else ⟨cutX s.l, s.isos, 0, s.vals - 1⟩) := Lib.hid rfl
  generalize endX s = R at *
  obtain ⟨hm1, hm2⟩ := hm
  by_cases h0 : 0 < s.isos
  · have HR2 : Hid (R = ⟨s.l, s.isos - 1, s.embs, s.vals⟩) := Lib.hid (by rw [HR.out, if_pos h0])
    obtain ⟨a1, a2, a3, a4⟩ := two_boxes w (.slice A s.l.length cc) (.int .i64 ((s.isos : Int) - 1)) (.int .i64 (s.embs : Int)) (.int .i64 (s.vals : Int)) (.slice none 0 0) (.int .i64 0) (.int .i64 0) (.int .i64 0) 46 _ (Below.refl _ _)
    have HC2 := Lib.hid a2
    have HC3 := Lib.hid a3
    clear HR a1 a2 a3 a4 hh hvals
    go_enter Try.func26, Try.ntmps26
    go_wp2_with (refine wpList_store_bel rfl 46 _ _ rfl (w.heap.size + 1) _ rfl rfl 46 _ HC2.out (by exact Try.info46) (by rfl) (by simp [Value.oneCell']) w.heap.size w HC3.out (Nat.le_succ _) ?_; intro w5 hat hk hsz hb5)
    refine bodyPost_ret (results_cell_at Try.results26 _ _ (w.heap.size + 1) 46 _ _ (by rfl) hat Try.underlying46 rfl (by exact Try.info46)) rfl ⟨_, rfl, ?_, hb5, far_same⟩
    rw [HR2.out]
    exact ⟨A, cc, by show Value.agg #[_, Value.int .i64 ((s.isos : Int) - 1), _, _] = Value.agg #[_, Value.int .i64 ((s.isos - 1 : Nat) : Int), _, _]; rw [show ((s.isos - 1 : Nat) : Int) = (s.isos : Int) - 1 by omega], hcc, HHH.out _ hb5⟩
  by_cases h1 : s.vals = 0
  · have HR2 : Hid (R = s) := Lib.hid (by rw [HR.out, if_neg h0, if_pos h1])
    obtain ⟨a1, a2, a3, a4⟩ := two_boxes w (.slice A s.l.length cc) (.int .i64 (s.isos : Int)) (.int .i64 (s.embs : Int)) (.int .i64 (s.vals : Int)) (.slice none 0 0) (.int .i64 0) (.int .i64 0) (.int .i64 0) 46 _ (Below.refl _ _)
    have HC2 := Lib.hid a2
    have HC3 := Lib.hid a3
    have h2 : ((s.vals : Int) == 0) = true := by simp [h1]
    clear HR a1 a2 a3 a4 hh hvals h1
    go_enter Try.func26, Try.ntmps26
    go_wp2_with (refine wpList_store_bel rfl 46 _ _ rfl (w.heap.size + 1) _ rfl rfl 46 _ HC2.out (by exact Try.info46) (by rfl) (by simp [Value.oneCell']) w.heap.size w HC3.out (Nat.le_succ _) ?_; intro w5 hat hk hsz hb5)
    refine bodyPost_ret (results_cell_at Try.results26 _ _ (w.heap.size + 1) 46 _ _ (by rfl) hat Try.underlying46 rfl (by exact Try.info46)) rfl ⟨_, rfl, ?_, hb5, far_same⟩
    rw [HR2.out]
    exact ⟨A, cc, rfl, hcc, HHH.out _ hb5⟩
  obtain ⟨u, e, t, p1, p2, p3⟩ := last_iso s.l (by omega)
  have hcut : cutX s.l = u := by rw [p1]; exact cut_is u e t p2 p3
  have hut : u = s.l.take u.length := by rw [p1]; simp
  obtain ⟨K, hK⟩ : ∃ K, u.length = K := ⟨_, rfl⟩
  have HR2 : Hid (R = ⟨s.l.take K, s.isos, 0, s.vals - 1⟩) := Lib.hid (by rw [HR.out, if_neg h0, if_neg h1, hcut, ← hK, ← hut])
  have hKN : K < s.l.length := by rw [p1]; simp; omega
  have HKL : Hid ((s.l.take K).length = K) := Lib.hid (by rw [List.length_take]; omega)
  have HG : Hid (∀ p x, K ≤ p → s.l[p]? = some x → x.iso = decide (p = K)) := Lib.hid fun p x h1 hx => by rw [← hK]; rw [p1] at hx; exact split_get u e t p x p2 p3 (by omega) hx
  have h2 : ((s.vals : Int) == 0) = false := beq_eq_false_iff_ne.2 (by omega)
  have h2' : 0 < s.vals := by omega
  obtain ⟨N, hN⟩ : ∃ N, s.l.length = N + 1 := ⟨s.l.length - 1, by omega⟩
  have HP : Hid (∀ W, Below w.heap.size w W → ∀ p, p < N + 1 → ∃ x b off, s.l[p]? = some x ∧ A = some ⟨b, off, none⟩ ∧ W.cell? ⟨b, off + p * 3 + 2, none⟩ = some (.bool x.iso)) := Lib.hid fun W hW p hp => by
    obtain ⟨b, off, e1, _, _, _, h5⟩ := (hh.carry hW).ent (List.getElem?_eq_getElem (l := s.l) (i := p) (by omega))
    exact ⟨_, b, off, List.getElem?_eq_getElem _, e1, h5⟩
  have HB := Lib.hid (fun u hu => two_boxes w (.slice A (N + 1) cc) (.int .i64 (s.isos : Int)) (.int .i64 0) (.int .i64 (s.vals : Int)) (.slice none 0 0) (.int .i64 0) (.int .i64 0) (.int .i64 0) 46 u hu)
  have HQ := Lib.hid hN
  have hNb : N ≤ 1000 := by omega
  have hKN2 : K ≤ N := by omega
  have hcc2 : N + 1 ≤ cc := by omega
  clear hh hN hKN hcut hut p1 p2 p3 HR hvals hl hK h1 hcc
  go_enter Try.func26, Try.ntmps26
  rw [HQ.out]
  go_wp2
  go_loopw [3] (fun v3 wr => ∃ p : Nat, K ≤ p ∧ p ≤ N ∧ v3 = .int .i64 ((p : Int) + 1) ∧ Hid (((w.alloc (.cells #[.slice A (N + 1) cc, .int .i64 (s.isos : Int), .int .i64 0, .int .i64 (s.vals : Int)] 46)).alloc (.cells #[.slice none 0 0, .int .i64 0, .int .i64 0, .int .i64 0] 46)) = wr)) (fun v3 _ => (intOf v3).toNat)
  case atStart => exact ⟨N, hKN2, Nat.le_refl _, rfl, Lib.hid rfl⟩
  case round =>
    obtain ⟨p, hp1, hp2, rfl, HW⟩ := hrel
    obtain ⟨b1, b2, b3, b4⟩ := HB.out wr (by rw [HW.out]; exact Below.refl _ _)
    obtain ⟨d0, d1, d2, d3⟩ := b1.four
    obtain ⟨x, b, off, x1, rfl, x2⟩ := HP.out wr b3 p (by omega)
    have hx := HG.out p x hp1 x1
    have f0 := fun j => b1.free j
    by_cases hpk : p = K
    · subst hpk
      rw [hx, decide_eq_true rfl] at x2
      have k1 : (0 : Int) ≤ (p : Int) := by omega
      have k2 : (p : Int) ≤ (cc : Int) := by omega
      have hpc : p ≤ cc := by omega
      have c2 := (b2.other ⟨w.heap.size, 0, none⟩ (.slice (some ⟨b, off, none⟩) p cc) (by simp)).other ⟨w.heap.size, 3, none⟩ (.int .i64 ((s.vals : Int) - 1)) (by simp)
      clear x1 hx HW HB
      go_wp2_with (refine wpList_store_bel rfl 46 _ _ rfl (w.heap.size + 1) _ rfl rfl 46 _ c2 (by exact Try.info46) (by rfl) (by simp [Value.oneCell']) w.heap.size w ((b3.setCell (Nat.le_refl _) _).setCell (Nat.le_refl _) _) (Nat.le_succ _) ?_; intro w5 hat hk hsz hb5)
      refine bodyPost_ret (results_cell_at Try.results26 _ _ (w.heap.size + 1) 46 _ _ (by rfl) hat Try.underlying46 rfl (by exact Try.info46)) rfl ⟨_, rfl, ?_, hb5, far_same⟩
      rw [HR2.out]
      refine ⟨some ⟨b, off, none⟩, cc, ?_, by rw [HKL.out]; exact hpc, (HHH.out _ hb5).front p⟩
      rw [HKL.out, show ((s.vals - 1 : Nat) : Int) = (s.vals : Int) - 1 by omega]
      rfl
    · rw [hx, decide_eq_false hpk] at x2
      clear x1 hx
      have HE1 : Hid (((p - 1 : Nat) : Int) + 1 = (p : Int)) := Lib.hid (by omega)
      go_wp2
      go_roundw
      case rel => exact ⟨p - 1, by omega, by omega, by rw [HE1.out], HW⟩
      case measure => simp [intOf] <;> omega
end Go.Proofs.Ytjdkpnmejkbkiaa
