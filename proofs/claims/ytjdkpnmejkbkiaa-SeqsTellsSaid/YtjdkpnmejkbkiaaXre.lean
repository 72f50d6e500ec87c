/-
  Contract of the document's pop. Condition: at most 1000 entries, counters of at most 1000.
-/
import Derived.Test.YtjdkpnmejkbkiaaXrd
set_option linter.unusedVariables false
set_option linter.unusedSimpArgs false
namespace Go.Proofs.Ytjdkpnmejkbkiaa
open Go.ChangeShapes Go.WideShapes Go.ChangeAt Go.RowKit Go.Sort

set_option maxRecDepth 20000 in
set_option maxHeartbeats 8000000 in
theorem rpop_ok (v : Value) (s : Xs) (w : World) (hs : RSt w v s) (hl : 0 < s.l.length ∧ s.l.length ≤ 1000) (hm : s.embs ≤ 1000) :
    Calls Try.prog 22 #[v] w fun e w' => ∃ v', e = .returned v' ∧ RSt w' v' (popX s) ∧ Below w.heap.size w w' ∧ Far w v v' := by
  have HL : Hid (∀ W, Up w W → Calls Try.prog 20 #[v] W fun e w' => e = .returned (entV (lastE s.l)) ∧ Up W w') := Lib.hid fun W hW => rlast_ok v s W (hs.carry hW.1) hl
  have HF := Lib.hid (fun W => field2_50 (lastE s.l) W)
  obtain ⟨A, cc, rfl, hcc, hh⟩ := hs
  have HHH : Hid (∀ W, Below w.heap.size w W → HasN LE W W.heap.size A s.l) := Lib.hid fun W hW => hh.carry hW
  have HB := Lib.hid (fun u hu => two_boxes w (.slice A s.l.length cc) (.int .i64 (s.isos : Int)) (.int .i64 (s.embs : Int)) (.int .i64 (s.vals : Int)) (.slice none 0 0) (.int .i64 0) (.int .i64 0) (.int .i64 0) 46 u hu)
  unfold entV at HL HF
  have HR : Hid (popX s = if 0 < s.isos then s else if 0 < s.embs then ⟨s.l, s.isos, s.embs - 1, s.vals⟩
    else if (lastE s.l).iso = false ∧ 1 < s.l.length then ⟨s.l.dropLast, s.isos, s.embs, s.vals⟩ else s) := Lib.hid rfl
  generalize lastE s.l = E at *
  obtain ⟨lv, ov0, iso0⟩ := E
  simp only at HL HF HR
  have hf := HF.out
  generalize popX s = R at *
  clear hh HF
  obtain ⟨a1, a2, a3, a4⟩ := HB.out _ (Below.refl _ _)
  have HA1 := Lib.hid a1
  have HA2 := Lib.hid a2
  have HA3 := Lib.hid a3
  clear a1 a2 a3 a4
  by_cases h0 : 0 < s.isos
  · have HR2 : Hid (R = s) := Lib.hid (by rw [HR.out, if_pos h0])
    clear HR
    go_enter Try.func22, Try.ntmps22
    go_wp2_with (refine wpList_store_bel rfl 46 _ _ rfl (w.heap.size + 1) _ rfl rfl 46 _ HA2.out (by exact Try.info46) (by rfl) (by simp [Value.oneCell']) w.heap.size w HA3.out (Nat.le_succ _) ?_; intro w5 hat hk hsz hb5)
    refine bodyPost_ret (results_cell_at Try.results22 _ _ (w.heap.size + 1) 46 _ _ (by rfl) hat Try.underlying46 rfl (by exact Try.info46)) rfl ⟨_, rfl, ?_, hb5, far_same⟩
    rw [HR2.out]
    exact ⟨A, cc, rfl, hcc, HHH.out _ hb5⟩
  by_cases h2 : 0 < s.embs
  · have HR2 : Hid (R = ⟨s.l, s.isos, s.embs - 1, s.vals⟩) := Lib.hid (by rw [HR.out, if_neg h0, if_pos h2])
    obtain ⟨a1, a2, a3, a4⟩ := two_boxes w (.slice A s.l.length cc) (.int .i64 (s.isos : Int)) (.int .i64 ((s.embs : Int) - 1)) (.int .i64 (s.vals : Int)) (.slice none 0 0) (.int .i64 0) (.int .i64 0) (.int .i64 0) 46 _ (Below.refl _ _)
    have HC2 := Lib.hid a2
    have HC3 := Lib.hid a3
    clear HR a1 a2 a3 a4
    go_enter Try.func22, Try.ntmps22
    go_wp2_with (refine wpList_store_bel rfl 46 _ _ rfl (w.heap.size + 1) _ rfl rfl 46 _ HC2.out (by exact Try.info46) (by rfl) (by simp [Value.oneCell']) w.heap.size w HC3.out (Nat.le_succ _) ?_; intro w5 hat hk hsz hb5)
    refine bodyPost_ret (results_cell_at Try.results22 _ _ (w.heap.size + 1) 46 _ _ (by rfl) hat Try.underlying46 rfl (by exact Try.info46)) rfl ⟨_, rfl, ?_, hb5, far_same⟩
    rw [HR2.out]
    exact ⟨A, cc, by show Value.agg #[_, _, Value.int .i64 ((s.embs : Int) - 1), _] = Value.agg #[_, _, Value.int .i64 ((s.embs - 1 : Nat) : Int), _]; rw [show ((s.embs - 1 : Nat) : Int) = (s.embs : Int) - 1 by omega], hcc, HHH.out _ hb5⟩
  by_cases h3 : iso0 = false ∧ 1 < s.l.length
  · obtain ⟨rfl, h4⟩ := h3
    have HR2 : Hid (R = ⟨s.l.dropLast, s.isos, s.embs, s.vals⟩) := Lib.hid (by rw [HR.out, if_neg h0, if_neg h2, if_pos ⟨rfl, h4⟩])
    obtain ⟨q, hq⟩ : ∃ q, s.l.length = q + 1 := ⟨s.l.length - 1, by omega⟩
    have HQ := Lib.hid hq
    have k1 : (0 : Int) ≤ (q : Int) := by omega
    have k2 : (q : Int) ≤ (cc : Int) := by omega
    have k3 : (1 : Int) < (q : Int) + 1 := by omega
    have k4 : q ≤ 1000 := by omega
    have hcq : q ≤ cc := by omega
    simp only [hq] at HL HB HA1
    clear HR hq h4 hl hcc
    go_enter Try.func22, Try.ntmps22
    rw [HQ.out]
    go_wp2_with (first
      | (go_at_call 20; refine (HL.out _ (((Up.refl w).alloc _).alloc _)).mono ?_; rintro e u1 ⟨rfl, hu1⟩; obtain ⟨b1, b2, b3, b4⟩ := HB.out u1 hu1.1; obtain ⟨d0, d1, d2, d3⟩ := b1.four; have f0 := b1.free 0)
      | (refine wpList_store_bel rfl 46 _ _ rfl (w.heap.size + 1) _ rfl rfl 46 _ (b2.other ⟨w.heap.size, 0, none⟩ (.slice A q cc) (by simp)) (by exact Try.info46) (by rfl) (by simp [Value.oneCell']) w.heap.size w (b3.setCell (Nat.le_refl _) _) (Nat.le_succ _) ?_; intro w5 hat hk hsz hb5))
    refine bodyPost_ret (results_cell_at Try.results22 _ _ (w.heap.size + 1) 46 _ _ (by rfl) hat Try.underlying46 rfl (by exact Try.info46)) rfl ⟨_, rfl, ?_, hb5, far_same⟩
    rw [HR2.out]
    have hdl : s.l.dropLast = s.l.take q := by rw [List.dropLast_eq_take, HQ.out]; rfl
    have hln : s.l.dropLast.length = q := by rw [List.length_dropLast, HQ.out]; rfl
    refine ⟨A, cc, by rw [hln], by rw [hln]; exact hcq, ?_⟩
    show HasN LE _ _ A s.l.dropLast
    rw [hdl]
    exact (HHH.out _ hb5).front q
  · have HR2 : Hid (R = s) := Lib.hid (by rw [HR.out, if_neg h0, if_neg h2, if_neg h3])
    have h5 : iso0 = true ∨ (iso0 = false ∧ s.l.length = 1) := by
      cases iso0 with
      | true => exact .inl rfl
      | false => exact .inr ⟨rfl, by have : ¬ 1 < s.l.length := fun h => h3 ⟨rfl, h⟩; omega⟩
    clear HR h3
    rcases h5 with rfl | ⟨rfl, h6⟩
    · go_enter Try.func22, Try.ntmps22
      go_wp2_with (first
        | (go_at_call 20; refine (HL.out _ (((Up.refl w).alloc _).alloc _)).mono ?_; rintro e u1 ⟨rfl, hu1⟩; obtain ⟨b1, b2, b3, b4⟩ := HB.out u1 hu1.1; obtain ⟨d0, d1, d2, d3⟩ := b1.four)
        | (refine wpList_store_bel rfl 46 _ _ rfl (w.heap.size + 1) _ rfl rfl 46 _ b2 (by exact Try.info46) (by rfl) (by simp [Value.oneCell']) w.heap.size w b3 (Nat.le_succ _) ?_; intro w5 hat hk hsz hb5))
      refine bodyPost_ret (results_cell_at Try.results22 _ _ (w.heap.size + 1) 46 _ _ (by rfl) hat Try.underlying46 rfl (by exact Try.info46)) rfl ⟨_, rfl, ?_, hb5, far_same⟩
      rw [HR2.out]
      exact ⟨A, cc, rfl, hcc, HHH.out _ hb5⟩
    · have HQ := Lib.hid h6
      simp only [h6] at HL HB HA1 hcc
      clear h6 hl
      go_enter Try.func22, Try.ntmps22
      rw [HQ.out]
      go_wp2_with (first
        | (go_at_call 20; refine (HL.out _ (((Up.refl w).alloc _).alloc _)).mono ?_; rintro e u1 ⟨rfl, hu1⟩; obtain ⟨b1, b2, b3, b4⟩ := HB.out u1 hu1.1; obtain ⟨d0, d1, d2, d3⟩ := b1.four)
        | (refine wpList_store_bel rfl 46 _ _ rfl (w.heap.size + 1) _ rfl rfl 46 _ b2 (by exact Try.info46) (by rfl) (by simp [Value.oneCell']) w.heap.size w b3 (Nat.le_succ _) ?_; intro w5 hat hk hsz hb5))
      refine bodyPost_ret (results_cell_at Try.results22 _ _ (w.heap.size + 1) 46 _ _ (by rfl) hat Try.underlying46 rfl (by exact Try.info46)) rfl ⟨_, rfl, ?_, hb5, far_same⟩
      rw [HR2.out]
      exact ⟨A, cc, by rw [HQ.out], by rw [HQ.out]; exact hcc, HHH.out _ hb5⟩
end Go.Proofs.Ytjdkpnmejkbkiaa
