/-
  Contracts of the document's isolate and pop. Condition: at most 1000 entries, counters of at most 1000.
-/
import Derived.Test.YtjdkpnmejkbkiaaXrc
set_option linter.unusedVariables false
set_option linter.unusedSimpArgs false
namespace Go.Proofs.Ytjdkpnmejkbkiaa
open Go.ChangeShapes Go.WideShapes Go.ChangeAt Go.RowKit Go.Sort

theorem At.bel {w w' : World} {g : Nat} {t : TypeId} {cs : Array Value} (h : At w g t cs) (hb : Below w.heap.size w w') : At w' g t cs := by
  unfold At; rw [hb.block _ h.lt]; exact h
set_option maxRecDepth 20000 in
set_option maxHeartbeats 8000000 in
theorem risolate_ok (v : Value) (s : Xs) (odd : Bool) (w : World) (hs : RSt w v s) (hl : 0 < s.l.length ∧ s.l.length ≤ 1000) (hv : (lastE s.l).lv ≤ 125) (hm : s.isos ≤ 1000 ∧ s.vals ≤ 1000) :
    Calls Try.prog 24 #[v, .bool odd] w fun e w' => ∃ v', e = .returned v' ∧ RSt w' v' (isoX s odd) ∧ Below w.heap.size w w' ∧ Far w v v' := by
  have HL : Hid (∀ W, Up w W → Calls Try.prog 20 #[v] W fun e w' => e = .returned (entV (lastE s.l)) ∧ Up W w') := Lib.hid fun W hW => rlast_ok v s W (hs.carry hW.1) hl
  have HM : Hid (∀ (n : Nat) (W : World), Up w W → Calls Try.prog 41 #[v, .int .i64 (n : Int)] W fun e w' => e = .returned (.bool (roomX s n)) ∧ Up W w') := Lib.hid fun n W hW => rroom_ok v s n W (hs.carry hW.1)
  have HX1 := Lib.hid (fun W => rnext_ok (lastE s.l).lv odd W hv)
  have HF := Lib.hid (fun W => field0_50 (lastE s.l) W)
  obtain ⟨A, cc, rfl, hcc, hh⟩ := hs
  have HAD : Hid (∀ (x : En) (W : World), Below w.heap.size w W → Calls Try.prog 42 #[.slice A s.l.length cc, entV x] W fun e w' => ∃ A2 c2, e = .returned (.slice A2 (s.l.length + 1) c2) ∧ s.l.length + 1 ≤ c2 ∧ Fresh W.heap.size A2 ∧ HasN LE w' w'.heap.size A2 (s.l ++ [x]) ∧ Below W.heap.size W w') :=
    Lib.hid fun x W hW => radd_ok A s.l.length cc s.l x W rfl hl.2 (hh.carry hW)
  have HHH : Hid (∀ W, Below w.heap.size w W → HasN LE W W.heap.size A s.l) := Lib.hid fun W hW => hh.carry hW
  have HB := Lib.hid (fun u hu => two_boxes w (.slice A s.l.length cc) (.int .i64 (s.isos : Int)) (.int .i64 (s.embs : Int)) (.int .i64 (s.vals : Int)) (.slice none 0 0) (.int .i64 0) (.int .i64 0) (.int .i64 0) 46 u hu)
  unfold entV at HL HAD HF
  have HR : Hid (isoX s odd = if roomX s (nextL (lastE s.l).lv odd) = true then ⟨s.l ++ [⟨nextL (lastE s.l).lv odd, 0, true⟩], s.isos, s.embs, s.vals + 1⟩ else ⟨s.l, s.isos + 1, s.embs, s.vals⟩) := Lib.hid rfl
  generalize lastE s.l = E at *
  obtain ⟨lv, ov0, iso0⟩ := E
  simp only at HL HF HX1 HR hv HAD
  have hf := HF.out
  generalize nextL lv odd = N at *
  generalize isoX s odd = R at *
  have HM1 := Lib.hid (HM.out N)
  obtain ⟨hm1, hm2⟩ := hm
  clear hh HF HM
  cases hr : roomX s N with
  | true =>
    rw [hr] at HM1 HR
    simp only [if_true] at HR
    have HA2 := Lib.hid (HAD.out ⟨N, 0, true⟩)
    clear HAD
    go_enter Try.func24, Try.ntmps24
    go_wp2_with (first
      | (go_at_call 20; refine (HL.out _ (((Up.refl w).alloc _).alloc _)).mono ?_; rintro e u1 ⟨rfl, hu1⟩; obtain ⟨b1, b2, b3, b4⟩ := HB.out u1 hu1.1; obtain ⟨d0, d1, d2, d3⟩ := b1.four; have hu1w := (((Up.refl w).alloc _).alloc _).trans hu1)
      | (go_at_call 40; refine (HX1.out _).mono ?_; rintro e u1b ⟨rfl, rfl⟩)
      | (go_at_call 41; refine (HM1.out _ hu1w).mono ?_; rintro e u2 ⟨rfl, hu2⟩; obtain ⟨b1, b2, b3, b4⟩ := HB.out u2 (hu1.trans hu2).1; obtain ⟨d0, d1, d2, d3⟩ := b1.four; have f0 := b1.free 3)
      | (go_at_call 42; refine (HA2.out _ (b3.setCell (Nat.le_refl _) _)).mono ?_; rintro e u3 ⟨A3, c3, rfl, hc3, hf3, hh3, hb3⟩; have a1 := (b1.setCellTo 3 (.int .i64 ((s.vals : Int) + 1)) #[.slice A s.l.length cc, .int .i64 (s.isos : Int), .int .i64 (s.embs : Int), .int .i64 ((s.vals : Int) + 1)] (by rfl)).bel hb3; have a2 := (b2.other ⟨w.heap.size, 3, none⟩ (.int .i64 ((s.vals : Int) + 1)) (by simp)).bel hb3; obtain ⟨d0, d1, d2, d3⟩ := a1.four; have f0 := a1.free 0; have b5 := (b3.setCell (p := ⟨w.heap.size, 3, none⟩) (Nat.le_refl _) (.int .i64 ((s.vals : Int) + 1))).trans (hb3.mono (by simp; omega)))
      | (refine wpList_store_bel rfl 46 _ _ rfl (w.heap.size + 1) _ rfl rfl 46 _ (a2.other ⟨w.heap.size, 0, none⟩ (.slice A3 (s.l.length + 1) c3) (by simp)) (by exact Try.info46) (by rfl) (by simp [Value.oneCell']) w.heap.size w (b5.setCell (Nat.le_refl _) _) (Nat.le_succ _) ?_; intro w5 hat hk hsz hb5))
    refine bodyPost_ret (results_cell_at Try.results24 _ _ (w.heap.size + 1) 46 _ _ (by rfl) hat Try.underlying46 rfl (by exact Try.info46)) rfl ⟨_, rfl, ?_, hb5, far_new fun a ha => Nat.le_trans (by have := b4; first | omega | (simp; omega)) (hf3 a ha)⟩
    rw [HR.out]
    refine ⟨A3, c3, by simp, by simpa using hc3, hh3.stays (by rw [hsz]; simp) fun a ha hlt => ?_⟩
    have h1 := hf3 a ha
    rw [World.size_setCell] at h1
    rw [hk _ (by omega), Below.heap_setCell _ _ _ _ (by show a.block ≠ w.heap.size; omega)]
  | false =>
    rw [hr] at HM1 HR
    simp only [if_false, Bool.false_eq_true, reduceCtorEq] at HR
    clear HAD
    go_enter Try.func24, Try.ntmps24
    go_wp2_with (first
      | (go_at_call 20; refine (HL.out _ (((Up.refl w).alloc _).alloc _)).mono ?_; rintro e u1 ⟨rfl, hu1⟩; obtain ⟨b1, b2, b3, b4⟩ := HB.out u1 hu1.1; obtain ⟨d0, d1, d2, d3⟩ := b1.four; have hu1w := (((Up.refl w).alloc _).alloc _).trans hu1)
      | (go_at_call 40; refine (HX1.out _).mono ?_; rintro e u1b ⟨rfl, rfl⟩)
      | (go_at_call 41; refine (HM1.out _ hu1w).mono ?_; rintro e u2 ⟨rfl, hu2⟩; obtain ⟨b1, b2, b3, b4⟩ := HB.out u2 (hu1.trans hu2).1; obtain ⟨d0, d1, d2, d3⟩ := b1.four; have f0 := b1.free 1)
      | (refine wpList_store_bel rfl 46 _ _ rfl (w.heap.size + 1) _ rfl rfl 46 _ (b2.other ⟨w.heap.size, 1, none⟩ (.int .i64 ((s.isos : Int) + 1)) (by simp)) (by exact Try.info46) (by rfl) (by simp [Value.oneCell']) w.heap.size w (b3.setCell (Nat.le_refl _) _) (Nat.le_succ _) ?_; intro w5 hat hk hsz hb5))
    refine bodyPost_ret (results_cell_at Try.results24 _ _ (w.heap.size + 1) 46 _ _ (by rfl) hat Try.underlying46 rfl (by exact Try.info46)) rfl ⟨_, rfl, ?_, hb5, far_same⟩
    rw [HR.out]
    exact ⟨A, cc, rfl, hcc, HHH.out _ hb5⟩
end Go.Proofs.Ytjdkpnmejkbkiaa
