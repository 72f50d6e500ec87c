/-
  Contracts: what the program shows of a character, and pushing an entry onto its stack. Condition: at most 1000 entries.
-/
import Derived.Test.YthikjknikdacbaaXsa
import Derived.Deep.RegionLaw
set_option linter.unusedVariables false
set_option linter.unusedSimpArgs false
namespace Go.Proofs.Ythikjknikdacbaa
open Go.ChangeShapes Go.WideShapes Go.ChangeAt Go.RowKit Go.Sort

set_option maxHeartbeats 2000000 in
theorem show_ok (B g : Nat) (s : Xs) (c : Int) (w : World) (hs : St B w g s) (hl : 0 < s.l.length ∧ s.l.length ≤ 1000) :
    Calls Try.prog 22 #[.pointer (some ⟨g, 0, none⟩), .int .i64 c] w fun e w' => e = .returned (.tuple #[.int .i64 ((lastE s.l).lv : Int), .int .i64 (ownX s c)]) ∧ Up w w' := by
  have HL := Lib.hid (last_ok B g s w hs hl)
  have HO : Hid (ownX s c = if (lastE s.l).ov ≠ 0 then ((lastE s.l).ov : Int) else c) := Lib.hid rfl
  generalize ownX s c = O at *
  generalize lastE s.l = E at *
  obtain ⟨lv, ov, iso⟩ := E
  unfold entV at HL
  simp only at HL HO ⊢
  clear hs hl
  rcases Nat.eq_zero_or_pos ov with rfl | h0
  · have HO2 : Hid (O = c) := Lib.hid (by rw [HO.out]; rfl)
    clear HO
    go_enter Try.func22, Try.ntmps22
    go_wp2_with (first | (go_at_call 39; refine HL.out.mono ?_; rintro e u ⟨rfl, hu⟩) | (refine wpList_store_at rfl 59 _ _ rfl u.heap.size _ rfl rfl 59 _ (at_new _ _ _) (by exact Try.info59) (by rfl) (by simp [Value.oneCell']) w (hu.alloc _) hu.1.size ?_; intro w1 hat hk hs hu1; have c0 := hat.cell 0 _ rfl; have c1 := hat.cell 1 _ rfl))
    exact bodyPost_ret (results_tmp2 rfl _ _ _) rfl ⟨by rw [HO2.out]; rfl, hu1⟩
  · have HO2 : Hid (O = ov) := Lib.hid (by rw [HO.out, if_pos (by omega)])
    have h1 : ((ov : Int) == 0) = false := by simp; omega
    clear HO
    go_enter Try.func22, Try.ntmps22
    go_wp2_with (first | (go_at_call 39; refine HL.out.mono ?_; rintro e u ⟨rfl, hu⟩) | (refine wpList_store_at rfl 59 _ _ rfl u.heap.size _ rfl rfl 59 _ (at_new _ _ _) (by exact Try.info59) (by rfl) (by simp [Value.oneCell']) w (hu.alloc _) hu.1.size ?_; intro w1 hat hk hs hu1; have c0 := hat.cell 0 _ rfl; have c1 := hat.cell 1 _ rfl))
    exact bodyPost_ret (results_tmp2 rfl _ _ _) rfl ⟨by rw [HO2.out]; rfl, hu1⟩

theorem Try.full59 : (Try.prog.info? 59).map (fun i => (i.zero, i.size, i.bytes)) = some (some (.agg #[.int .i64 0, .int .i64 0, .bool false]), LE.C, 24) := by kernel_rfl
theorem St.pushed {B : Nat} {W w3 : World} {g : Nat} {s : Xs} {e : En} {v v' : Value} {o : Obj} (lo : B ≤ g) (h1 : At W g 39 #[v, .int .i64 (s.isos : Int), .int .i64 (s.embs : Int), .int .i64 (s.vals : Int)]) (h3 : v.ownBlock ≠ some g)
    (hM : MineN LE 59 w3 B v' (s.l ++ [e])) (hfar : ∀ k, k < (W.drew.alloc o).heap.size → v.ownBlock ≠ some k → v'.ownBlock ≠ some k ∧ w3.heap[k]? = (W.drew.alloc o).heap[k]?) :
    At w3 g 39 #[v, .int .i64 (s.isos : Int), .int .i64 (s.embs : Int), .int .i64 (s.vals : Int)] ∧ St B (w3.setCell ⟨g, 0, none⟩ v') g ⟨s.l ++ [e], s.isos, s.embs, s.vals⟩ := by
  have hlt : g < (W.drew.alloc o).heap.size := by have := h1.lt; simp; omega
  obtain ⟨f1, f2⟩ := hfar g hlt h3
  have hA : At w3 g 39 #[v, .int .i64 (s.isos : Int), .int .i64 (s.embs : Int), .int .i64 (s.vals : Int)] := by
    unfold At
    rw [f2]
    exact (show At W.drew g _ _ from h1).alloc o
  refine ⟨hA, lo, v', hA.setCell 0 v', hM.stays fun b hb _ => ?_, f1⟩
  exact Below.heap_setCell _ _ _ _ (fun e => f1 (by rw [hb, e]))
set_option maxHeartbeats 4000000 in
theorem push_ok (B g : Nat) (s : Xs) (e : En) (w : World) (hs : St B w g s) (hl : s.l.length ≤ 1000) :
    Calls Try.prog 41 #[.pointer (some ⟨g, 0, none⟩), entV e] w fun x w' => x = .returned (.bool (roomX s e.lv)) ∧ Below B w w' ∧ St B w' g (if roomX s e.lv = true then ⟨s.l ++ [e], s.isos, s.embs, s.vals⟩ else s) := by
  have hsz : B ≤ w.heap.size := by have := hs.lt; have := hs.lo; omega
  have HU : Hid (∀ W, Up w W → St B W g s) := Lib.hid fun W hW => hs.up hW
  have HV : Hid (∀ W, St B W g s → Calls Try.prog 40 #[.pointer (some ⟨g, 0, none⟩)] W fun e w' => e = .returned (.bool (ovfB s)) ∧ W = w') := Lib.hid fun W hW => ovf_ok B g s W hW
  have hro : roomX s e.lv = (decide (e.lv ≤ 125) && !ovfB s) := by
    unfold roomX ovfB
    rcases Nat.eq_zero_or_pos s.isos with h1 | h1 <;> rcases Nat.eq_zero_or_pos s.embs with h2 | h2 <;> simp [h1, h2] <;> intros <;> omega
  rw [hro]
  by_cases hlv : e.lv ≤ 125
  · rw [decide_eq_true hlv]
    cases ho : ovfB s with
    | true =>
      rw [ho] at HV
      simp only [Bool.not_true, Bool.and_false, if_false, Bool.false_eq_true, reduceCtorEq]
      obtain ⟨lv, ov, iso⟩ := e
      unfold entV
      simp only at hlv ⊢
      have h0 : decide ((125 : Int) < (lv : Int)) = false := decide_eq_false (by omega)
      clear hro ho hs
      go_enter Try.func41, Try.ntmps41
      go_wp2_with (go_at_call 40; refine (HV.out _ (HU.out _ ((Up.refl w).alloc _))).mono ?_; rintro x u ⟨rfl, rfl⟩)
      go_ret
      exact ⟨rfl, (Below.refl _ _).alloc hsz _, HU.out _ ((Up.refl w).alloc _)⟩
    | false =>
      rw [ho] at HV
      simp only [Bool.not_false, Bool.and_self, if_true]
      have hlen := hl
      obtain ⟨lv, ov, iso⟩ := e
      unfold entV
      simp only at hlv ⊢
      have h0 : decide ((125 : Int) < (lv : Int)) = false := decide_eq_false (by omega)
      have HF : Hid (∀ W, w.alloc (.cells #[.int .i64 (lv : Int), .int .i64 (ov : Int), .bool iso] 59) = W → Up w W ∧ At W w.heap.size 59 #[.int .i64 (lv : Int), .int .i64 (ov : Int), .bool iso] ∧ St B W g s) :=
        Lib.hid fun W hW => by subst hW; exact ⟨(Up.refl w).alloc _, at_new _ _ _, HU.out _ ((Up.refl w).alloc _)⟩
      clear hro ho hs
      go_enter Try.func41, Try.ntmps41
      go_wp2_with (go_at_call 40; refine (HV.out _ (HU.out _ ((Up.refl w).alloc _))).mono ?_; rintro x W ⟨rfl, hW⟩; obtain ⟨hu, hat, hs3⟩ := HF.out W hW; clear hW)
      have c0 : W.cell? ⟨w.heap.size, 0, none⟩ = some (.int .i64 (lv : Int)) := hat.cell 0 _ rfl
      have c1 : W.cell? ⟨w.heap.size, 1, none⟩ = some (.int .i64 (ov : Int)) := hat.cell 1 _ rfl
      have c2 : W.cell? ⟨w.heap.size, 2, none⟩ = some (.bool iso) := hat.cell 2 _ rfl
      obtain ⟨lo, v, h1, h2, h3⟩ := hs3
      have hgW := h1.lt
      have d0 : W.cell? ⟨g, 0, none⟩ = some v := h1.cell 0 _ rfl
      have hbW := hu.1.size
      go_region_law ((refine stepN_push (R := LE) (y := ⟨lv, ov, iso⟩) (by rfl) _ _ 37 (by rfl) _ Try.underlying37 Try.full59 rfl (by decide) (by omega) B v s.l W.heap.size (h2.drew.alloc _) (by rfl) (by rfl) (cells_newN (R := LE) W.drew ⟨lv, ov, iso⟩ _) (by simp; omega) (by omega) ?_; intro v' w3 hM hb3 hfar; obtain ⟨hA3, hS3⟩ := St.pushed lo h1 h3 hM hfar; have c3 : w3.cell? ⟨g, 0, none⟩ = some v := hA3.cell 0 _ rfl; have f3 := hA3.free 0; obtain ⟨A', c', rfl, _⟩ := hM.has))
      all_goals
        go_wp2
        go_ret
        exact ⟨rfl, ((((hu.1.mono hsz).alloc (by omega) _).drew).trans hb3).setCell lo _, by rw [List.length_append] at hS3; exact hS3⟩
  · rw [decide_eq_false hlv]
    simp only [Bool.false_and, if_false, Bool.false_eq_true, reduceCtorEq]
    obtain ⟨lv, ov, iso⟩ := e
    unfold entV
    simp only at hlv ⊢
    have h0 : decide ((125 : Int) < (lv : Int)) = true := decide_eq_true (by omega)
    clear hro hs
    go_enter Try.func41, Try.ntmps41
    go_wp2
    go_ret
    exact ⟨rfl, (Below.refl _ _).alloc hsz _, HU.out _ ((Up.refl w).alloc _)⟩
end Go.Proofs.Ythikjknikdacbaa
