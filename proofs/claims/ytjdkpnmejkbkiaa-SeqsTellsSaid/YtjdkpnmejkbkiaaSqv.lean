/-
  Contracts: Of and Runs of lists that are not as long as one another; two lists compared; the chapter's example. Condition: at most 1000 classes.
-/
import Derived.Test.YtjdkpnmejkbkiaaSqp
set_option linter.unusedVariables false
set_option linter.unusedSimpArgs false
namespace Go.Proofs.Ytjdkpnmejkbkiaa
open Go.ChangeShapes Go.WideShapes Go.ChangeAt Go.RowKit Go.Sort

theorem sruns_uneven (A AL : Option Addr) (n m c cL : Nat) (w : World) (hne : n ≠ m) :
    Calls Try.prog 13 #[.slice A n c, .slice AL m cL] w fun e w' => e = .returned (.slice none 0 0) ∧ w = w' := by
  have h1 : (n == m) = false := by simpa using hne
  go_enter Try.func13, Try.ntmps13
  go_wp2
  go_ret
  exact ⟨rfl, rfl⟩
set_option maxHeartbeats 2000000 in
theorem sof_uneven (A AL : Option Addr) (n m c cL : Nat) (b : Int) (cs : List Int) (w : World) (hn : n = cs.length) (hmax : n ≤ 1000) (hne : n ≠ m) (h : Has w w.heap.size A (cs.map (Value.int .i64))) :
    Calls Try.prog 10 #[.slice A n c, .slice AL m cL, .int .i64 b] w fun e w' => e = .returned (.slice none 0 0) ∧ Below w.heap.size w w' := by
  have HRU := Lib.hid (sruns_uneven A AL n m c cL w hne)
  have HMA := Lib.hid (smatches_ok A n c cs w hn hmax h)
  have HRE := Lib.hid (fun (W : World) => repeat_ok W.heap.size n (-1) (W.alloc (.cells #[.int .i64 (-1)] 3)) hmax (by simp) (push_cell W (.int .i64 (-1)) 3 0 _ rfl))
  clear hn h hne
  go_enter Try.func10, Try.ntmps10
  go_wp2_with (first
    | (go_at_call 13; (with_reducible refine HRU.out.mono ?_); rintro e q ⟨rfl, rfl⟩)
    | (go_at_call 27; (with_reducible refine HMA.out.mono ?_); rintro e W2 ⟨V9, rfl, hM9, hb2⟩; obtain ⟨A9, c9, rfl, _, _, _⟩ := hM9.size)
    | (go_at_call 28; (with_reducible refine (HRE.out W2).mono ?_); rintro e w3 ⟨V10, rfl, hV, hb3⟩))
  have hb : Below w.heap.size w w3 := below_trans hb2 (((Below.refl _ _).alloc (Nat.le_refl _) _).trans (hb3.mono (by simp))) hb2.size
  go_loopw [7, 28] (fun v7 v28 wr => v7 = .slice none 0 0 ∧ v28 = .int .i64 0 ∧ wr = w3) (fun _ _ _ => 0)
  case atStart => exact ⟨rfl, rfl, rfl⟩
  case round =>
    obtain ⟨rfl, rfl, rfl⟩ := hrel
    go_wp2
    go_ret
    exact ⟨rfl, hb⟩

set_option maxHeartbeats 1000000 in
theorem ints_ok (A B : Option Addr) (c d n : Nat) (xs : List Int) (w : World) (hnx : n = xs.length) (hn : n ≤ 1000000) (h1 : Has w w.heap.size A (xs.map (Value.int .i64))) (h2 : Has w w.heap.size B (xs.map (Value.int .i64))) :
    Calls Try.prog 15 #[.slice A n c, .slice B n d] w fun e w' => e = .returned (.bool true) ∧ ∃ q, w' = w.drewN q := by
  have HN := Lib.hid hnx
  clear hnx
  go_enter Try.func15, Try.ntmps15
  go_wp2
  go_loopw [5] (fun i wr => ∃ k : Nat, k ≤ n ∧ i = .int .i64 k ∧ ∃ q, wr = w.drewN q) (fun i _ => n - (intOf i).toNat)
  case atStart => exact ⟨0, by omega, rfl, 0, rfl⟩
  case round =>
    obtain ⟨k, hk, rfl, q, rfl⟩ := hrel
    by_cases hlt : k < n
    · have hlt2 : k < xs.length := by rw [← HN.out]; exact hlt
      obtain ⟨b, off, rfl, hb, hc⟩ := h1.at_int hlt2
      obtain ⟨b2, off2, rfl, hb2, hc2⟩ := h2.at_int hlt2
      generalize xs[k] = X at hc hc2
      clear h1 h2
      go_wp2
      go_quiet (fail)
      go_wp2
      go_roundw
      case rel => exact ⟨k + 1, by omega, by go_num, _, rfl⟩
      case measure => simp [intOf] <;> omega
    · obtain rfl : k = n := by omega
      go_wp2
      go_ret
      exact ⟨rfl, _, rfl⟩
set_option maxHeartbeats 1000000 in
theorem cuts_ok (A B : Option Addr) (c d n : Nat) (xs : List (Int × Int)) (w : World) (hnx : n = xs.length) (hn : n ≤ 1000000) (h1 : HasN LCu w w.heap.size A xs) (h2 : HasN LCu w w.heap.size B xs) :
    Calls Try.prog 12 #[.slice A n c, .slice B n d] w fun e w' => e = .returned (.bool true) ∧ ∃ q, w' = w.drewN q := by
  have HN := Lib.hid hnx
  clear hnx
  go_enter Try.func12, Try.ntmps12
  go_wp2
  go_loopw [5] (fun i wr => ∃ k : Nat, k ≤ n ∧ i = .int .i64 k ∧ ∃ q, wr = w.drewN q) (fun i _ => n - (intOf i).toNat)
  case atStart => exact ⟨0, by omega, rfl, 0, rfl⟩
  case round =>
    obtain ⟨k, hk, rfl, q, rfl⟩ := hrel
    by_cases hlt : k < n
    · have hlt2 : k < xs.length := by rw [← HN.out]; exact hlt
      obtain ⟨⟨x, y⟩, hxy⟩ : ∃ p, xs[k]? = some p := ⟨_, List.getElem?_eq_getElem hlt2⟩
      obtain ⟨b, off, rfl, hb, hc, hcb⟩ := h1.two hxy
      obtain ⟨b2, off2, rfl, hb2, hc2, hc2b⟩ := h2.two hxy
      clear h1 h2
      go_wp2
      go_quiet (fail)
      go_wp2
      go_roundw
      case rel => exact ⟨k + 1, by omega, by go_num, _, rfl⟩
      case measure => simp [intOf] <;> omega
    · obtain rfl : k = n := by omega
      go_wp2
      go_ret
      exact ⟨rfl, _, rfl⟩

theorem ReadsQ.at_ {w : World} {v : Value} {l : List Sq} (h : ReadsQ w v l) {i : Nat} {x : Sq} (hi : l[i]? = some x) :
    ∃ b off c A n d, v = .slice (some ⟨b, off, none⟩) l.length c ∧ b < w.heap.size ∧ w.cell? ⟨b, off + i * 4, none⟩ = some (.slice A n d) ∧ w.cell? ⟨b, off + i * 4 + 1, none⟩ = some (.int .i64 x.lv) ∧
      w.cell? ⟨b, off + i * 4 + 2, none⟩ = some (.int .i64 x.sos) ∧ w.cell? ⟨b, off + i * 4 + 3, none⟩ = some (.int .i64 x.eos) ∧ n = x.pl.length ∧ n ≤ d ∧ Has w w.heap.size A ((ints x.pl).map (Value.int .i64)) := by
  obtain ⟨A, c, rows, rfl, hh, hl, hv⟩ := h
  have hlt := (List.getElem?_eq_some_iff.1 hi).1
  obtain ⟨r, hr⟩ : ∃ r, rows[i]? = some r := ⟨_, List.getElem?_eq_getElem (by omega)⟩
  obtain ⟨b, off, rfl, hb, hc⟩ := hh (fun e => by subst e; simp at hr)
  obtain ⟨k1, k2, k3, k4, k5, k6⟩ := hv i r x hr hi
  refine ⟨b, off, c, r.A, r.n, r.c, rfl, hb, hc i r hr 0 _ rfl, ?_, ?_, ?_, k1, k2, k3⟩
  · rw [← k4]; exact hc i r hr 1 _ rfl
  · rw [← k5]; exact hc i r hr 2 _ rfl
  · rw [← k6]; exact hc i r hr 3 _ rfl
theorem exam_lv : (lvs (lvF 1 [2, 20, 1, 23, 2]) 5) = [1, 1, 2, 1, 1] := by decide
theorem exam_sq : ∃ s e, seqL 1 [2, 20, 1, 23, 2] = [⟨[0, 1, 3, 4], 1, s, e⟩, ⟨[2], 2, 1, 1⟩] := ⟨2, 2, by rfl⟩
theorem exam_i1 (w1 : World) (A : Option Addr) (d : Nat) (g : Has w1 w1.heap.size A (([0, 1, 3, 4] : List Int).map (Value.int .i64))) : Calls Try.prog 15 #[.slice A 4 d, .slice (some ⟨w1.heap.size, 0, none⟩) 4 4] (w1.alloc (.cells #[.int .i64 0, .int .i64 1, .int .i64 3, .int .i64 4] 3)) fun e w' => e = .returned (.bool true) ∧ ∃ q, w' = (w1.alloc (.cells #[.int .i64 0, .int .i64 1, .int .i64 3, .int .i64 4] 3)).drewN q :=
  ints_ok A _ d 4 4 [0, 1, 3, 4] _ rfl (by decide) (g.carry ((Below.refl _ _).alloc (Nat.le_refl _) _)) (has_lit w1 .i64 3 [0, 1, 3, 4])
theorem exam_i2 (w1 : World) (A : Option Addr) (d : Nat) (g : Has w1 w1.heap.size A (([2] : List Int).map (Value.int .i64))) (q : Nat) : Calls Try.prog 15 #[.slice A 1 d, .slice (some ⟨w1.heap.size + 1, 0, none⟩) 1 1] (((w1.alloc (.cells #[.int .i64 0, .int .i64 1, .int .i64 3, .int .i64 4] 3)).drewN q).alloc (.cells #[.int .i64 2] 3)) fun e w' => e = .returned (.bool true) ∧ ∃ q', w' = (((w1.alloc (.cells #[.int .i64 0, .int .i64 1, .int .i64 3, .int .i64 4] 3)).drewN q).alloc (.cells #[.int .i64 2] 3)).drewN q' := by
  have hsz : ((w1.alloc (.cells #[.int .i64 0, .int .i64 1, .int .i64 3, .int .i64 4] 3)).drewN q).heap.size = w1.heap.size + 1 := by simp
  have hl := has_lit ((w1.alloc (.cells #[.int .i64 0, .int .i64 1, .int .i64 3, .int .i64 4] 3)).drewN q) .i64 3 [2]
  rw [hsz] at hl
  refine ints_ok A _ d 1 1 [2] _ rfl (by decide) (g.carry ?_) hl
  exact (below_drewN ((Below.refl _ _).alloc (Nat.le_refl _) _) q).alloc (by simp) _
set_option maxHeartbeats 4000000 in
theorem alive_ok (w : World) : Calls Try.prog 7 #[] w fun e w' => e = .returned (.bool true) ∧ Below w.heap.size w w' := by
  have HO : Hid (∀ W, Below w.heap.size w W → Calls Try.prog 10 #[.slice (some ⟨W.heap.size, 0, none⟩) 5 5, .slice (some ⟨W.heap.size + 1, 0, none⟩) 5 5, .int .i64 1] ((W.alloc (.cells #[.int .i64 2, .int .i64 20, .int .i64 1, .int .i64 23, .int .i64 2] 3)).alloc (.cells #[.int .i64 1, .int .i64 1, .int .i64 2, .int .i64 1, .int .i64 1] 3)) fun e w' => ∃ s x b off c A0 d0 A1 d1, e = .returned (.slice (some ⟨b, off, none⟩) 2 c) ∧ Below w.heap.size w w' ∧ b < w'.heap.size ∧
      w'.cell? ⟨b, off, none⟩ = some (.slice A0 4 d0) ∧ w'.cell? ⟨b, off + 1, none⟩ = some (.int .i64 1) ∧ w'.cell? ⟨b, off + 4, none⟩ = some (.slice A1 1 d1) ∧ w'.cell? ⟨b, off + 4 + 2, none⟩ = some (.int .i64 1) ∧ w'.cell? ⟨b, off + 4 + 3, none⟩ = some (.int .i64 1) ∧
      Has w' w'.heap.size A0 (([0, 1, 3, 4] : List Int).map (Value.int .i64)) ∧ Has w' w'.heap.size A1 (([2] : List Int).map (Value.int .i64)) ∧ s = x) := Lib.hid fun W hW => by
    have b1 : Below w.heap.size w (W.alloc (.cells #[.int .i64 2, .int .i64 20, .int .i64 1, .int .i64 23, .int .i64 2] 3)) := hW.alloc hW.size _
    have h1 := (has_lit W .i64 3 [2, 20, 1, 23, 2]).carry ((Below.refl _ _).alloc (Nat.le_refl _) (.cells #[.int .i64 1, .int .i64 1, .int .i64 2, .int .i64 1, .int .i64 1] 3))
    have h2 := has_lit (W.alloc (.cells #[.int .i64 2, .int .i64 20, .int .i64 1, .int .i64 23, .int .i64 2] 3)) .i64 3 [1, 1, 2, 1, 1]
    have hsz : (W.alloc (.cells #[.int .i64 2, .int .i64 20, .int .i64 1, .int .i64 23, .int .i64 2] 3)).heap.size = W.heap.size + 1 := by simp
    rw [hsz] at h2
    refine (sof_ok (some ⟨W.heap.size, 0, none⟩) (some ⟨W.heap.size + 1, 0, none⟩) 5 5 5 1 [2, 20, 1, 23, 2] _ rfl (by decide) (by decide) h1 (by rw [exam_lv]; exact h2)).mono ?_
    rintro e w' ⟨v, rfl, hv, hb⟩
    obtain ⟨s, x, hs⟩ := exam_sq
    rw [hs] at hv
    obtain ⟨b, off, c, A0, n0, d0, rfl, hbb, k1, k2, k3, k4, rfl, _, k5⟩ := hv.at_ (i := 0) rfl
    obtain ⟨b', off', c', A1, n1, d1, hv2, _, g1, g2, g3, g4, rfl, _, g5⟩ := hv.at_ (i := 1) rfl
    injection hv2 with e1 e2 e3
    injection e1 with e1
    injection e1 with e4 e5
    subst e4; subst e5
    exact ⟨2, 2, b, off, c, A0, d0, A1, d1, rfl, below_trans (b1.alloc (by simp; have := hW.size; omega) _) hb (by simp; have := hW.size; omega), hbb, k1, k2, g1, g3, g4, k5, g5, rfl⟩
  go_enter Try.func7, Try.ntmps7
  go_wp2_with (first
    | (go_at_call 10; (refine (HO.out w (Below.refl _ _)).mono ?_); rintro e w1 ⟨s, x, b, off, c, A0, d0, A1, d1, rfl, hb1, hbb, k1, k2, k3, k4, k5, g1, g2, _⟩; have HI1 := exam_i1 w1 A0 d0 g1; have HI2 := exam_i2 w1 A1 d1 g2)
    | (go_at_call 15; (with_reducible refine HI1.mono ?_); rintro e u ⟨rfl, q, rfl⟩)
    | (go_at_call 15; (with_reducible refine (HI2 q).mono ?_); rintro e u ⟨rfl, q2, rfl⟩))
  go_ret
  exact ⟨rfl, below_drewN ((below_drewN (hb1.alloc hb1.size _) q).alloc (Nat.le_trans hb1.size (by simp)) _) _⟩
end Go.Proofs.Ytjdkpnmejkbkiaa
