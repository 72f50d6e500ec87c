/-
  Layer 22's Text: the glyphs of a text. Condition: at most 1000000 mappings and code points.
-/
import Derived.Test.YtllmafbpjmclbaaZStj
set_option linter.unusedVariables false
set_option linter.unusedSimpArgs false
namespace Go.Proofs.Ytllmafbpjmclbaa
open Go.ChangeShapes Go.WideShapes Go.ChangeAt Go.RowKit Go.Sort

theorem run_mk (n : Nat) (hn : n ≤ 1000000) (W : World) : (Instr.makeSlice 59 (.int .i64 (n : Int)) (.int .i64 (n : Int))).run Try.prog W = .ok (.slice (some ⟨W.heap.size, 0, none⟩) n n) (W.alloc (.cells (madeCells #[Value.int .i64 0] n) 3)) := by
  obtain ⟨i, hi, hzz⟩ := Option.map_eq_some_iff.1 fullI
  simp only [Prod.mk.injEq] at hzz
  obtain ⟨hz, hs, hb⟩ := hzz
  have := run_make (P := Try.prog) W 59 3 i (.int .i64 0) Try.underlying59 hi hz .i64 .i64 (n : Int) (n : Int) (by omega) (by omega) (by rw [hb]; omega) (by omega)
  rw [this, hs, Nat.mul_one]
  rfl
theorem mine_mk {w : World} {n : Nat} (hn : n ≤ 1000000) : Mine .i64 3 (w.alloc (.cells (madeCells #[Value.int .i64 0] n) 3)) w.heap.size (.slice (some ⟨w.heap.size, 0, none⟩) n n) (List.replicate n 0) := by
  have e : madeCells #[Value.int .i64 0] n = ((List.replicate n (0 : Int)).map (Value.int .i64)).toArray := by
    have e1 : (madeCells #[Value.int .i64 0] n).toList = (List.replicate n (0 : Int)).map (Value.int .i64) := by
      unfold madeCells
      apply List.ext_getElem?
      intro i
      simp
      rcases Nat.lt_or_ge i n with h | h
      · simp [h, Nat.mod_one]
      · simp [Nat.not_lt.2 h]
    exact congrArg List.toArray e1
  rw [e]
  refine ⟨by simp, .inr ⟨w.heap.size, n, _, by simp, Nat.le_refl _, heap_alloc_new w _, by simp, by unfold maxLen; omega, by simp, ?_⟩⟩
  rw [List.length_replicate]
  exact List.take_of_length_le (by simp)
/-- the glyphs of the first code points, and nothing yet -/
def textL (G : Int → Int) (t : List Int) (k : Nat) : List Int := (t.take k).map G ++ List.replicate (t.length - k) 0
theorem textL_len (G : Int → Int) (t : List Int) (k : Nat) (h : k ≤ t.length) : (textL G t k).length = t.length := by simp [textL]; omega
theorem textL_zero (G : Int → Int) (t : List Int) : textL G t 0 = List.replicate t.length 0 := by simp [textL]
theorem textL_end (G : Int → Int) (t : List Int) : textL G t t.length = t.map G := by simp [textL]
theorem textL_at (G : Int → Int) (t : List Int) (k : Nat) (h : k < t.length) : (textL G t k)[k]? = some 0 := by
  unfold textL
  rw [List.getElem?_append_right (by simp; omega), List.length_map, List.length_take, Nat.min_eq_left (by omega), Nat.sub_self, List.getElem?_replicate, if_pos (by omega)]
theorem textL_step (G : Int → Int) (t : List Int) (k : Nat) (h : k < t.length) : (textL G t k).set k (G t[k]) = textL G t (k + 1) := by
  unfold textL
  rw [List.set_append_right _ _ (by simp; omega), List.length_map, List.length_take, Nat.min_eq_left (by omega), Nat.sub_self, show t.length - k = (t.length - (k + 1)) + 1 by omega, List.replicate_succ, List.set_cons_zero, List.take_add_one, List.getElem?_eq_getElem h, List.map_append, List.append_assoc]
  rfl
theorem textL_same (G : Int → Int) (t : List Int) (k : Nat) (h : k < t.length) : (textL G t k).set k 0 = textL G t k := by
  apply List.ext_getElem?
  intro j
  rw [List.getElem?_set]
  split
  · next e =>
    subst e
    rw [textL_at G t k h, if_pos (by rw [textL_len G t k (by omega)]; exact h)]
  · rfl

set_option maxRecDepth 20000 in
set_option maxHeartbeats 4000000 in
theorem ptext_ok (v0 v1 v3 v4 v5 : Value) (A T : Option Addr) (c n d m : Nat) (M : List mapS.Dat) (t : List Int) (w : World) (hnl : n = M.length) (hn : n ≤ 1000000) (hml : m = t.length) (hm : m ≤ 1000000)
    (h : HasN mapS.lay w w.heap.size A M) (ht : Has w w.heap.size T (t.map (Value.int .i32))) (h0 : v0.cells = #[v0]) (h1 : v1.cells = #[v1]) (h3 : v3.cells = #[v3]) (h4 : v4.cells = #[v4]) (h5 : v5.cells = #[v5]) :
    Calls Try.prog 29 #[.agg #[v0, v1, .slice A n c, v3, v4, v5], .slice T m d] w fun e w' => ∃ v, e = .returned v ∧ Mine .i64 3 w' w.heap.size v (t.map (gF M)) ∧ Below w.heap.size w w' := by
  have hc2 : (w.alloc (.cells #[v0, v1, .slice A n c, v3, v4, v5] 29)).cell? ⟨w.heap.size, 2, none⟩ = some (.slice A n c) := (at_new w _ _).cell 2 _ rfl
  have hup : Below w.heap.size w (w.alloc (.cells #[v0, v1, .slice A n c, v3, v4, v5] 29)) := (Below.refl _ _).alloc (Nat.le_refl _) _
  have HB := Lib.hid (byCode_ok A n c M _ hnl hn (h.carry hup))
  have HT := Lib.hid (fun (W : World) (hb : Below w.heap.size w W) => ht.carry hb)
  have HUP := Lib.hid hup
  have HML := Lib.hid hml
  have HMK := fun W => run_mk m hm W
  clear h ht hup hnl hml
  go_enter Try.func29, Try.ntmps29
  go_wp2_with (first
    | (go_at_call 57; (with_reducible refine HB.out.mono ?_); rintro e u ⟨A', c', E, rfl, hE, hEH, hbu⟩))
  have hbw : Below w.heap.size w u := below_trans HUP.out hbu (by simp)
  have hm1 : Mine .i64 3 (u.alloc (.cells (madeCells #[Value.int .i64 0] m) 3)) u.heap.size (.slice (some ⟨u.heap.size, 0, none⟩) m m) (textL (gF M) t 0) := by
    rw [textL_zero, ← HML.out]
    exact mine_mk hm
  have htu := HT.out u hbw
  have hb1 : Below u.heap.size u (u.alloc (.cells (madeCells #[Value.int .i64 0] m) 3)) := (Below.refl _ _).alloc (Nat.le_refl _) _
  have hwu := hbw.size
  generalize u.alloc (.cells (madeCells #[Value.int .i64 0] m) 3) = W1 at *
  obtain ⟨gb, hgb⟩ : ∃ gb, u.heap.size = gb := ⟨_, rfl⟩
  rw [hgb] at hm1 hb1 hEH htu hwu
  rw [hgb]
  obtain ⟨wb, hwb⟩ : ∃ wb, w.heap.size = wb := ⟨_, rfl⟩
  have HGW : Hid (w.heap.size ≤ gb ∧ u.heap.size = gb ∧ Below w.heap.size w u) := Lib.hid ⟨hwu, hgb, hbw⟩
  simp only [hwb]
  have HM0 : Hid (Mine .i64 3 W1 gb (.slice (some ⟨gb, 0, none⟩) m m) (textL (gF M) t 0) ∧ Below gb u W1) := Lib.hid ⟨hm1, hb1⟩
  have HEX := Lib.hid (And.intro hE (And.intro hEH htu))
  clear hm1 hb1 hEH htu hwu hgb hwb hbw hbu HT HB hc2 h0 h1 h3 h4 h5 HMK hE
  go_loopw [19] (fun v wr => ∃ k : Nat, k ≤ m ∧ v = .int .i64 k ∧ Hid (Mine .i64 3 wr gb (.slice (some ⟨gb, 0, none⟩) m m) (textL (gF M) t k) ∧ Below gb u wr)) (fun v _ => m - (intOf v).toNat)
  case atStart => exact ⟨0, by omega, rfl, HM0⟩
  case round =>
    clear HM0
    obtain ⟨k, hkm, rfl, HM⟩ := hrel
    by_cases hlt : k < m
    · have hlt1 : k < t.length := by rw [← HML.out]; exact hlt
      obtain ⟨bt, offt, hT, hbt, hct⟩ := (HEX.out.2.2.below HM.out.2).at_int hlt1
      subst hT
      have hf := HM.out.1.free k
      have hcg := HM.out.1.cellAt k (by rw [textL_len _ _ _ (by omega)]; exact hlt1)
      have hst := HM.out.1.set k (by rw [textL_len _ _ _ (by omega)]; exact hlt1) 0
      rw [textL_same _ _ _ hlt1] at hst
      have hb1 : Below gb u (wr.setCell ⟨gb, k, none⟩ (.int .i64 0)) := HM.out.2.setCell (p := ⟨gb, k, none⟩) (Nat.le_refl _) _
      have hgx : (textL (gF M) t k)[k]'(by rw [textL_len _ _ _ (by omega)]; exact hlt1) = 0 := by
        have := textL_at (gF M) t k hlt1
        rw [List.getElem?_eq_getElem (by rw [textL_len _ _ _ (by omega)]; exact hlt1)] at this
        injection this
      rw [hgx] at hcg
      have hstep := textL_step (gF M) t k hlt1
      obtain ⟨r, hr⟩ : ∃ r, t[k] = r := ⟨_, rfl⟩
      rw [hr] at hct hstep
      have HSTEP := Lib.hid hstep
      have HM1 : Hid (Mine .i64 3 (wr.setCell ⟨gb, k, none⟩ (.int .i64 0)) gb (.slice (some ⟨gb, 0, none⟩) m m) (textL (gF M) t k) ∧ Below gb u (wr.setCell ⟨gb, k, none⟩ (.int .i64 0))) := Lib.hid ⟨hst, hb1⟩
      have HLT : Hid (k < (textL (gF M) t k).length) := Lib.hid (by rw [textL_len _ _ _ (by omega)]; exact hlt1)
      have HUW := Lib.hid (fun (W : World) (hb : Below gb u W) => ((HEX.out.2.1.below hb).more (by have := hb.size; have := HGW.out.2.1; omega) : HasN mapS.lay W W.heap.size A' E))
      clear hgx hst hb1 hbt hstep HM hr hlt1
      by_cases hin : inF E r = true
      · have HF := Lib.hid (find_yes A' n c' E r (wr.setCell ⟨gb, k, none⟩ (.int .i64 0)) HEX.out.1.1 hn (HUW.out _ HM1.out.2) HEX.out.1.2.1 hin)
        clear hin
        go_wp2_with (go_at_call 58; (with_reducible refine HF.out.mono ?_); rintro e z ⟨i, x, rfl, ⟨hx, hg, hin⟩, hu⟩; (have hbz := HM1.out.2.trans (hu.1.mono (by have := HGW.out.2.1; have := HM1.out.2.size; omega))); (obtain ⟨be, offe, hA', hbe, ce1, ce2⟩ := map_cells (HUW.out z hbz) hx); subst hA'; (have hMz := HM1.out.1.up hu); (have hfz := hMz.free k); (obtain ⟨y, hcz⟩ : ∃ y, z.cell? ⟨gb, k, none⟩ = some (.int .i64 y) := ⟨_, hMz.cellAt k HLT.out⟩))
        have HZ : Hid (Mine .i64 3 (z.setCell ⟨gb, k, none⟩ (.int .i64 x.2.1)) gb (.slice (some ⟨gb, 0, none⟩) m m) (textL (gF M) t (k + 1)) ∧ Below gb u (z.setCell ⟨gb, k, none⟩ (.int .i64 x.2.1))) := Lib.hid ⟨by
          have h9 := hMz.set k HLT.out x.2.1
          rw [← hg, HEX.out.1.2.2, HSTEP.out] at h9
          rw [← hg, HEX.out.1.2.2]
          exact h9, hbz.setCell (p := ⟨gb, k, none⟩) (Nat.le_refl _) _⟩
        clear hg hMz hbz hu HF
        go_roundw
        case rel => exact ⟨k + 1, by omega, by go_num, HZ⟩
        case measure => simp [intOf] <;> omega
      · have hin2 : inF E r = false := by simpa using hin
        have HF := Lib.hid (find_no A' n c' E r (wr.setCell ⟨gb, k, none⟩ (.int .i64 0)) HEX.out.1.1 hn (HUW.out _ HM1.out.2) HEX.out.1.2.1 hin2)
        have hg0 : gF M r = 0 := by rw [← HEX.out.1.2.2]; exact gF_none E r hin2
        have HSAME : Hid (textL (gF M) t k = textL (gF M) t (k + 1)) := Lib.hid (by
          have h9 := HSTEP.out
          rw [hg0, textL_same _ _ _ (by rw [← HML.out]; exact hlt)] at h9
          exact h9)
        clear hin hin2 hg0
        go_wp2_with (go_at_call 58; (with_reducible refine HF.out.mono ?_); rintro e z ⟨i, rfl, hu⟩; (have hbz := HM1.out.2.trans (hu.1.mono (by have := HGW.out.2.1; have := HM1.out.2.size; omega))); (have hMz := HM1.out.1.up hu))
        have HZ : Hid (Mine .i64 3 z gb (.slice (some ⟨gb, 0, none⟩) m m) (textL (gF M) t (k + 1)) ∧ Below gb u z) := Lib.hid ⟨by rw [← HSAME.out]; exact hMz, hbz⟩
        clear hMz hbz hu HF
        go_roundw
        case rel => exact ⟨k + 1, by omega, by go_num, HZ⟩
        case measure => simp [intOf] <;> omega
    · have HZ : Hid (Mine .i64 3 wr w.heap.size (.slice (some ⟨gb, 0, none⟩) m m) (t.map (gF M)) ∧ Below w.heap.size w wr) := Lib.hid (by
        have h9 := HM.out.1
        rw [show k = t.length by have := HML.out; omega, textL_end] at h9
        exact ⟨h9.low HGW.out.1, HGW.out.2.2.trans (HM.out.2.mono HGW.out.1)⟩)
      clear HM
      go_wp2
      go_ret
      exact ⟨_, rfl, HZ.out⟩
end Go.Proofs.Ytllmafbpjmclbaa
