/-
  Contracts of Paras, the program's and the document's, and of the program's ends. Condition: at most 1000 code points.
-/
import Derived.Test.YtneiifjihgbacaaBidi
import Derived.Test.YtneiifjihgbacaaOwn
import Derived.Test.YtneiifjihgbacaaCell
import Derived.Test.YtneiifjihgbacaaPar
set_option linter.unusedVariables false
set_option linter.unusedSimpArgs false
namespace Go.Proofs.Ytneiifjihgbacaa
open Go.ChangeShapes Go.WideShapes Go.ChangeAt Go.RowKit

theorem fullC : (Try.prog.info? 27).map (fun i => (i.zero, i.size, i.bytes)) = some (some (.agg #[.int .i64 0, .int .i64 0]), 2, 16) := by kernel_rfl
theorem of_x (r : Int) (p : Pr) (hp : ofP r = p) (w : World) : Calls Try.prog 18 #[.int .i32 r] w fun e w' => e = .returned (.agg #[.int .i64 p.bidi, .int .i64 p.cl, .int .i64 p.br, .int .i64 p.sc, .int .i64 p.jn, .int .i64 p.wd, .int .i32 p.mi, .int .i32 p.pa, .bool p.op]) ∧ Up w w' := by
  have := of_ok r w
  rw [hp] at this
  exact this
section
variable {t : List Int} {k : Nat} {X Y : Int} {p : Pr}
theorem getDI {l : List Int} {k : Nat} (h : k < l.length) : l.getD k 0 = l[k] := by rw [List.getD_eq_getElem?_getD, List.getElem?_eq_getElem h]; rfl
theorem brk_end (h : k + 1 = t.length) : brkP t k = true := by unfold brkP; simp [h]
theorem brk_crlf (h : k + 1 < t.length) (h1 : t.getD k 0 = 13) (h2 : t.getD (k + 1) 0 = 10) : brkP t k = false := by
  unfold brkP crlf; rw [h1, h2]; simp [h]; omega
theorem brk_cr (h : k + 1 < t.length) (h2 : t.getD (k + 1) 0 ≠ 10) : brkP t k = (bdC t k == 11) := by
  unfold brkP crlf
  have e : (t.getD (k + 1) 0 == 10) = false := by simpa using h2
  have e2 : (k + 1 == t.length) = false := by simp; omega
  rw [e, e2]; simp
theorem brk_not (h : k + 1 < t.length) (h2 : t.getD k 0 ≠ 13) : brkP t k = (bdC t k == 11) := by
  unfold brkP crlf
  have e : (t.getD k 0 == 13) = false := by simpa using h2
  have e2 : (k + 1 == t.length) = false := by simp; omega
  rw [e, e2]; simp
theorem par_yes (h : brkP t k = true) : parS t (k + 1) = ⟨(parS t k).out ++ [((parS t k).frm, k + 1)], k + 1⟩ := by
  show (if brkP t k = true then _ else _) = _; rw [if_pos h]
theorem par_no (h : brkP t k = false) : parS t (k + 1) = parS t k := by
  show (if brkP t k = true then _ else _) = _; rw [if_neg (by rw [h]; decide)]
end

set_option maxRecDepth 20000 in
set_option maxHeartbeats 4000000 in
theorem ends_ok (A : Option Addr) (n c k : Nat) (t : List Int) (w : World) (hn : n = t.length) (hmax : n ≤ 1000) (hk : k < n) (h : Has w w.heap.size A (t.map (Value.int .i32))) :
    Calls Try.prog 19 #[.slice A n c, .int .i64 k] w fun e w' => e = .returned (.bool (brkP t k)) ∧ Up w w' := by
  by_cases h1 : k + 1 = n
  · have HV := Lib.hid (brk_end (t := t) (k := k) (by omega))
    have hd : ((k : Int) == (n : Int) - 1) = true := by simp; omega
    clear hn h
    go_enter Try.func19, Try.ntmps19
    go_wp2
    go_ret
    exact ⟨by rw [HV.out]; rfl, Up.refl _⟩
  have hd : ((k : Int) == (n : Int) - 1) = false := by simp; omega
  have hk0 : k < t.length := by omega
  have hk1 : k + 1 < t.length := by omega
  obtain ⟨b, off, rfl, hb, hc0⟩ := h.at_int hk0
  obtain ⟨b', off', hA, _, hc1⟩ := h.at_int hk1
  injection hA with hA
  injection hA with e1 e2
  subst e1; subst e2
  have b1 := brk_crlf (t := t) (k := k) hk1
  have b2 := brk_cr (t := t) (k := k) hk1
  have b3 := brk_not (t := t) (k := k) hk1
  unfold bdC at b2 b3
  rw [getDI hk0] at b1 b2 b3
  rw [getDI hk1] at b1 b2
  generalize t[k] = X at *
  generalize t[k + 1] = Y at *
  generalize brkP t k = V at *
  have c1 : ((k : Int) + 1).toNat = k + 1 := by omega
  have hk2 : k + 1 < n := by omega
  clear hn h hk0 hk1 h1
  by_cases hcr : X = 13 ∧ Y = 10
  · obtain ⟨rfl, rfl⟩ := hcr
    have HV := Lib.hid (b1 rfl rfl)
    clear b1 b2 b3
    go_enter Try.func19, Try.ntmps19
    go_wp2
    go_ret
    exact ⟨by rw [HV.out]; rfl, Up.refl _⟩
  · have hV : V = ((ofP X).bidi == 11) := by
      by_cases hx : X = 13
      · exact b2 (fun e => hcr ⟨hx, e⟩)
      · exact b3 hx
    have hor : (X == 13) = false ∨ ((X == 13) = true ∧ (Y == 10) = false) := by
      by_cases hx : X = 13
      · exact .inr ⟨by simp [hx], by simp; exact fun e => hcr ⟨hx, e⟩⟩
      · exact .inl (by simpa using hx)
    obtain ⟨p, hp⟩ : ∃ p, ofP X = p := ⟨_, rfl⟩
    rw [hp] at hV
    have HO := Lib.hid (fun w => of_x X p hp w)
    have HV := Lib.hid hV
    have hfb := fun w => field_bd p w
    clear b1 b2 b3 hcr hV hp
    rcases hor with hx | ⟨hx, hy⟩
    all_goals
      go_enter Try.func19, Try.ntmps19
      go_wp2_with (go_at_call 18; (with_reducible refine (HO.out _).mono ?_); rintro e u ⟨rfl, hu⟩)
      go_ret
      exact ⟨by rw [HV.out]; rfl, hu⟩

set_option maxRecDepth 20000 in
set_option maxHeartbeats 4000000 in
theorem paras_ok (A : Option Addr) (n c : Nat) (t : List Int) (w : World) (hn : n = t.length) (hmax : n ≤ 1000) (h : Has w w.heap.size A (t.map (Value.int .i32))) :
    Calls Try.prog 10 #[.slice A n c] w fun e w' => CutsOf w w' e (parL t) := by
  have HN := Lib.hid hn
  have HE := Lib.hid (fun k (hk : k < n) (W : World) (hb : Below w.heap.size w W) => ends_ok A n c k t W hn hmax hk ((h.below hb).more hb.size))
  clear hn h
  go_enter Try.func10, Try.ntmps10
  go_wp2
  go_loopw [3, 4, 8] (fun v3 v4 v8 wr => ∃ k f : Nat, k ≤ n ∧ f ≤ k ∧ v8 = .int .i64 k ∧ v4 = .int .i64 f ∧ Hid ((parS t k).frm = f) ∧ MineC wr w.heap.size v3 (parS t k).out ∧ Below w.heap.size w wr) (fun _ _ v8 _ => n - (intOf v8).toNat)
  case atStart => exact ⟨0, 0, by omega, by omega, rfl, rfl, Lib.hid rfl, MineC.nil_ _ _, Below.refl _ _⟩
  case round =>
    obtain ⟨k, f, hkn, hfk, rfl, rfl, HF, hM, hb⟩ := hrel
    have hlen := par_len t k
    by_cases hlt : k < n
    · have HC := Lib.hid (HE.out k hlt wr hb)
      cases hbr : brkP t k with
      | true =>
        have HS := Lib.hid (par_yes hbr)
        rw [hbr] at HC
        generalize hO : (parS t k).out = O3 at *
        clear hbr
        go_wp2_with (first
          | (go_at_call 19; (with_reducible refine HC.out.mono ?_); rintro e u ⟨rfl, hu⟩; have hM1 := hM.below hu.1; have hb1 := below_trans hb hu.1 hb.size)
          | (at_builtin; refine wpList_pushC rfl _ _ 24 rfl _ Try.underlying24 fullC rfl (by omega) w.heap.size _ O3 (f, k + 1) w _ _ (by simp [row]) hM1 rfl rfl hb1 hb1.size (by omega) ?_; intro v2 w2 hM2 hb3))
        go_roundw
        case rel =>
          have e2 : parS t (k + 1) = ⟨O3 ++ [(f, k + 1)], k + 1⟩ := by rw [HS.out, HF.out]
          exact ⟨k + 1, k + 1, by omega, by omega, by go_num, by go_num, Lib.hid (by rw [e2]), by rw [e2]; exact hM2, hb3⟩
        case measure => simp [intOf] <;> omega
      | false =>
        have HS := Lib.hid (par_no hbr)
        rw [hbr] at HC
        generalize hO : (parS t k).out = O3 at *
        clear hbr
        go_wp2_with (go_at_call 19; (with_reducible refine HC.out.mono ?_); rintro e u ⟨rfl, hu⟩; have hM1 := hM.below hu.1; have hb1 := below_trans hb hu.1 hb.size)
        go_roundw
        case rel => exact ⟨k + 1, f, by omega, by omega, by go_num, rfl, Lib.hid (by rw [HS.out]; exact HF.out), by rw [HS.out, hO]; exact hM1, hb1⟩
        case measure => simp [intOf] <;> omega
    · obtain rfl : k = n := by omega
      have hE : parL t = (parS t k).out := by unfold parL; rw [← HN.out]
      go_wp2
      go_ret
      exact ⟨_, rfl, by rw [hE]; exact hM.cutsV hb⟩
end Go.Proofs.Ytneiifjihgbacaa
