/-
  Contract of the program's pairDirection: what a pair becomes. Conditions: at most 1000 classes, directions are L or R.
-/
import Derived.Test.YtlopddiplmjpfaaBla
set_option linter.unusedVariables false
set_option linter.unusedSimpArgs false
namespace Go.Proofs.Ytlopddiplmjpfaa
open Go.ChangeShapes Go.WideShapes Go.ChangeAt Go.RowKit Go.Sort

theorem Has.seg {w : World} {B b off : Nat} {xs : List Value} (h : Has w B (some ⟨b, off, none⟩) xs) (k m : Nat) : Has w B (some ⟨b, off + k, none⟩) ((xs.drop k).take m) := fun hne => by
  obtain ⟨b', off', e, hl, hc⟩ := h (fun e => hne (by rw [e]; simp))
  injection e with e; injection e with e1 e2; subst e1; subst e2
  refine ⟨b, off + k, rfl, hl, fun j u hu => ?_⟩
  rw [List.getElem?_take] at hu
  split at hu
  · rw [List.getElem?_drop] at hu
    have := hc (k + j) u hu
    rwa [show off + (k + j) = off + k + j by omega] at this
  · cases hu
theorem Has.front {w : World} {B : Nat} {A : Option Addr} {xs : List Value} (h : Has w B A xs) (k : Nat) : Has w B A (xs.take k) := fun hne => by
  obtain ⟨b, off, e, hl, hc⟩ := h (fun e => hne (by rw [e]; simp))
  refine ⟨b, off, e, hl, fun j u hu => hc j u ?_⟩
  rw [List.getElem?_take] at hu
  split at hu
  · exact hu
  · cases hu
theorem segB_length (cs : List Int) (a b : Nat) (h : b ≤ cs.length) : (segB cs a b).length = b - (a + 1) := by
  unfold segB; rw [List.length_take, List.length_drop]; omega
theorem other_or (d : Int) (h : d = 1 ∨ d = 2) : (d = 1 ∧ otherB d = 2) ∨ (d = 2 ∧ otherB d = 1) := by
  rcases h with rfl | rfl
  · exact .inl ⟨rfl, rfl⟩
  · exact .inr ⟨rfl, rfl⟩
theorem any_other (l : List Int) (own : Int) (ho : own = 1 ∨ own = 2) (h : l.any (fun c => strongB c == own) = false) : l.any (fun c => strongB c != 0) = l.any (fun c => strongB c == otherB own) := by
  rw [List.any_eq_false] at h
  induction l with
  | nil => rfl
  | cons x l ih =>
    rw [List.any_cons, List.any_cons, ih (fun y hy => h y (by simp [hy]))]
    congr 1
    have hx := h x (by simp)
    simp only [beq_iff_eq] at hx
    rcases strongB_or x with h0 | h0 | h0 <;> rcases other_or own ho with ⟨e1, e2⟩ | ⟨e1, e2⟩ <;> rw [h0, e2] <;> rw [h0, e1] at hx <;> first | rfl | exact absurd rfl hx
theorem ahead_or (cs : List Int) (sos : Int) (hs : sos = 1 ∨ sos = 2) : ∀ n, aheadB cs sos n = 1 ∨ aheadB cs sos n = 2
  | 0 => hs
  | n + 1 => by
    unfold aheadB
    split
    · rename_i h
      rcases strongB_or (cs.getD n 0) with h0 | h0
      · exact absurd h0 h
      · exact h0
    · exact ahead_or cs sos hs n
/-- what the program's pairDirection answers -/
theorem way_cases (cs : List Int) (a b : Nat) (own sos : Int) (ho : own = 1 ∨ own = 2) (hs : sos = 1 ∨ sos = 2) (h1 : (segB cs a b).any (fun c => strongB c == own) = false) (h2 : (segB cs a b).any (fun c => strongB c == otherB own) = true) :
    (aheadB cs sos a = otherB own → wayB cs (a, b) own sos = otherB own) ∧ (aheadB cs sos a ≠ otherB own → wayB cs (a, b) own sos = own) := by
  have hw := way_ahead cs (a, b) own sos h1 (by rw [any_other _ own ho h1]; exact h2)
  refine ⟨fun h => hw.trans h, fun h => hw.trans ?_⟩
  show aheadB cs sos a = own
  rcases ahead_or cs sos hs a with h0 | h0 <;> rcases other_or own ho with ⟨e1, e2⟩ | ⟨e1, e2⟩ <;> rw [h0, e2] at h <;> rw [h0, e1] <;> exact absurd rfl h

set_option maxHeartbeats 4000000 in
theorem pairDir_ok (A : Option Addr) (c n a b : Nat) (own sos : Int) (cs : List Int) (w : World) (hn : n = cs.length) (hmax : n ≤ 1000) (hnc : n ≤ c) (hab : a < b) (hbn : b < n) (ho : own = 1 ∨ own = 2) (hs : sos = 1 ∨ sos = 2)
    (hh : Has w w.heap.size A (cs.map (Value.int .i64))) :
    Calls Try.prog 27 #[.slice A n c, .agg #[.int .i64 a, .int .i64 b], .int .i64 own, .int .i64 sos] w fun e w' => e = .returned (.int .i64 (wayB cs (a, b) own sos)) ∧ Below w.heap.size w w' := by
  obtain ⟨bb, off, rfl, hbb, hcz⟩ := hh.at_int (k := 0) (by omega)
  clear hcz
  have hat0 := at_new w #[.int .i64 a, .int .i64 b] 35
  have hU0 : Up w (w.alloc (.cells #[.int .i64 a, .int .i64 b] 35)) := (Up.refl w).alloc _
  have hc0 := hat0.cell 0 _ rfl
  have hc1 := hat0.cell 1 _ rfl
  have hsl := segB_length cs a b (by omega)
  have HSg := Lib.hid (fun (w' : World) (hu : Up w w') => by have := (hh.up hu).seg (a + 1) (b - (a + 1)); rw [← List.map_drop, ← List.map_take] at this; exact this)
  have HFr := Lib.hid (fun (w' : World) (hu : Up w w') => by have := (hh.up hu).front a; rw [← List.map_take] at this; exact this)
  have e1 : (cs.drop (a + 1)).take (b - (a + 1)) = segB cs a b := rfl
  rw [e1] at HSg
  have HC := Lib.hid (fun kk w' (hu : Up w w') => contains_ok (some ⟨bb, off + (a + 1), none⟩) (c - (a + 1)) (b - (a + 1)) kk (segB cs a b) w' hsl.symm (by omega) (HSg.out w' hu))
  have HL := Lib.hid (fun w' (hu : Up w w') => by have := lastOf_ok (some ⟨bb, off, none⟩) a c sos (cs.take a) w' (by rw [List.length_take]; omega) (by omega) (HFr.out w' hu); rw [ahead_take cs sos a a (Nat.le_refl _)] at this; exact this)
  have HO := Lib.hid (fun w => opposite_ok own w)
  have hca : ¬ c = a + 1 := by omega
  have hbc : b ≤ c := by omega
  obtain ⟨V, hV⟩ : ∃ V, wayB cs (a, b) own sos = V := ⟨_, rfl⟩
  obtain ⟨x1, hx1⟩ : ∃ x1, (segB cs a b).any (fun r => strongB r == own) = x1 := ⟨_, rfl⟩
  obtain ⟨x2, hx2⟩ : ∃ x2, (segB cs a b).any (fun r => strongB r == otherB own) = x2 := ⟨_, rfl⟩
  have HC1 := Lib.hid (HC.out own)
  rw [hx1] at HC1
  have HC2 := Lib.hid (HC.out (otherB own))
  rw [hx2] at HC2
  rw [hV]
  clear hn hh HSg HFr HC e1 hsl
  cases x1 with
  | true =>
    have HV : Hid (V = own) := Lib.hid (by rw [← hV]; exact way_own cs (a, b) own sos hx1)
    clear hV hx1 hx2 HC2 HL ho hs
    generalize otherB own = O at *
    go_enter Try.func27, Try.ntmps27
    go_wp2_with (first
      | (go_at_call 41; (with_reducible refine (HO.out _).mono ?_); rintro e u ⟨rfl, rfl⟩)
      | (go_at_call 42; (with_reducible refine (HC1.out _ hU0).mono ?_); rintro e u ⟨rfl, hu⟩; have hU1 := hU0.trans hu))
    go_ret
    exact ⟨by rw [HV.out]; rfl, hU1.1⟩
  | false =>
    cases x2 with
    | false =>
      have HV : Hid (V = 0) := Lib.hid (by rw [← hV]; exact way_none cs (a, b) own sos hx1 (by rw [any_other _ own ho hx1]; exact hx2))
      clear hV hx1 hx2 HL ho hs
      generalize otherB own = O at *
      go_enter Try.func27, Try.ntmps27
      go_wp2_with (first
        | (go_at_call 41; (with_reducible refine (HO.out _).mono ?_); rintro e u ⟨rfl, rfl⟩)
        | (go_at_call 42; (with_reducible refine (HC1.out _ hU0).mono ?_); rintro e u ⟨rfl, hu⟩; have hU1 := hU0.trans hu; clear HC1)
        | (go_at_call 42; (with_reducible refine (HC2.out _ hU1).mono ?_); rintro e u2 ⟨rfl, hu2⟩; have hU2 := hU1.trans hu2))
      go_ret
      exact ⟨by rw [HV.out]; rfl, hU2.1⟩
    | true =>
      obtain ⟨hw1, hw2⟩ := way_cases cs a b own sos ho hs hx1 hx2
      rw [hV] at hw1 hw2
      generalize aheadB cs sos a = D at *
      by_cases hd : D = otherB own
      · have HV := Lib.hid (hw1 hd)
        have hdb : (D == otherB own) = true := by simp [hd]
        clear hV hx1 hx2 ho hs hw1 hw2 hd
        generalize otherB own = O at *
        go_enter Try.func27, Try.ntmps27
        go_wp2_with (first
          | (go_at_call 41; (with_reducible refine (HO.out _).mono ?_); rintro e u ⟨rfl, rfl⟩)
          | (go_at_call 42; (with_reducible refine (HC1.out _ hU0).mono ?_); rintro e u ⟨rfl, hu⟩; have hU1 := hU0.trans hu; clear HC1)
          | (go_at_call 42; (with_reducible refine (HC2.out _ hU1).mono ?_); rintro e u2 ⟨rfl, hu2⟩; have hU2 := hU1.trans hu2; have hA2 := (hat0.up hu).up hu2; have c20 := hA2.cell 0 _ rfl; have c21 := hA2.cell 1 _ rfl)
          | (go_at_call 43; (with_reducible refine (HL.out _ hU2).mono ?_); rintro e u3 ⟨rfl, hb3⟩; have hB3 := below_trans hU2.1 hb3 hU2.1.size))
        go_ret
        exact ⟨by rw [HV.out]; rfl, hB3⟩
      · have HV := Lib.hid (hw2 hd)
        have hdb : (D == otherB own) = false := by simpa using hd
        clear hV hx1 hx2 ho hs hw1 hw2 hd
        generalize otherB own = O at *
        go_enter Try.func27, Try.ntmps27
        go_wp2_with (first
          | (go_at_call 41; (with_reducible refine (HO.out _).mono ?_); rintro e u ⟨rfl, rfl⟩)
          | (go_at_call 42; (with_reducible refine (HC1.out _ hU0).mono ?_); rintro e u ⟨rfl, hu⟩; have hU1 := hU0.trans hu; clear HC1)
          | (go_at_call 42; (with_reducible refine (HC2.out _ hU1).mono ?_); rintro e u2 ⟨rfl, hu2⟩; have hU2 := hU1.trans hu2; have hA2 := (hat0.up hu).up hu2; have c20 := hA2.cell 0 _ rfl; have c21 := hA2.cell 1 _ rfl)
          | (go_at_call 43; (with_reducible refine (HL.out _ hU2).mono ?_); rintro e u3 ⟨rfl, hb3⟩; have hB3 := below_trans hU2.1 hb3 hU2.1.size))
        go_ret
        exact ⟨by rw [HV.out]; rfl, hB3⟩
end Go.Proofs.Ytlopddiplmjpfaa
