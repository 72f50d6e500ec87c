/-
  Contract of the document's way: what a pair becomes. Condition: at most 1000 classes.
-/
import Derived.Test.YtlopddiplmjpfaaBst
set_option linter.unusedVariables false
set_option linter.unusedSimpArgs false
namespace Go.Proofs.Ytlopddiplmjpfaa
open Go.ChangeShapes Go.WideShapes Go.ChangeAt Go.RowKit

def segB (cs : List Int) (a b : Nat) : List Int := (cs.drop (a + 1)).take (b - (a + 1))
theorem seg_any (cs : List Int) (p : Int → Bool) (a b : Nat) (hb : b ≤ cs.length) : (segB cs a b).any p = true ↔ ∃ j x, a < j ∧ j < b ∧ cs[j]? = some x ∧ p x = true := by
  unfold segB
  rw [List.any_eq_true]
  constructor
  · rintro ⟨x, hx, hp⟩
    obtain ⟨i, hi, rfl⟩ := List.getElem_of_mem hx
    rw [List.length_take, List.length_drop] at hi
    refine ⟨a + 1 + i, _, by omega, by omega, ?_, hp⟩
    rw [List.getElem_take, List.getElem_drop]
    exact List.getElem?_eq_getElem _
  · rintro ⟨j, x, h1, h2, h3, h4⟩
    refine ⟨x, ?_, h4⟩
    obtain ⟨hj, rfl⟩ := List.getElem?_eq_some_iff.1 h3
    rw [List.mem_iff_getElem]
    refine ⟨j - (a + 1), by rw [List.length_take, List.length_drop]; omega, ?_⟩
    rw [List.getElem_take, List.getElem_drop]
    congr 1
    omega
theorem way_own (cs : List Int) (p : Nat × Nat) (own sos : Int) (h : (segB cs p.1 p.2).any (fun c => strongB c == own) = true) : wayB cs p own sos = own := by
  unfold wayB
  unfold segB at h
  simp only [h, if_true]
theorem way_none (cs : List Int) (p : Nat × Nat) (own sos : Int) (h : (segB cs p.1 p.2).any (fun c => strongB c == own) = false) (h2 : (segB cs p.1 p.2).any (fun c => strongB c != 0) = false) : wayB cs p own sos = 0 := by
  unfold wayB
  unfold segB at h h2
  simp [h, h2]
theorem way_ahead (cs : List Int) (p : Nat × Nat) (own sos : Int) (h : (segB cs p.1 p.2).any (fun c => strongB c == own) = false) (h2 : (segB cs p.1 p.2).any (fun c => strongB c != 0) = true) : wayB cs p own sos = aheadB cs sos p.1 := by
  unfold wayB
  unfold segB at h h2
  simp [h, h2]
theorem strongB_or (c : Int) : strongB c = 0 ∨ strongB c = 1 ∨ strongB c = 2 := by
  unfold strongB
  split
  · exact .inr (.inl rfl)
  · split
    · exact .inr (.inr rfl)
    · exact .inl rfl
theorem ahead_step (cs : List Int) (sos : Int) (k : Nat) (x : Int) (hx : cs[k]? = some x) : aheadB cs sos (k + 1) = if strongB x ≠ 0 then strongB x else aheadB cs sos k := by
  rw [aheadB, List.getD_eq_getElem?_getD, hx]
  rfl
/-- what the first loop has found -/
def WInv (cs : List Int) (a k : Nat) (own : Int) (o : Bool) : Prop := (∀ j x, a < j → j < k → cs[j]? = some x → strongB x ≠ own) ∧ (o = true ↔ ∃ j x, a < j ∧ j < k ∧ cs[j]? = some x ∧ strongB x ≠ 0)
theorem WInv.start (cs : List Int) (a : Nat) (own : Int) : WInv cs a (a + 1) own false := ⟨fun j x h1 h2 => by omega, by constructor; (intro h; cases h); (rintro ⟨j, x, h1, h2, _⟩; omega)⟩
theorem WInv.skip {cs : List Int} {a k : Nat} {own : Int} {o : Bool} (h : WInv cs a k own o) (x : Int) (hx : cs[k]? = some x) (h1 : strongB x ≠ own) (h2 : strongB x = 0) : WInv cs a (k + 1) own o := by
  refine ⟨fun j y h3 h4 h5 => ?_, h.2.trans ?_⟩
  · by_cases e : j = k
    · subst e; rw [hx] at h5; injection h5 with h5; subst h5; exact h1
    · exact h.1 j y h3 (by omega) h5
  · constructor
    · rintro ⟨j, y, h3, h4, h5⟩
      exact ⟨j, y, h3, by omega, h5⟩
    · rintro ⟨j, y, h3, h4, h5, h6⟩
      refine ⟨j, y, h3, ?_, h5, h6⟩
      by_cases e : j = k
      · subst e; rw [hx] at h5; injection h5 with h5; subst h5; exact absurd h2 h6
      · omega
theorem WInv.take {cs : List Int} {a k : Nat} {own : Int} {o : Bool} (h : WInv cs a k own o) (hk : a < k) (x : Int) (hx : cs[k]? = some x) (h1 : strongB x ≠ own) (h2 : strongB x ≠ 0) : WInv cs a (k + 1) own true := by
  refine ⟨fun j y h3 h4 h5 => ?_, ?_⟩
  · by_cases e : j = k
    · subst e; rw [hx] at h5; injection h5 with h5; subst h5; exact h1
    · exact h.1 j y h3 (by omega) h5
  · exact ⟨fun _ => ⟨k, x, hk, by omega, hx, h2⟩, fun _ => rfl⟩
theorem WInv.own_no {cs : List Int} {a b : Nat} {own : Int} {o : Bool} (h : WInv cs a b own o) (hb : b ≤ cs.length) : (segB cs a b).any (fun c => strongB c == own) = false := by
  rw [Bool.eq_false_iff]
  intro h1
  obtain ⟨j, x, h2, h3, h4, h5⟩ := (seg_any cs _ a b hb).1 h1
  exact h.1 j x h2 h3 h4 (by simpa using h5)
theorem WInv.flag {cs : List Int} {a b : Nat} {own : Int} {o : Bool} (h : WInv cs a b own o) (hb : b ≤ cs.length) : (segB cs a b).any (fun c => strongB c != 0) = o := by
  rw [Bool.eq_iff_iff, seg_any cs _ a b hb, h.2]
  simp

set_option maxHeartbeats 4000000 in
theorem way_ok (A : Option Addr) (c n a b : Nat) (own sos : Int) (cs : List Int) (w : World) (hn : n = cs.length) (hmax : n ≤ 1000) (hab : a < b) (hbn : b ≤ n)
    (hh : Has w w.heap.size A (cs.map (Value.int .i64))) :
    Calls Try.prog 30 #[.slice A n c, .agg #[.int .i64 a, .int .i64 b], .int .i64 own, .int .i64 sos] w fun e w' => e = .returned (.int .i64 (wayB cs (a, b) own sos)) ∧ Up w w' := by
  have HN := Lib.hid hn
  clear hn
  have HH := Lib.hid (fun (w' : World) (hu : Up w w') => hh.up hu)
  clear hh
  have hat0 := at_new w #[.int .i64 a, .int .i64 b] 35
  have hU0 : Up w (w.alloc (.cells #[.int .i64 a, .int .i64 b] 35)) := (Up.refl w).alloc _
  have hc0 := hat0.cell 0 _ rfl
  have hc1 := hat0.cell 1 _ rfl
  obtain ⟨V, hV⟩ : ∃ V, wayB cs (a, b) own sos = V := ⟨_, rfl⟩
  rw [hV]
  have HV := Lib.hid hV
  clear hV
  go_enter Try.func30, Try.ntmps30
  go_wp2
  go_loopw [9, 10] (fun v9 v10 wr => ∃ (k : Nat) (o : Bool), a < k ∧ k ≤ b ∧ v10 = .int .i64 k ∧ v9 = .bool o ∧ Hid (WInv cs a k own o) ∧ Up w wr ∧ At wr w.heap.size 35 #[.int .i64 a, .int .i64 b]) (fun _ v10 _ => b - (intOf v10).toNat)
  case atStart => exact ⟨a + 1, false, by omega, by omega, by go_num, rfl, Lib.hid (WInv.start _ _ _), hU0, hat0⟩
  case round =>
    clear hU0 hat0 hc0 hc1
    obtain ⟨k, o, hak, hkb, rfl, rfl, HI, hU, hat⟩ := hrel
    have hc0 := hat.cell 0 _ rfl
    have hc1 := hat.cell 1 _ rfl
    by_cases hlt : k < b
    · have hlt2 : k < cs.length := by have := HN.out; omega
      obtain ⟨bb, off, rfl, hbb, hcc⟩ := (HH.out _ hU).at_int hlt2
      have hx : cs[k]? = some cs[k] := List.getElem?_eq_getElem hlt2
      generalize cs[k] = X at hcc hx
      have HX := Lib.hid hx
      clear hx
      obtain ⟨s, hs⟩ : ∃ s, strongB X = s := ⟨_, rfl⟩
      have hc := fun w => strong_ok X w
      rw [hs] at hc
      have HC := Lib.hid hc
      have HS := Lib.hid hs
      clear hc hs
      by_cases h1 : s = own
      · have HW : Hid (V = own) := Lib.hid (by
          rw [← HV.out]
          exact way_own cs (a, b) own sos ((seg_any cs _ a b (by have := HN.out; omega)).2 ⟨k, X, hak, hlt, HX.out, by rw [HS.out]; simpa using h1⟩))
        subst h1
        clear HI
        go_wp2_with (first | (go_at_call 44; (with_reducible refine (HC.out _).mono ?_); rintro e u ⟨rfl, rfl⟩))
        go_ret
        exact ⟨by rw [HW.out]; rfl, hU⟩
      · by_cases h2 : s = 0
        · have HI2 := Lib.hid (HI.out.skip X HX.out (by rw [HS.out]; exact h1) (by rw [HS.out]; exact h2))
          clear HS
          subst h2
          have hz : ((0 : Int) == own) = false := by simpa using h1
          clear HI
          go_wp2_with (first | (go_at_call 44; (with_reducible refine (HC.out _).mono ?_); rintro e u ⟨rfl, rfl⟩))
          go_roundw
          case rel => exact ⟨k + 1, o, by omega, by omega, by go_num, rfl, HI2, hU, hat⟩
          case measure => simp [intOf] <;> omega
        · have HI2 := Lib.hid (HI.out.take hak X HX.out (by rw [HS.out]; exact h1) (by rw [HS.out]; exact h2))
          have hz : (s == own) = false := by simpa using h1
          have hz2 : (s == 0) = false := by simpa using h2
          clear HI HS
          go_wp2_with (first | (go_at_call 44; (with_reducible refine (HC.out _).mono ?_); rintro e u ⟨rfl, rfl⟩))
          go_roundw
          case rel => exact ⟨k + 1, true, by omega, by omega, by go_num, rfl, HI2, hU, hat⟩
          case measure => simp [intOf] <;> omega
    · obtain rfl : k = b := by omega
      have hO := HI.out.own_no (by have := HN.out; omega)
      have hF := HI.out.flag (by have := HN.out; omega)
      clear HI
      cases o with
      | false =>
        have HW : Hid (V = 0) := Lib.hid (by rw [← HV.out]; exact way_none cs (a, k) own sos hO hF)
        clear hO hF
        go_wp2
        go_ret
        exact ⟨by rw [HW.out]; rfl, hU⟩
      | true =>
        have HW : Hid (V = aheadB cs sos a) := Lib.hid (by rw [← HV.out]; exact way_ahead cs (a, k) own sos hO hF)
        clear hO hF
        go_wp2
        obtain ⟨WA, hWA⟩ : ∃ WA, wr = WA := ⟨_, rfl⟩
        subst hWA
        go_loopw [12, 13] (fun v12 v13 wq => ∃ (m : Nat), m ≤ a ∧ v13 = .int .i64 m ∧ (∃ y, v12 = .int .i64 y ∧ Hid (y = aheadB cs sos m)) ∧ wq = wr) (fun _ v13 _ => a - (intOf v13).toNat)
        case atStart => exact ⟨0, by omega, rfl, ⟨sos, rfl, Lib.hid rfl⟩, rfl⟩
        case round =>
          obtain ⟨m, hma, rfl, ⟨y, rfl, HY⟩, rfl⟩ := hrel
          by_cases hlt2 : m < a
          · have hlt3 : m < cs.length := by have := HN.out; omega
            obtain ⟨bb, off, rfl, hbb, hcc⟩ := (HH.out _ hU).at_int hlt3
            have hx : cs[m]? = some cs[m] := List.getElem?_eq_getElem hlt3
            generalize cs[m] = X at hcc hx
            have hst := ahead_step cs sos m X hx
            clear hx
            obtain ⟨s, hs⟩ : ∃ s, strongB X = s := ⟨_, rfl⟩
            have hc := fun w => strong_ok X w
            rw [hs] at hc hst
            have HC := Lib.hid hc
            clear hc hs
            by_cases h2 : s = 0
            · rw [if_neg (by simpa using h2)] at hst
              have HY2 : Hid (y = aheadB cs sos (m + 1)) := Lib.hid (by rw [hst]; exact HY.out)
              subst h2
              clear hst HY
              go_wp2_with (first | (go_at_call 44; (with_reducible refine (HC.out _).mono ?_); rintro e u ⟨rfl, rfl⟩))
              go_roundw
              case rel => exact ⟨m + 1, by omega, by go_num, ⟨y, rfl, HY2⟩, trivial⟩
              case measure => simp [intOf] <;> omega
            · rw [if_pos h2] at hst
              have HY2 : Hid (s = aheadB cs sos (m + 1)) := Lib.hid hst.symm
              have hz2 : (s == 0) = false := by simpa using h2
              clear hst HY
              go_wp2_with (first | (go_at_call 44; (with_reducible refine (HC.out _).mono ?_); rintro e u ⟨rfl, rfl⟩))
              go_roundw
              case rel => exact ⟨m + 1, by omega, by go_num, ⟨s, rfl, HY2⟩, trivial⟩
              case measure => simp [intOf] <;> omega
          · obtain rfl : m = a := by omega
            have HW2 : Hid (V = y) := Lib.hid (by rw [HW.out, HY.out])
            by_cases h3 : y = own
            · subst h3
              clear HY HW
              go_wp2
              go_ret
              exact ⟨by rw [HW2.out]; rfl, hU⟩
            · have hz3 : (y == own) = false := by simpa using h3
              clear HY HW
              go_wp2
              go_ret
              exact ⟨by rw [HW2.out]; rfl, hU⟩
end Go.Proofs.Ytlopddiplmjpfaa
