/-
  Contracts: what is removed, what initiates an isolate, the state at the beginning of a paragraph, what a removed character does to the program's state. Condition: at most 1000 entries, counters of at most 1000.
-/
import Derived.Test.YthikjknikdacbaaXsc
set_option linter.unusedVariables false
set_option linter.unusedSimpArgs false
namespace Go.Proofs.Ythikjknikdacbaa
open Go.ChangeShapes Go.WideShapes Go.ChangeAt Go.RowKit Go.Sort

theorem rem_cases (c : Int) : (remC c = true ∧ (c = 15 ∨ c = 17 ∨ c = 16 ∨ c = 18 ∨ c = 19 ∨ c = 10)) ∨ (remC c = false ∧ (c == 15) = false ∧ (c == 17) = false ∧ (c == 16) = false ∧ (c == 18) = false ∧ (c == 19) = false ∧ (c == 10) = false) := by
  unfold remC
  by_cases h1 : c = 15
  · subst h1; exact .inl ⟨rfl, by decide⟩
  by_cases h2 : c = 17
  · subst h2; exact .inl ⟨rfl, by decide⟩
  by_cases h3 : c = 16
  · subst h3; exact .inl ⟨rfl, by decide⟩
  by_cases h4 : c = 18
  · subst h4; exact .inl ⟨rfl, by decide⟩
  by_cases h5 : c = 19
  · subst h5; exact .inl ⟨rfl, by decide⟩
  by_cases h6 : c = 10
  · subst h6; exact .inl ⟨rfl, by decide⟩
  right
  simp [h1, h2, h3, h4, h5, h6]

set_option maxHeartbeats 2000000 in
theorem removed_ok (c : Int) (w : World) : Calls Try.prog 14 #[.int .i64 c] w fun e w' => e = .returned (.bool (remC c)) ∧ w = w' := by
  rcases rem_cases c with ⟨h, hc⟩ | ⟨h, a, b, d, e, f, g⟩
  · rw [h]
    clear h
    rcases hc with rfl | rfl | rfl | rfl | rfl | rfl
    all_goals
      go_enter Try.func14, Try.ntmps14
      go_wp2
      go_ret
      exact ⟨rfl, rfl⟩
  · rw [h]
    clear h
    go_enter Try.func14, Try.ntmps14
    go_wp2
    go_ret
    exact ⟨rfl, rfl⟩
set_option maxHeartbeats 2000000 in
theorem rremoved_ok (c : Int) (w : World) : Calls Try.prog 15 #[.int .i64 c] w fun e w' => e = .returned (.bool (remC c)) ∧ w = w' := by
  rcases rem_cases c with ⟨h, hc⟩ | ⟨h, a, b, d, e, f, g⟩
  · rw [h]
    clear h
    rcases hc with rfl | rfl | rfl | rfl | rfl | rfl
    all_goals
      go_enter Try.func15, Try.ntmps15
      go_wp2
      go_ret
      exact ⟨rfl, rfl⟩
  · rw [h]
    clear h
    go_enter Try.func15, Try.ntmps15
    go_wp2
    go_ret
    exact ⟨rfl, rfl⟩

set_option maxHeartbeats 2000000 in
theorem initiates_ok (c : Int) (w : World) : Calls Try.prog 23 #[.int .i64 c] w fun e w' => e = .returned (.bool (opnC c)) ∧ w = w' := by
  by_cases h0 : c = 20
  · subst h0
    go_enter Try.func23, Try.ntmps23
    go_wp2
    go_ret
    exact ⟨rfl, rfl⟩
  by_cases h1 : c = 21
  · subst h1
    go_enter Try.func23, Try.ntmps23
    go_wp2
    go_ret
    exact ⟨rfl, rfl⟩
  have e0 : (c == 20) = false := by simpa using h0
  have e1 : (c == 21) = false := by simpa using h1
  have HO : Hid (opnC c = (c == 22)) := Lib.hid (by unfold opnC; rw [e0, e1]; rfl)
  obtain ⟨q, hq⟩ : ∃ q, (c == 22) = q := ⟨_, rfl⟩
  have HQ := Lib.hid hq
  go_enter Try.func23, Try.ntmps23
  go_wp2
  go_ret
  exact ⟨by rw [HO.out, HQ.out]; rfl, rfl⟩

/-- what the program begins with: a stack of one entry, in a block of its own -/
theorem initial_ok (b : Nat) (w : World) : Calls Try.prog 19 #[.int .i64 (b : Int)] w fun e w' => ∃ v, e = .returned (.agg #[v, .int .i64 0, .int .i64 0, .int .i64 0]) ∧ Up w w' ∧ MineN LE 59 w' w.heap.size v [⟨b, 0, false⟩] := by
  go_enter Try.func19, Try.ntmps19
  go_wp2
  refine bodyPost_ret (results_cell_at Try.results19 _ _ w.heap.size 39 _ _ (by rfl) ((at_new w _ _).alloc _) Try.underlying39 rfl (by exact Try.info39)) rfl ⟨_, rfl, ((Up.refl w).alloc _).alloc _, ?_⟩
  have h := MineN.one (R := LE) (e := 59) (w.alloc (Obj.cells #[Value.slice (some { block := w.heap.size + 1, off := 0 }) 1 1, Value.int IntKind.i64 0, Value.int IntKind.i64 0, Value.int IntKind.i64 0] 39)) w.heap.size ⟨b, 0, false⟩ #[Value.int IntKind.i64 (b : Int), Value.int IntKind.i64 0, Value.bool false] rfl (by simp)
  simpa using h

set_option maxHeartbeats 2000000 in
theorem embedc_ok (B g : Nat) (s : Xs) (c : Int) (hr : remC c = true) (w : World) (hs : St B w g s) (hl : 0 < s.l.length ∧ s.l.length ≤ 1000) (hv : (lastE s.l).lv ≤ 125) (hm : s.embs ≤ 1000) :
    Calls Try.prog 20 #[.pointer (some ⟨g, 0, none⟩), .int .i64 c] w fun x w' => x = .returned (.tuple #[]) ∧ Below B w w' ∧ St B w' g (if c = 19 then popX s else if c = 10 then s else embedX s c) := by
  have HO := Lib.hid (fun left ov => open_ok B g s left ov w hs hl hv hm)
  have HE := Lib.hid (endEmb_ok B g s w hs hl hm)
  have HS := Lib.hid hs
  have e15 : embedX s 15 = openX s false 0 := rfl
  have e17 : embedX s 17 = openX s true 0 := rfl
  have e16 : embedX s 16 = openX s false 1 := rfl
  have e18 : embedX s 18 = openX s true 2 := rfl
  have hc : c = 15 ∨ c = 17 ∨ c = 16 ∨ c = 18 ∨ c = 19 ∨ c = 10 := by
    rcases rem_cases c with ⟨_, h⟩ | ⟨h, _⟩
    · exact h
    · rw [h] at hr; cases hr
  clear hs hr
  rcases hc with rfl | rfl | rfl | rfl | rfl | rfl
  · rw [if_neg (by decide), if_neg (by decide), e15]
    have HO2 := Lib.hid (HO.out false 0)
    go_enter Try.func20, Try.ntmps20
    go_wp2_with (go_at_call 37; refine HO2.out.mono ?_; rintro x u ⟨rfl, hb, hs2⟩)
    go_end0
    exact ⟨rfl, hb, hs2⟩
  · rw [if_neg (by decide), if_neg (by decide), e17]
    have HO2 := Lib.hid (HO.out true 0)
    go_enter Try.func20, Try.ntmps20
    go_wp2_with (go_at_call 37; refine HO2.out.mono ?_; rintro x u ⟨rfl, hb, hs2⟩)
    go_end0
    exact ⟨rfl, hb, hs2⟩
  · rw [if_neg (by decide), if_neg (by decide), e16]
    have HO2 := Lib.hid (HO.out false 1)
    go_enter Try.func20, Try.ntmps20
    go_wp2_with (go_at_call 37; refine HO2.out.mono ?_; rintro x u ⟨rfl, hb, hs2⟩)
    go_end0
    exact ⟨rfl, hb, hs2⟩
  · rw [if_neg (by decide), if_neg (by decide), e18]
    have HO2 := Lib.hid (HO.out true 2)
    go_enter Try.func20, Try.ntmps20
    go_wp2_with (go_at_call 37; refine HO2.out.mono ?_; rintro x u ⟨rfl, hb, hs2⟩)
    go_end0
    exact ⟨rfl, hb, hs2⟩
  · rw [if_pos rfl]
    go_enter Try.func20, Try.ntmps20
    go_wp2_with (go_at_call 38; refine HE.out.mono ?_; rintro x u ⟨rfl, hb, hs2⟩)
    go_end0
    exact ⟨rfl, hb, hs2⟩
  · rw [if_neg (by decide), if_pos rfl]
    go_enter Try.func20, Try.ntmps20
    go_wp2
    go_end0
    exact ⟨rfl, Below.refl _ _, HS.out⟩
end Go.Proofs.Ythikjknikdacbaa
