/-
  Contracts of the document's held and hang (of words): whether two clusters hang together, by the list of kinds. Condition: at most 1000 kinds.
-/
import Derived.Test.YtcplhbafbjpnlaaWCls
import Derived.BigQuiet
set_option linter.unusedVariables false
set_option linter.unusedSimpArgs false
namespace Go.Proofs.Ytcplhbafbjpnlaa
open Go.ChangeShapes Go.WideShapes Go.ChangeAt Go.RowKit Go.Sort

theorem gk_in (K : List Int) (j : Nat) (h : j < K.length) : gk K (j + 2) = K[j] := by
  rw [gk_two, List.getD_eq_getElem?_getD, List.getElem?_eq_getElem h]; rfl
theorem gk_low (K : List Int) (i : Nat) (h : i < 2) : gk K i = 0 := by
  match i, h with
  | 0, _ => rfl
  | 1, _ => rfl

set_option maxHeartbeats 1000000 in
theorem held_ok (A : Option Addr) (cp i : Nat) (o m : Int) (K : List Int) (w : World) (ho : o ≠ 0) (h1 : 1 ≤ i) (hi : i < K.length) (hn : K.length ≤ 2000) (h : Has w w.heap.size A (K.map (Value.int .i64))) :
    Calls Try.prog 44 #[.slice A K.length cp, .int .i64 i, .int .i64 o, .int .i64 m] w fun e w' => e = .returned (.bool (heB (gk K i) (gk K (i + 1)) (gk K (i + 2)) (gk K (i + 3)) o m)) ∧ w = w' := by
  have kw : IntKind.i64.wrap ((i : Int) - 1) = ((i - 1 : Nat) : Int) := by rw [IntWalk.i64_in _ (by omega)]; omega
  have kw1 : IntKind.i64.wrap ((i : Int) + 1) = ((i + 1 : Nat) : Int) := IntWalk.i64_in ((i : Int) + 1) (by omega)
  have hL1 : i - 1 < K.length := by omega
  obtain ⟨V, hV⟩ : ∃ V, heB (gk K i) (gk K (i + 1)) (gk K (i + 2)) (gk K (i + 3)) o m = V := ⟨_, rfl⟩
  rw [hV]
  unfold heB at hV
  have hb : gk K (i + 1) = K[i - 1] := by rw [show i + 1 = (i - 1) + 2 by omega]; exact gk_in K _ _
  have hc : gk K (i + 2) = K[i] := gk_in K _ _
  rw [hb, hc] at hV
  obtain ⟨bb, off, rfl, hbb, hcell⟩ := h (fun e => by rw [List.map_eq_nil_iff] at e; subst e; simp at hi)
  have hX1 := hcell (i - 1) (.int .i64 K[i - 1]) (by simp)
  have hX2 := hcell i (.int .i64 K[i]) (by simp [hi])
  generalize K[i - 1] = b at hX1 hV
  generalize K[i] = c at hX2 hV
  by_cases t1 : (b == o) = true ∧ (c == m) = true
  · obtain ⟨t1, t2⟩ := t1
    rw [t1, t2, if_pos (by rfl)] at hV
    by_cases hl : i + 1 < K.length
    · have hd : gk K (i + 3) = K[i + 1] := gk_in K _ _
      rw [hd] at hV
      have hX3 := hcell (i + 1) (.int .i64 K[i + 1]) (by simp [hl])
      generalize K[i + 1] = d at hX3 hV
      have HV := Lib.hid hV
      have hlt : ((i + 1 : Nat) : Int) < K.length := by omega
      have hld : decide (((i + 1 : Nat) : Int) < K.length) = true := decide_eq_true hlt
      have hld2 : decide ((i : Int) + 1 < K.length) = true := decide_eq_true (by omega)
      clear hb hc hd hcell hV
      go_enter Try.func44, Try.ntmps44
      go_wp2
      go_ret
      exact ⟨by rw [← HV.out]; rfl, rfl⟩
    · have hd : gk K (i + 3) = 0 := gk_out K _ (by omega)
      rw [hd] at hV
      have hz : ((0 : Int) == o) = false := beq_eq_false_iff_ne.2 (Ne.symm ho)
      rw [hz] at hV
      have HV := Lib.hid hV
      obtain ⟨n, hnK⟩ : ∃ n, K.length = n := ⟨_, rfl⟩
      clear hb hc hd hcell ho hz hL1 h hV
      rw [hnK] at hi hn hl ⊢
      clear hnK
      obtain rfl : n = i + 1 := by omega
      have hle : i - 1 < i + 1 := by omega
      have hle2 : i < i + 1 := by omega
      clear hl hi
      go_enter Try.func44, Try.ntmps44
      go_wp2
      go_ret
      exact ⟨by rw [← HV.out]; rfl, rfl⟩
  · have hne : (b == o && c == m) = false := by
      cases e1 : (b == o) with
      | false => rfl
      | true =>
        cases e2 : (c == m) with
        | false => rfl
        | true => exact absurd ⟨e1, e2⟩ t1
    rw [hne, if_neg (by decide)] at hV
    clear t1
    obtain ⟨p, hp⟩ : ∃ p, (b == o) = p := ⟨_, rfl⟩
    obtain ⟨q, hq⟩ : ∃ q, (c == m) = q := ⟨_, rfl⟩
    obtain ⟨r, hr⟩ : ∃ r, (b == m) = r := ⟨_, rfl⟩
    obtain ⟨s, hs⟩ : ∃ s, (c == o) = s := ⟨_, rfl⟩
    rw [hp, hq] at hne
    rw [hr, hs] at hV
    by_cases hi2 : 2 ≤ i
    · have kw2 : IntKind.i64.wrap ((i : Int) - 2) = ((i - 2 : Nat) : Int) := by rw [IntWalk.i64_in _ (by omega)]; omega
      have ha : gk K i = K[i - 2] := by conv => { lhs; rw [show i = (i - 2) + 2 by omega] }; exact gk_in K _ (by omega)
      rw [ha] at hV
      have hL2 : i - 2 < K.length := by omega
      have hX3 := hcell (i - 2) (.int .i64 K[i - 2]) (by simp)
      generalize K[i - 2] = a at hX3 hV
      have HV := Lib.hid hV
      have h2i : (2 : Int) ≤ i := by omega
      have h2d : decide ((2 : Int) ≤ i) = true := decide_eq_true h2i
      clear hb hc ha hcell hV
      cases p <;> cases q <;> (try exact absurd hne (by decide)) <;> cases r <;> cases s <;>
      · go_enter Try.func44, Try.ntmps44
        go_wp2
        go_ret
        exact ⟨by rw [← HV.out]; first | rfl | simp, rfl⟩
    · have ha : gk K i = 0 := gk_low K i (by omega)
      rw [ha] at hV
      have hz : ((0 : Int) == o) = false := beq_eq_false_iff_ne.2 (Ne.symm ho)
      rw [hz] at hV
      have HV := Lib.hid hV
      have h2d : decide ((2 : Int) ≤ i) = false := decide_eq_false (by omega)
      have h2e : ¬ (2 : Int) ≤ i := by omega
      clear hb hc ha hcell hV
      cases p <;> cases q <;> (try exact absurd hne (by decide)) <;> cases r <;> cases s <;>
      · go_enter Try.func44, Try.ntmps44
        go_wp2
        go_ret
        exact ⟨by rw [← HV.out]; first | rfl | simp, rfl⟩

set_option maxHeartbeats 2000000 in
theorem hang_ok (A : Option Addr) (cp i : Nat) (K : List Int) (w : World) (h1 : 1 ≤ i) (hi : i < K.length) (hn : K.length ≤ 2000) (h : Has w w.heap.size A (K.map (Value.int .i64))) :
    Calls Try.prog 27 #[.slice A K.length cp, .int .i64 i] w fun e w' => e = .returned (.bool (!cutAt K i)) ∧ Up w w' := by
  have hv : (!cutAt K i) = JR (gk K i) (gk K (i + 1)) (gk K (i + 2)) (gk K (i + 3)) := by unfold cutAt; rw [J_eq, Bool.not_not]
  rw [hv]
  clear hv
  have kw : IntKind.i64.wrap ((i : Int) - 1) = ((i - 1 : Nat) : Int) := by rw [IntWalk.i64_in _ (by omega)]; omega
  have hL1 : i - 1 < K.length := by omega
  have hb : gk K (i + 1) = K[i - 1] := by conv => { lhs; rw [show i + 1 = (i - 1) + 2 by omega] }; exact gk_in K _ (by omega)
  have hc : gk K (i + 2) = K[i] := gk_in K _ _
  obtain ⟨bb, off, rfl, hbb, hcell⟩ := id h (fun e => by rw [List.map_eq_nil_iff] at e; subst e; simp at hi)
  have hX1 := hcell (i - 1) (.int .i64 K[i - 1]) (by simp)
  have hX2 := hcell i (.int .i64 K[i]) (by simp [hi])
  have H1 := Lib.hid (fun n => held_ok (some ⟨bb, off, none⟩) cp i 1 3 K (w.drewN n) (by decide) h1 hi hn (h.up ((Up.refl w).drewN n)))
  have H2 := Lib.hid (fun n => held_ok (some ⟨bb, off, none⟩) cp i 2 4 K (w.drewN n) (by decide) h1 hi hn (h.up ((Up.refl w).drewN n)))
  obtain ⟨V, hV⟩ : ∃ V, JR (gk K i) (gk K (i + 1)) (gk K (i + 2)) (gk K (i + 3)) = V := ⟨_, rfl⟩
  rw [hV]
  unfold JR at hV
  generalize heB (gk K i) (gk K (i + 1)) (gk K (i + 2)) (gk K (i + 3)) 1 3 = p at H1 hV
  generalize heB (gk K i) (gk K (i + 1)) (gk K (i + 2)) (gk K (i + 3)) 2 4 = q at H2 hV
  rw [hb, hc] at hV
  clear hb hc hcell h
  generalize K[i - 1] = b at hX1 hV
  generalize K[i] = c at hX2 hV
  generalize K.length = n at *
  have HB := Lib.hid (fun w => solid_ok b w)
  have HC := Lib.hid (fun w => solid_ok c w)
  generalize alB b = x at HB hV
  generalize alB c = y at HC hV
  obtain ⟨b5, hb5⟩ : ∃ z, (b == 5) = z := ⟨_, rfl⟩
  obtain ⟨c5, hc5⟩ : ∃ z, (c == 5) = z := ⟨_, rfl⟩
  obtain ⟨b7, hb7⟩ : ∃ z, (b == 7) = z := ⟨_, rfl⟩
  obtain ⟨c7, hc7⟩ : ∃ z, (c == 7) = z := ⟨_, rfl⟩
  rw [hb5, hc5, hb7, hc7] at hV
  have HV := Lib.hid hV
  clear hV
  have hU0 : ∀ n, Up w (w.drewN n) := fun n => (Up.refl w).drewN n
  by_cases t1 : (x && y) = true
  · cases x <;> (try exact absurd t1 (by decide)) <;> cases y <;> (try exact absurd t1 (by decide)) <;>
    · have hE : Hid (true = V) := Lib.hid (by rw [← HV.out]; rfl)
      go_enter Try.func27, Try.ntmps27
      go_wp2
      go_quiet (fail)
      go_wp2_with (go_at_call 37; first | ((with_reducible refine (HB.out _).mono ?_); rintro e u ⟨rfl, rfl⟩) | ((with_reducible refine (HC.out _).mono ?_); rintro e u ⟨rfl, rfl⟩))
      go_ret
      exact ⟨by rw [← hE.out]; rfl, hU0 _⟩
  · have hS : b7 = false ∨ (b7 = true ∧ c7 = false) ∨ (b7 = true ∧ c7 = true) := by cases b7 <;> cases c7 <;> simp
    cases x <;> cases y <;> (try exact absurd rfl t1) <;> (clear t1; cases b5 <;> cases c5) <;> rcases hS with rfl | ⟨rfl, rfl⟩ | ⟨rfl, rfl⟩ <;> cases p <;>
    · go_enter Try.func27, Try.ntmps27
      go_wp2
      go_quiet (fail)
      go_wp2_with (first
        | (go_at_call 37; first | ((with_reducible refine (HB.out _).mono ?_); rintro e u ⟨rfl, rfl⟩) | ((with_reducible refine (HC.out _).mono ?_); rintro e u ⟨rfl, rfl⟩))
        | (go_at_call 44; first | ((with_reducible refine (H1.out _).mono ?_); rintro e u ⟨rfl, rfl⟩) | ((with_reducible refine (H2.out _).mono ?_); rintro e u ⟨rfl, rfl⟩)))
      go_ret
      exact ⟨by rw [← HV.out]; rfl, hU0 _⟩
end Go.Proofs.Ytcplhbafbjpnlaa
