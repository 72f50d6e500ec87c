/-
  Contracts of the program's joined and of the document's hangs at a place inside a text. Condition: at most 1000 code points.
-/
import Derived.Test.YtcplhbafbjpnlaaScan
import Derived.Shelf.SlSortCmp.QuietGrown
set_option linter.unusedVariables false
namespace Go.Proofs.Ytcplhbafbjpnlaa
open Go.ChangeShapes Go.WideShapes Go.ChangeAt Go.RowKit Go.Sort

theorem Has.cells {w : World} {A : Option Addr} {zs : List Int} (h : Has w w.heap.size A (zs.map (Value.int .i32))) {i j : Nat} (hi : i < zs.length) (hj : j < zs.length) :
    ∃ b off, A = some ⟨b, off, none⟩ ∧ b < w.heap.size ∧ w.cell? ⟨b, off + i, none⟩ = some (.int .i32 zs[i]) ∧ w.cell? ⟨b, off + j, none⟩ = some (.int .i32 zs[j]) := by
  obtain ⟨b, off, rfl, hb, h1⟩ := h.at_int hi
  obtain ⟨b2, off2, e, _, h2⟩ := h.at_int hj
  injection e with e
  injection e with e1 e2
  subst e1; subst e2
  exact ⟨b, off, rfl, hb, h1, h2⟩

set_option maxHeartbeats 1000000 in
theorem joined_ok (A : Option Addr) (c i : Nat) (zs : List Int) (w : World) (h0 : 0 < i) (hi : i < zs.length) (hn : zs.length ≤ 1000) (hc : zs.length ≤ c) (h : Has w w.heap.size A (zs.map (Value.int .i32))) :
    Calls Try.prog 38 #[.slice A zs.length c, .int .i64 i] w fun e w' => e = .returned (.bool (hang (cls zs) i)) ∧ Up w w' := by
  have mixed : Try.prog.follows .mixedOrders = true := by kernel_rfl
  have hv : hang (cls zs) i = joinF (cl zs[i - 1]) (cl zs[i]) (pic (cls zs) (i - 1)) (regs (cls zs) i % 2 == 1) := by
    unfold hang
    rw [g_cls zs (i - 1) (by omega), g_cls zs i hi, join_hang]
  obtain ⟨b, off, rfl, hb, hc1, hc2⟩ := h.cells (i := i - 1) (j := i) (by omega) hi
  rw [hv]
  clear hv
  have HE := Lib.hid (fun A c w h => ends_ok A c (i - 1) zs w (by omega) hn h)
  have HO := Lib.hid (fun A c w h => odd_ok A c i zs w (by omega) hn h)
  have HX1 := Lib.hid (fun w => class_ok zs[i - 1] w)
  have HX2 := Lib.hid (fun w => class_ok zs[i] w)
  generalize hP : pic (cls zs) (i - 1) = p at HE ⊢
  generalize hQ : (regs (cls zs) i % 2 == 1) = q at HO ⊢
  generalize hX : zs[i - 1] = X at HX1 hc1 ⊢
  generalize hY : zs[i] = Y at HX2 hc2 ⊢
  generalize ha : cl X = x at HX1 ⊢
  generalize hbb : cl Y = y at HX2 ⊢
  clear hP hQ hX hY ha hbb
  have hl1 : ∀ n os, (grow (w.drewN n) os).cell? ⟨b, off + (i - 1), none⟩ = some (.int .i32 X) := fun n os => cell_grown hb hc1 n os
  have hl2 : ∀ n os, (grow (w.drewN n) os).cell? ⟨b, off + i, none⟩ = some (.int .i32 Y) := fun n os => cell_grown hb hc2 n os
  have HG1 : Hid (∀ n os, Calls Try.prog 47 #[.int .i32 X] (grow (w.drewN n) os) fun e w' => e = .returned (.int .i64 x) ∧ ∃ q os', w' = grow ((grow (w.drewN n) os).drewN q) os') := Lib.hid (fun n os => (HX1.out _).mono fun _ _ ⟨he, hu⟩ => ⟨he, hu.grow⟩)
  have HG2 : Hid (∀ n os, Calls Try.prog 47 #[.int .i32 Y] (grow (w.drewN n) os) fun e w' => e = .returned (.int .i64 y) ∧ ∃ q os', w' = grow ((grow (w.drewN n) os).drewN q) os') := Lib.hid (fun n os => (HX2.out _).mono fun _ _ ⟨he, hu⟩ => ⟨he, hu.grow⟩)
  obtain ⟨V, hV⟩ : ∃ V, joinF x y p q = V := ⟨_, rfl⟩
  rw [hV]
  have HV := Lib.hid hV
  clear hV HX1 HX2
  have HH := Lib.hid h
  clear h
  have kw : IntKind.i64.wrap ((i : Int) - 1) = ((i - 1 : Nat) : Int) := by rw [IntWalk.i64_in _ (by omega)]; omega
  have hL1 : i - 1 < zs.length := by omega
  go_enter Try.func38, Try.ntmps38
  go_wp2
  go_quiet_grown ((go_at_call 47; first | with_reducible exact Calls.grown_of (HG1.out _ _) | with_reducible exact Calls.grown_of (HG2.out _ _)))
  have hU : ∀ n os, Up w (grow (w.drewN n) os) := fun n os => Up.of_grow w n os
  have hn1 : i ≤ c := by omega
  have hn2 : ¬ c = 0 := by omega
  unfold joinF at HV
  cases hs : stopB x with
  | true =>
    rw [hs] at HV
    by_cases h1 : x = 1
    · subst h1
      have HR : Hid ((y == 2) = V) := Lib.hid (by rw [← HV.out]; simp)
      clear HV
      go_wp2_with (go_at_call 48; refine (isBreak_ok _ _).mono ?_; rintro e u ⟨rfl, rfl⟩; rw [hs])
      go_ret
      exact ⟨by rw [← HR.out]; rfl, hU _ _⟩
    · have e1 : (x == 1) = false := beq_eq_false_iff_ne.2 h1
      have HR : Hid (V = false) := Lib.hid (by rw [← HV.out, e1]; simp)
      clear HV
      go_wp2_with (go_at_call 48; refine (isBreak_ok _ _).mono ?_; rintro e u ⟨rfl, rfl⟩; rw [hs])
      go_ret
      exact ⟨by rw [HR.out]; rfl, hU _ _⟩
  | false =>
    rw [hs] at HV
    cases ha : attB y with
    | true =>
      have HR : Hid (V = true) := Lib.hid (by rw [← HV.out, ha]; simp)
      clear HV
      go_wp2_with (first | (go_at_call 48; refine (isBreak_ok _ _).mono ?_; rintro e u ⟨rfl, rfl⟩; rw [hs]) | (go_at_call 49; refine (isAtt_ok _ _).mono ?_; rintro e u ⟨rfl, rfl⟩; rw [ha]))
      go_ret
      exact ⟨by rw [HR.out]; rfl, hU _ _⟩
    | false =>
      by_cases h8 : y = 8
      · subst h8
        have HR : Hid (V = true) := Lib.hid (by rw [← HV.out]; simp)
        clear HV
        go_wp2_with (first | (go_at_call 48; refine (isBreak_ok _ _).mono ?_; rintro e u ⟨rfl, rfl⟩; rw [hs]) | (go_at_call 49; refine (isAtt_ok _ _).mono ?_; rintro e u ⟨rfl, rfl⟩; rw [ha]))
        go_ret
        exact ⟨by rw [HR.out]; rfl, hU _ _⟩
      have e8 : (y == 8) = false := beq_eq_false_iff_ne.2 h8
      rw [ha, e8] at HV
      by_cases h7 : x = 7
      · subst h7
        have HR : Hid ((!stopB y) = V) := Lib.hid (by rw [← HV.out]; simp)
        clear HV
        generalize hsy : stopB y = sy at HR
        go_wp2_with (first | (go_at_call 48; refine (isBreak_ok _ _).mono ?_; rintro e u ⟨rfl, rfl⟩; first | rw [hs] | rw [hsy]) | (go_at_call 49; refine (isAtt_ok _ _).mono ?_; rintro e u ⟨rfl, rfl⟩; rw [ha]))
        go_ret
        exact ⟨by rw [← HR.out]; rfl, hU _ _⟩
      have e7 : (x == 7) = false := beq_eq_false_iff_ne.2 h7
      rw [if_neg h7] at HV
      by_cases h5 : x = 5
      · subst h5
        by_cases h14 : y = 14
        · subst h14
          have HR : Hid (p = V) := Lib.hid (by rw [← HV.out]; simp)
          clear HV
          go_wp2_with (first | (go_at_call 48; refine (isBreak_ok _ _).mono ?_; rintro e u ⟨rfl, rfl⟩; rw [hs]) | (go_at_call 49; refine (isAtt_ok _ _).mono ?_; rintro e u ⟨rfl, rfl⟩; rw [ha]) | (go_at_call 50; refine (HE.out _ _ _ (by simpa using HH.out.up (hU _ _))).mono ?_; rintro e u ⟨rfl, hu⟩))
          go_ret
          exact ⟨by rw [HR.out]; rfl, (hU _ _).trans hu⟩
        · have e14 : (y == 14) = false := beq_eq_false_iff_ne.2 h14
          have HR : Hid (V = false) := Lib.hid (by rw [← HV.out, e14]; simp)
          clear HV
          go_wp2_with (first | (go_at_call 48; refine (isBreak_ok _ _).mono ?_; rintro e u ⟨rfl, rfl⟩; rw [hs]) | (go_at_call 49; refine (isAtt_ok _ _).mono ?_; rintro e u ⟨rfl, rfl⟩; rw [ha]))
          go_ret
          exact ⟨by rw [HR.out]; rfl, hU _ _⟩
      have e5 : (x == 5) = false := beq_eq_false_iff_ne.2 h5
      rw [if_neg h5] at HV
      by_cases h6 : x = 6
      · subst h6
        by_cases h14 : y = 6
        · subst h14
          have HR : Hid (q = V) := Lib.hid (by rw [← HV.out]; simp)
          clear HV
          go_wp2_with (first | (go_at_call 48; refine (isBreak_ok _ _).mono ?_; rintro e u ⟨rfl, rfl⟩; rw [hs]) | (go_at_call 49; refine (isAtt_ok _ _).mono ?_; rintro e u ⟨rfl, rfl⟩; rw [ha]) | (go_at_call 51; refine (HO.out _ _ _ (by simpa using HH.out.up (hU _ _))).mono ?_; rintro e u ⟨rfl, hu⟩))
          go_ret
          exact ⟨by rw [HR.out]; rfl, (hU _ _).trans hu⟩
        · have e14 : (y == 6) = false := beq_eq_false_iff_ne.2 h14
          have HR : Hid (V = false) := Lib.hid (by rw [← HV.out, e14]; simp)
          clear HV
          go_wp2_with (first | (go_at_call 48; refine (isBreak_ok _ _).mono ?_; rintro e u ⟨rfl, rfl⟩; rw [hs]) | (go_at_call 49; refine (isAtt_ok _ _).mono ?_; rintro e u ⟨rfl, rfl⟩; rw [ha]))
          go_ret
          exact ⟨by rw [HR.out]; rfl, hU _ _⟩
      have e6 : (x == 6) = false := beq_eq_false_iff_ne.2 h6
      rw [if_neg h6] at HV
      have HR : Hid (syll x y = V) := Lib.hid (by rw [← HV.out]; simp)
      clear HV
      go_wp2_with (first | (go_at_call 48; refine (isBreak_ok _ _).mono ?_; rintro e u ⟨rfl, rfl⟩; rw [hs]) | (go_at_call 49; refine (isAtt_ok _ _).mono ?_; rintro e u ⟨rfl, rfl⟩; rw [ha]) | (go_at_call 52; refine (same_ok _ _ _).mono ?_; rintro e u ⟨rfl, rfl⟩; rw [HR.out]))
      go_ret
      exact ⟨rfl, hU _ _⟩
set_option maxHeartbeats 1000000 in
theorem hangs_ok (A : Option Addr) (c i : Nat) (zs : List Int) (w : World) (h0 : 0 < i) (hi : i < zs.length) (hn : zs.length ≤ 1000) (hc : zs.length ≤ c) (h : Has w w.heap.size A (zs.map (Value.int .i32))) :
    Calls Try.prog 53 #[.slice A zs.length c, .int .i64 i] w fun e w' => e = .returned (.bool (hang (cls zs) i)) ∧ Up w w' := by
  have mixed : Try.prog.follows .mixedOrders = true := by kernel_rfl
  have hv : hang (cls zs) i = hangF (cl zs[i - 1]) (cl zs[i]) (pic (cls zs) (i - 1)) (regs (cls zs) i % 2 == 1) := by
    unfold hang
    rw [g_cls zs (i - 1) (by omega), g_cls zs i hi]
  obtain ⟨b, off, rfl, hb, hc1, hc2⟩ := h.cells (i := i - 1) (j := i) (by omega) hi
  rw [hv]
  clear hv
  have HE := Lib.hid (fun A c w h => picture_ok A c (i - 1) zs w (by omega) hn h)
  have HO := Lib.hid (fun A c w h => regs_ok A c i zs w (by omega) hn h)
  have HX1 := Lib.hid (fun w => rclass_ok zs[i - 1] w)
  have HX2 := Lib.hid (fun w => rclass_ok zs[i] w)
  generalize hP : pic (cls zs) (i - 1) = p at HE ⊢
  generalize hQ : regs (cls zs) i = r at HO ⊢
  have hri : r ≤ i := by rw [← hQ]; exact regs_le _ _
  generalize hX : zs[i - 1] = X at HX1 hc1 ⊢
  generalize hY : zs[i] = Y at HX2 hc2 ⊢
  generalize ha : cl X = x at HX1 ⊢
  generalize hbb : cl Y = y at HX2 ⊢
  clear hP hQ hX hY ha hbb
  have hl1 : ∀ n os, (grow (w.drewN n) os).cell? ⟨b, off + (i - 1), none⟩ = some (.int .i32 X) := fun n os => cell_grown hb hc1 n os
  have hl2 : ∀ n os, (grow (w.drewN n) os).cell? ⟨b, off + i, none⟩ = some (.int .i32 Y) := fun n os => cell_grown hb hc2 n os
  have HG1 : Hid (∀ n os, Calls Try.prog 60 #[.int .i32 X] (grow (w.drewN n) os) fun e w' => e = .returned (.int .i64 x) ∧ ∃ q os', w' = grow ((grow (w.drewN n) os).drewN q) os') := Lib.hid (fun n os => (HX1.out _).mono fun _ _ ⟨he, hu⟩ => ⟨he, hu.grow⟩)
  have HG2 : Hid (∀ n os, Calls Try.prog 60 #[.int .i32 Y] (grow (w.drewN n) os) fun e w' => e = .returned (.int .i64 y) ∧ ∃ q os', w' = grow ((grow (w.drewN n) os).drewN q) os') := Lib.hid (fun n os => (HX2.out _).mono fun _ _ ⟨he, hu⟩ => ⟨he, hu.grow⟩)
  obtain ⟨V, hV⟩ : ∃ V, hangF x y p (r % 2 == 1) = V := ⟨_, rfl⟩
  rw [hV]
  have HV := Lib.hid hV
  clear hV HX1 HX2
  have HH := Lib.hid h
  clear h
  have kw : IntKind.i64.wrap ((i : Int) - 1) = ((i - 1 : Nat) : Int) := by rw [IntWalk.i64_in _ (by omega)]; omega
  have hL1 : i - 1 < zs.length := by omega
  go_enter Try.func53, Try.ntmps53
  go_wp2
  go_quiet_grown ((go_at_call 60; first | with_reducible exact Calls.grown_of (HG1.out _ _) | with_reducible exact Calls.grown_of (HG2.out _ _)))
  have hU : ∀ n os, Up w (grow (w.drewN n) os) := fun n os => Up.of_grow w n os
  have hn1 : i ≤ c := by omega
  have hn2 : ¬ c = 0 := by omega
  unfold hangF at HV
  by_cases h1 : x = 1
  · subst h1
    have hsl : syll 1 y = false := by simp [syll]
    have hsx : stopB 1 = true := rfl
    have hsy := hsx
    by_cases h2 : y = 2
    · subst h2
      have HR : Hid (V = true) := Lib.hid (by rw [← HV.out]; simp [])
      clear HV
      go_wp2_with (first | (go_at_call 61; refine (hangul_ok _ _ _).mono ?_; rintro e u ⟨rfl, rfl⟩; rw [hsl]) | (go_at_call 62; refine (rstops_ok _ _).mono ?_; rintro e u ⟨rfl, rfl⟩; first | rw [hsx] | rw [hsy]))
      go_ret
      exact ⟨by rw [HR.out]; rfl, hU _ _⟩
    · have e2 : (y == 2) = false := beq_eq_false_iff_ne.2 h2
      have HR : Hid (V = false) := Lib.hid (by rw [← HV.out]; simp [hsl, hsx, e2])
      clear HV
      go_wp2_with (first | (go_at_call 61; refine (hangul_ok _ _ _).mono ?_; rintro e u ⟨rfl, rfl⟩; rw [hsl]) | (go_at_call 62; refine (rstops_ok _ _).mono ?_; rintro e u ⟨rfl, rfl⟩; first | rw [hsx] | rw [hsy]))
      go_ret
      exact ⟨by rw [HR.out]; rfl, hU _ _⟩
  have e1 : (x == 1) = false := beq_eq_false_iff_ne.2 h1
  by_cases h7 : x = 7
  · subst h7
    have hsl : syll 7 y = false := by simp [syll]
    have hsx : stopB 7 = false := rfl
    by_cases b4 : y = 4
    · subst b4
      try (have hsy : stopB 4 = false := rfl)
      have HR : Hid (V = true) := Lib.hid (by rw [← HV.out]; simp [hsx])
      clear HV
      go_wp2_with (first | (go_at_call 61; refine (hangul_ok _ _ _).mono ?_; rintro e u ⟨rfl, rfl⟩; rw [hsl]) | (go_at_call 62; refine (rstops_ok _ _).mono ?_; rintro e u ⟨rfl, rfl⟩; first | rw [hsx] | rw [hsy]))
      go_ret
      exact ⟨by rw [HR.out]; rfl, hU _ _⟩
    have e44 : (y == 4) = false := beq_eq_false_iff_ne.2 b4
    by_cases b5 : y = 5
    · subst b5
      try (have hsy : stopB 5 = false := rfl)
      have HR : Hid (V = true) := Lib.hid (by rw [← HV.out]; simp [hsx])
      clear HV
      go_wp2_with (first | (go_at_call 61; refine (hangul_ok _ _ _).mono ?_; rintro e u ⟨rfl, rfl⟩; rw [hsl]) | (go_at_call 62; refine (rstops_ok _ _).mono ?_; rintro e u ⟨rfl, rfl⟩; first | rw [hsx] | rw [hsy]))
      go_ret
      exact ⟨by rw [HR.out]; rfl, hU _ _⟩
    have e45 : (y == 5) = false := beq_eq_false_iff_ne.2 b5
    by_cases b8 : y = 8
    · subst b8
      try (have hsy : stopB 8 = false := rfl)
      have HR : Hid (V = true) := Lib.hid (by rw [← HV.out]; simp [hsx])
      clear HV
      go_wp2_with (first | (go_at_call 61; refine (hangul_ok _ _ _).mono ?_; rintro e u ⟨rfl, rfl⟩; rw [hsl]) | (go_at_call 62; refine (rstops_ok _ _).mono ?_; rintro e u ⟨rfl, rfl⟩; first | rw [hsx] | rw [hsy]))
      go_ret
      exact ⟨by rw [HR.out]; rfl, hU _ _⟩
    have e48 : (y == 8) = false := beq_eq_false_iff_ne.2 b8
    cases hsy : stopB y with
    | true =>
      have HR : Hid (V = false) := Lib.hid (by rw [← HV.out]; simp [hsl, hsx, hsy, e44, e45, e48])
      clear HV
      go_wp2_with (first | (go_at_call 61; refine (hangul_ok _ _ _).mono ?_; rintro e u ⟨rfl, rfl⟩; rw [hsl]) | (go_at_call 62; refine (rstops_ok _ _).mono ?_; rintro e u ⟨rfl, rfl⟩; first | rw [hsx] | rw [hsy]))
      go_ret
      exact ⟨by rw [HR.out]; rfl, hU _ _⟩
    | false =>
      have HR : Hid (V = true) := Lib.hid (by rw [← HV.out]; simp [hsl, hsx, hsy, e44, e45, e48])
      clear HV
      go_wp2_with (first | (go_at_call 61; refine (hangul_ok _ _ _).mono ?_; rintro e u ⟨rfl, rfl⟩; rw [hsl]) | (go_at_call 62; refine (rstops_ok _ _).mono ?_; rintro e u ⟨rfl, rfl⟩; first | rw [hsx] | rw [hsy]))
      go_ret
      exact ⟨by rw [HR.out]; rfl, hU _ _⟩
  have e7 : (x == 7) = false := beq_eq_false_iff_ne.2 h7
  by_cases h5 : x = 5
  · subst h5
    have hsl : syll 5 y = false := by simp [syll]
    have hsx : stopB 5 = false := rfl
    have hsy := hsx
    by_cases b4 : y = 4
    · subst b4
      try (have hsy : stopB 4 = false := rfl)
      have HR : Hid (V = true) := Lib.hid (by rw [← HV.out]; simp [hsx])
      clear HV
      go_wp2_with (first | (go_at_call 61; refine (hangul_ok _ _ _).mono ?_; rintro e u ⟨rfl, rfl⟩; rw [hsl]) | (go_at_call 62; refine (rstops_ok _ _).mono ?_; rintro e u ⟨rfl, rfl⟩; first | rw [hsx] | rw [hsy]))
      go_ret
      exact ⟨by rw [HR.out]; rfl, hU _ _⟩
    have e44 : (y == 4) = false := beq_eq_false_iff_ne.2 b4
    by_cases b5 : y = 5
    · subst b5
      try (have hsy : stopB 5 = false := rfl)
      have HR : Hid (V = true) := Lib.hid (by rw [← HV.out]; simp [hsx])
      clear HV
      go_wp2_with (first | (go_at_call 61; refine (hangul_ok _ _ _).mono ?_; rintro e u ⟨rfl, rfl⟩; rw [hsl]) | (go_at_call 62; refine (rstops_ok _ _).mono ?_; rintro e u ⟨rfl, rfl⟩; first | rw [hsx] | rw [hsy]))
      go_ret
      exact ⟨by rw [HR.out]; rfl, hU _ _⟩
    have e45 : (y == 5) = false := beq_eq_false_iff_ne.2 b5
    by_cases b8 : y = 8
    · subst b8
      try (have hsy : stopB 8 = false := rfl)
      have HR : Hid (V = true) := Lib.hid (by rw [← HV.out]; simp [hsx])
      clear HV
      go_wp2_with (first | (go_at_call 61; refine (hangul_ok _ _ _).mono ?_; rintro e u ⟨rfl, rfl⟩; rw [hsl]) | (go_at_call 62; refine (rstops_ok _ _).mono ?_; rintro e u ⟨rfl, rfl⟩; first | rw [hsx] | rw [hsy]))
      go_ret
      exact ⟨by rw [HR.out]; rfl, hU _ _⟩
    have e48 : (y == 8) = false := beq_eq_false_iff_ne.2 b8
    by_cases b14 : y = 14
    · subst b14
      cases p with
      | true =>
        have HR : Hid (V = true) := Lib.hid (by rw [← HV.out]; simp [hsl, hsx])
        clear HV
        go_wp2_with (first | (go_at_call 61; refine (hangul_ok _ _ _).mono ?_; rintro e u ⟨rfl, rfl⟩; rw [hsl]) | (go_at_call 62; refine (rstops_ok _ _).mono ?_; rintro e u ⟨rfl, rfl⟩; first | rw [hsx] | rw [hsy]) | (go_at_call 63; refine (HE.out _ _ _ (HH.out.up (hU _ _))).mono ?_; rintro e u ⟨rfl, hu⟩))
        go_ret
        exact ⟨by rw [HR.out]; rfl, (hU _ _).trans hu⟩
      | false =>
        have HR : Hid (V = false) := Lib.hid (by rw [← HV.out]; simp [hsl, hsx])
        clear HV
        go_wp2_with (first | (go_at_call 61; refine (hangul_ok _ _ _).mono ?_; rintro e u ⟨rfl, rfl⟩; rw [hsl]) | (go_at_call 62; refine (rstops_ok _ _).mono ?_; rintro e u ⟨rfl, rfl⟩; first | rw [hsx] | rw [hsy]) | (go_at_call 63; refine (HE.out _ _ _ (HH.out.up (hU _ _))).mono ?_; rintro e u ⟨rfl, hu⟩))
        go_ret
        exact ⟨by rw [HR.out]; rfl, (hU _ _).trans hu⟩
    · have e14 : (y == 14) = false := beq_eq_false_iff_ne.2 b14
      have HR : Hid (V = false) := Lib.hid (by rw [← HV.out]; simp [hsl, hsx, e44, e45, e48, e14])
      clear HV
      go_wp2_with (first | (go_at_call 61; refine (hangul_ok _ _ _).mono ?_; rintro e u ⟨rfl, rfl⟩; rw [hsl]) | (go_at_call 62; refine (rstops_ok _ _).mono ?_; rintro e u ⟨rfl, rfl⟩; first | rw [hsx] | rw [hsy]))
      go_ret
      exact ⟨by rw [HR.out]; rfl, hU _ _⟩
  have e5 : (x == 5) = false := beq_eq_false_iff_ne.2 h5
  by_cases h6 : x = 6
  · subst h6
    have hsl : syll 6 y = false := by simp [syll]
    have hsx : stopB 6 = false := rfl
    have hsy := hsx
    by_cases b4 : y = 4
    · subst b4
      try (have hsy : stopB 4 = false := rfl)
      have HR : Hid (V = true) := Lib.hid (by rw [← HV.out]; simp [hsx])
      clear HV
      go_wp2_with (first | (go_at_call 61; refine (hangul_ok _ _ _).mono ?_; rintro e u ⟨rfl, rfl⟩; rw [hsl]) | (go_at_call 62; refine (rstops_ok _ _).mono ?_; rintro e u ⟨rfl, rfl⟩; first | rw [hsx] | rw [hsy]))
      go_ret
      exact ⟨by rw [HR.out]; rfl, hU _ _⟩
    have e44 : (y == 4) = false := beq_eq_false_iff_ne.2 b4
    by_cases b5 : y = 5
    · subst b5
      try (have hsy : stopB 5 = false := rfl)
      have HR : Hid (V = true) := Lib.hid (by rw [← HV.out]; simp [hsx])
      clear HV
      go_wp2_with (first | (go_at_call 61; refine (hangul_ok _ _ _).mono ?_; rintro e u ⟨rfl, rfl⟩; rw [hsl]) | (go_at_call 62; refine (rstops_ok _ _).mono ?_; rintro e u ⟨rfl, rfl⟩; first | rw [hsx] | rw [hsy]))
      go_ret
      exact ⟨by rw [HR.out]; rfl, hU _ _⟩
    have e45 : (y == 5) = false := beq_eq_false_iff_ne.2 b5
    by_cases b8 : y = 8
    · subst b8
      try (have hsy : stopB 8 = false := rfl)
      have HR : Hid (V = true) := Lib.hid (by rw [← HV.out]; simp [hsx])
      clear HV
      go_wp2_with (first | (go_at_call 61; refine (hangul_ok _ _ _).mono ?_; rintro e u ⟨rfl, rfl⟩; rw [hsl]) | (go_at_call 62; refine (rstops_ok _ _).mono ?_; rintro e u ⟨rfl, rfl⟩; first | rw [hsx] | rw [hsy]))
      go_ret
      exact ⟨by rw [HR.out]; rfl, hU _ _⟩
    have e48 : (y == 8) = false := beq_eq_false_iff_ne.2 b8
    by_cases b14 : y = 6
    · subst b14
      rcases Nat.mod_two_eq_zero_or_one r with hm | hm
      · have hm2 : (r : Int).tmod 2 = 0 := by rw [Int.tmod_eq_emod_of_nonneg (by omega)]; omega
        have HR : Hid (V = false) := Lib.hid (by rw [← HV.out]; simp [hsl, hsx, hm])
        clear HV
        go_wp2_with (first | (go_at_call 61; refine (hangul_ok _ _ _).mono ?_; rintro e u ⟨rfl, rfl⟩; rw [hsl]) | (go_at_call 62; refine (rstops_ok _ _).mono ?_; rintro e u ⟨rfl, rfl⟩; first | rw [hsx] | rw [hsy]) | (go_at_call 64; refine (HO.out _ _ _ (HH.out.up (hU _ _))).mono ?_; rintro e u ⟨rfl, hu⟩))
        go_ret
        exact ⟨by rw [HR.out]; rfl, (hU _ _).trans hu⟩
      · have hm2 : (r : Int).tmod 2 = 1 := by rw [Int.tmod_eq_emod_of_nonneg (by omega)]; omega
        have HR : Hid (V = true) := Lib.hid (by rw [← HV.out]; simp [hsl, hsx, hm])
        clear HV
        go_wp2_with (first | (go_at_call 61; refine (hangul_ok _ _ _).mono ?_; rintro e u ⟨rfl, rfl⟩; rw [hsl]) | (go_at_call 62; refine (rstops_ok _ _).mono ?_; rintro e u ⟨rfl, rfl⟩; first | rw [hsx] | rw [hsy]) | (go_at_call 64; refine (HO.out _ _ _ (HH.out.up (hU _ _))).mono ?_; rintro e u ⟨rfl, hu⟩))
        go_ret
        exact ⟨by rw [HR.out]; rfl, (hU _ _).trans hu⟩
    · have e14 : (y == 6) = false := beq_eq_false_iff_ne.2 b14
      have HR : Hid (V = false) := Lib.hid (by rw [← HV.out]; simp [hsl, hsx, e44, e45, e48, e14])
      clear HV
      go_wp2_with (first | (go_at_call 61; refine (hangul_ok _ _ _).mono ?_; rintro e u ⟨rfl, rfl⟩; rw [hsl]) | (go_at_call 62; refine (rstops_ok _ _).mono ?_; rintro e u ⟨rfl, rfl⟩; first | rw [hsx] | rw [hsy]))
      go_ret
      exact ⟨by rw [HR.out]; rfl, hU _ _⟩
  have e6 : (x == 6) = false := beq_eq_false_iff_ne.2 h6
  cases hsl : syll x y with
  | true =>
    have hsx : true = true := rfl
    have hsy := hsx
    have HR : Hid (V = true) := Lib.hid (by rw [← HV.out]; simp [hsl, e1])
    clear HV
    go_wp2_with (first | (go_at_call 61; refine (hangul_ok _ _ _).mono ?_; rintro e u ⟨rfl, rfl⟩; rw [hsl]))
    go_ret
    exact ⟨by rw [HR.out]; rfl, hU _ _⟩
  | false =>
    cases hsx : stopB x with
    | true =>
      have hsy := hsx
      have HR : Hid (V = false) := Lib.hid (by rw [← HV.out]; simp [hsl, hsx, e1, e7, e5, e6])
      clear HV
      go_wp2_with (first | (go_at_call 61; refine (hangul_ok _ _ _).mono ?_; rintro e u ⟨rfl, rfl⟩; rw [hsl]) | (go_at_call 62; refine (rstops_ok _ _).mono ?_; rintro e u ⟨rfl, rfl⟩; first | rw [hsx] | rw [hsy]))
      go_ret
      exact ⟨by rw [HR.out]; rfl, hU _ _⟩
    | false =>
      by_cases b4 : y = 4
      · subst b4
        try (have hsy : stopB 4 = false := rfl)
        have HR : Hid (V = true) := Lib.hid (by rw [← HV.out]; simp [hsx])
        clear HV
        go_wp2_with (first | (go_at_call 61; refine (hangul_ok _ _ _).mono ?_; rintro e u ⟨rfl, rfl⟩; rw [hsl]) | (go_at_call 62; refine (rstops_ok _ _).mono ?_; rintro e u ⟨rfl, rfl⟩; rw [hsx]))
        go_ret
        exact ⟨by rw [HR.out]; rfl, hU _ _⟩
      have e44 : (y == 4) = false := beq_eq_false_iff_ne.2 b4
      by_cases b5 : y = 5
      · subst b5
        try (have hsy : stopB 5 = false := rfl)
        have HR : Hid (V = true) := Lib.hid (by rw [← HV.out]; simp [hsx])
        clear HV
        go_wp2_with (first | (go_at_call 61; refine (hangul_ok _ _ _).mono ?_; rintro e u ⟨rfl, rfl⟩; rw [hsl]) | (go_at_call 62; refine (rstops_ok _ _).mono ?_; rintro e u ⟨rfl, rfl⟩; rw [hsx]))
        go_ret
        exact ⟨by rw [HR.out]; rfl, hU _ _⟩
      have e45 : (y == 5) = false := beq_eq_false_iff_ne.2 b5
      by_cases b8 : y = 8
      · subst b8
        try (have hsy : stopB 8 = false := rfl)
        have HR : Hid (V = true) := Lib.hid (by rw [← HV.out]; simp [hsx])
        clear HV
        go_wp2_with (first | (go_at_call 61; refine (hangul_ok _ _ _).mono ?_; rintro e u ⟨rfl, rfl⟩; rw [hsl]) | (go_at_call 62; refine (rstops_ok _ _).mono ?_; rintro e u ⟨rfl, rfl⟩; rw [hsx]))
        go_ret
        exact ⟨by rw [HR.out]; rfl, hU _ _⟩
      have e48 : (y == 8) = false := beq_eq_false_iff_ne.2 b8
      have HR : Hid (V = false) := Lib.hid (by rw [← HV.out]; simp [hsl, hsx, e1, e7, e5, e6, e44, e45, e48])
      clear HV
      go_wp2_with (first | (go_at_call 61; refine (hangul_ok _ _ _).mono ?_; rintro e u ⟨rfl, rfl⟩; rw [hsl]) | (go_at_call 62; refine (rstops_ok _ _).mono ?_; rintro e u ⟨rfl, rfl⟩; rw [hsx]))
      go_ret
      exact ⟨by rw [HR.out]; rfl, hU _ _⟩
end Go.Proofs.Ytcplhbafbjpnlaa
