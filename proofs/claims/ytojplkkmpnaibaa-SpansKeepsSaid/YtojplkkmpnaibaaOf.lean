/-
  Contracts of the document's Of, Norm, of the statements' whole. No condition but bounds on lengths and numbers.
-/
import Derived.Test.YtojplkkmpnaibaaVals
set_option linter.unusedVariables false
namespace Go.Proofs.Ytojplkkmpnaibaa
open Go.ChangeShapes Go.WideShapes Go.ChangeAt Go.RowKit

theorem of_last (ys : List Int) (y : Int) : ∃ l' f, of (ys ++ [y]) = l' ++ [⟨f, ys.length + 1, y⟩] := by
  have hp := parts_of (ys ++ [y])
  have he := endS_of (ys ++ [y])
  rcases snoc_cases (of (ys ++ [y])) with h | ⟨l', s, h⟩
  · rw [h] at he; simp [endS] at he; omega
  · rw [h] at hp he
    rw [endS_snoc] at he
    obtain ⟨k, zs, hk, e4, _, _, _⟩ := hp.last
    obtain ⟨m, rfl⟩ : ∃ m, k = m + 1 := ⟨k - 1, by omega⟩
    rw [replicate_snoc, ← List.append_assoc] at e4
    have e5 := List.append_inj_right' e4 rfl
    injection e5 with e5
    refine ⟨l', s.f, ?_⟩
    rw [h]
    obtain ⟨f, t, v⟩ := s
    simp at he e5
    subst e5
    rw [he]
theorem of_step (xs : List Int) (i : Nat) (h : i < xs.length) : of (xs.take (i + 1)) = ext (of (xs.take i)) (i + 1) xs[i] := by
  rw [List.take_add_one, List.getElem?_eq_getElem h]
  show of (xs.take i ++ [xs[i]]) = _
  rw [of_snoc', List.length_take]
  congr 1
  omega
theorem of_step0 (xs : List Int) (h : 0 < xs.length) : of (xs.take 1) = [] ++ [⟨0, 1, xs[0]⟩] := by
  rw [of_step xs 0 h]
  simp [of, ext_nil]
theorem of_same (xs : List Int) (i : Nat) (h : i + 1 < xs.length) (he : xs[i + 1] = xs[i]) : ∃ l' f, of (xs.take (i + 1)) = l' ++ [⟨f, i + 1, xs[i]⟩] ∧ of (xs.take (i + 1 + 1)) = l' ++ [⟨f, i + 1 + 1, xs[i]⟩] := by
  obtain ⟨l', f, h1⟩ := of_last (xs.take i) xs[i]
  have e : xs.take i ++ [xs[i]] = xs.take (i + 1) := by rw [List.take_add_one, List.getElem?_eq_getElem (by omega)]; rfl
  rw [e, List.length_take, show min i xs.length = i by omega] at h1
  refine ⟨l', f, h1, ?_⟩
  rw [of_step xs (i + 1) h, h1, ext_snoc _ _ _ _ (by simp; omega), if_pos he.symm]
  simp
theorem of_other (xs : List Int) (i : Nat) (h : i + 1 < xs.length) (he : xs[i + 1] ≠ xs[i]) : of (xs.take (i + 1 + 1)) = of (xs.take (i + 1)) ++ [⟨i + 1, i + 1 + 1, xs[i + 1]⟩] := by
  obtain ⟨l', f, h1⟩ := of_last (xs.take i) xs[i]
  have e : xs.take i ++ [xs[i]] = xs.take (i + 1) := by rw [List.take_add_one, List.getElem?_eq_getElem (by omega)]; rfl
  rw [e, List.length_take, show min i xs.length = i by omega] at h1
  rw [of_step xs (i + 1) h, h1, ext_snoc _ _ _ _ (by simp; omega), if_neg (fun h => he h.symm)]
  simp

set_option maxHeartbeats 2000000 in
theorem of_ok (A : Option Addr) (c n : Nat) (xs : List Int) (w : World) (hnl : n = xs.length) (hn : n ≤ 100000) (h : Has w w.heap.size A (xs.map (Value.int .i64))) :
    Calls Try.prog 33 #[.slice A n c] w fun e w' => SpansOf w w' e (of xs) := by
  have HL := Lib.hid hnl
  clear hnl
  go_enter Try.func33, Try.ntmps33
  go_wp2
  go_loopw [3, 4] (fun v j wr => ∃ i : Nat, i ≤ n ∧ j = .int .i64 i ∧ MineS wr w.heap.size v (of (xs.take i)) ∧ Below w.heap.size w wr) (fun _ j _ => n - (intOf j).toNat)
  case atStart => exact ⟨0, by omega, rfl, MineS.nil_ _ _, Below.refl _ _⟩
  case round =>
    obtain ⟨i, hi, rfl, hown, hbl⟩ := hrel
    by_cases hlt : i < n
    · have hlt1 : i < xs.length := by rw [← HL.out]; exact hlt
      have hh := h.carry hbl
      have hsz := hbl.size
      have hlen := length_of (xs.take i)
      rw [List.length_take] at hlen
      cases i with
      | zero =>
        obtain ⟨b, off, rfl, hb, hc⟩ := hh.at_int hlt1
        have HS := of_step0 xs hlt1
        obtain ⟨X, hX⟩ : ∃ X, xs[0] = X := ⟨_, rfl⟩
        rw [hX] at hc HS
        replace HS := Lib.hid HS
        have hown : MineS wr w.heap.size u3 [] := hown
        simp only [Nat.add_zero] at hc
        clear hX h hh hlen
        go_wp2
        go_quiet (fail)
        go_wp2_with (at_builtin; refine wpList_pushS rfl _ _ 22 rfl (.agg #[.int .i64 0, .int .i64 0, .int .i64 0]) Try.underlying22 full49 rfl (by omega) w.heap.size _ [] ⟨0, 1, X⟩ w _ _ rfl (hown.drewN _) rfl rfl (below_drewN hbl _) hsz (by simp) ?_; intro v' w1 hown' hbl')
        go_roundw
        case rel => exact ⟨1, by omega, by go_num, by rw [HS.out]; exact hown', hbl'⟩
        case measure => simp [intOf]; omega
      | succ i =>
        have hlt0 : i < xs.length := by omega
        obtain ⟨b, off, rfl, hb, hc⟩ := hh.at_int hlt1
        obtain ⟨b', off', he, hb', hp⟩ := hh.at_int hlt0
        injection he with he; injection he with he1 he2; subst he1; subst he2
        have d2 : decide ((0 : Int) < (i : Int) + 1) = true := decide_eq_true (by omega)
        by_cases hxy : xs[i + 1] = xs[i]
        · obtain ⟨l', f, e1, e2⟩ := of_same xs i hlt1 hxy
          rw [hxy] at hc
          obtain ⟨X, hX⟩ : ∃ X, xs[i] = X := ⟨_, rfl⟩
          rw [hX] at hc hp e1 e2
          replace e2 := Lib.hid e2
          rw [e1] at hown hlen
          obtain ⟨g, c', rfl, _, hg1, hg2, hcell⟩ := hown.form (by simp)
          obtain ⟨k1, k2, k3⟩ := hcell l'.length _ (endS_get _ _ _ rfl)
          have hset := fun u => hown.setTo u
          have hfz : wr.frozen? ⟨g, 0 + l'.length * 3 + 1, none⟩ = false := by
            rcases hown.2 with ⟨hx, _⟩ | ⟨g', cap, cur, hx, _, hg, _⟩
            · cases hx
            · injection hx with hx1 hx2 hx3
              injection hx1 with hx1
              injection hx1 with hx1
              subst hx1
              exact At.free hg _
          have hll : (l' ++ [(⟨f, i + 1, X⟩ : Sp)]).length = l'.length + 1 := by simp
          rw [hll] at hset hlen ⊢
          obtain ⟨m, hm⟩ : ∃ m, l'.length = m := ⟨_, rfl⟩
          rw [hm] at k1 k2 k3 hset hfz hlen ⊢
          simp only [Nat.zero_add] at k1 k2 k3 hset hfz
          have HE := Lib.hid (fun q => (MineS.drewN (hset (i + 1 + 1)) q))
          clear hX h hh hcell hll hm hown e1 hxy hset
          go_wp2
          go_quiet (fail)
          go_wp2
          go_roundw
          case rel => exact ⟨i + 1 + 1, by omega, by go_num, by rw [e2.out]; exact HE.out _, (below_drewN hbl _).setCell (p := ⟨g, m * 3 + 1, none⟩) hg1 _⟩
          case measure => simp [intOf]; omega
        · have e2 := of_other xs i hlt1 hxy
          obtain ⟨X, hX⟩ : ∃ X, xs[i + 1] = X := ⟨_, rfl⟩
          obtain ⟨Y, hY⟩ : ∃ X, xs[i] = X := ⟨_, rfl⟩
          rw [hX] at hc e2 hxy
          rw [hY] at hp hxy
          replace e2 := Lib.hid e2
          have d3 : (X == Y) = false := by simpa using hxy
          have hlen2 : (of (xs.take (i + 1))).length ≤ 1000000 := by omega
          generalize of (xs.take (i + 1)) = L at hown hlen2 e2
          clear hX hY h hh hlen hxy
          go_wp2
          go_quiet (fail)
          go_wp2_with (at_builtin; refine wpList_pushS rfl _ _ 22 rfl (.agg #[.int .i64 0, .int .i64 0, .int .i64 0]) Try.underlying22 full49 rfl (by omega) w.heap.size _ L ⟨i + 1, i + 1 + 1, X⟩ w _ _ rfl (hown.drewN _) rfl rfl (below_drewN hbl _) hsz hlen2 ?_; intro v' w1 hown' hbl')
          go_roundw
          case rel => exact ⟨i + 1 + 1, by omega, by go_num, by rw [e2.out]; exact hown', hbl'⟩
          case measure => simp [intOf]; omega
    · obtain rfl : i = n := by omega
      rw [List.take_of_length_le (by rw [← HL.out]; omega)] at hown
      go_wp2
      go_ret
      exact ⟨_, rfl, hown.spansV hbl⟩

set_option maxHeartbeats 1000000 in
theorem rnorm_ok (A : Option Addr) (c n : Nat) (l : List Sp) (N : Int) (w : World) (hnl : n = l.length) (hn : n ≤ 1000000) (hN : N ≤ 100000) (h : HasS w w.heap.size A l) :
    Calls Try.prog 14 #[.slice A n c, .int .i64 N] w fun e w' => SpansOf w w' e (of (vals l N)) := by
  have H29 := Lib.hid (fun w1 (h : HasS w1 w1.heap.size A l) => vals_ok A c n l N w1 hnl hn (by omega) h)
  have H33 := Lib.hid (fun A1 c1 w1 (h : Has w1 w1.heap.size A1 ((vals l N).map (Value.int .i64))) => of_ok A1 c1 (vals l N).length (vals l N) w1 rfl (by rw [length_vals]; omega) h)
  generalize vals l N = xs at H29 H33 ⊢
  obtain ⟨m, hm⟩ : ∃ m, xs.length = m := ⟨_, rfl⟩
  rw [hm] at H33
  simp only [SliceOf, SliceV, hm] at H29
  clear hm hnl hN
  go_enter Try.func14, Try.ntmps14
  go_wp2_with (first
    | (go_at_call 29; refine (H29.out _ h).mono ?_; rintro e w1 ⟨v, rfl, A1, c1, rfl, _, hs, hb⟩)
    | (go_at_call 33; refine (H33.out A1 c1 _ hs).mono ?_; rintro e w2 ⟨v, rfl, A2, c2, rfl, hc2, hs2, hb2⟩))
  go_ret
  exact ⟨_, rfl, A2, c2, rfl, hc2, hs2, below_trans hb hb2 hb.size⟩
/-- the statements' whole -/
theorem wholeL_ok (A : Option Addr) (c n : Nat) (l : List Sp) (N : Int) (w : World) (hnl : n = l.length) (hn : n ≤ 1000000) (hh : HasS w w.heap.size A l) :
    Calls Try.prog 22 #[.slice A n c, .int .i64 N] w fun e w' => SpansOf w w' e (of (vals l (min N 60))) := by
  have H14 := Lib.hid (fun M (hM : M = min N 60) w1 (h : HasS w1 w1.heap.size A l) => (show Calls Try.prog 14 #[.slice A n c, .int .i64 M] w1 fun e w' => SpansOf w1 w' e (of (vals l (min N 60))) from by subst hM; exact rnorm_ok A c n l (min N 60) w1 hnl hn (by omega) h))
  clear hnl
  generalize of (vals l (min N 60)) = L at H14 ⊢
  go_enter Try.func22, Try.ntmps22
  go_wp2_with (go_at_call 14; refine (H14.out _ (by omega) _ hh).mono ?_; rintro e w1 ⟨v, rfl, A1, c1, rfl, hc, hs, hb⟩)
  all_goals go_ret
  all_goals exact ⟨_, rfl, A1, c1, rfl, hc, hs, hb⟩
end Go.Proofs.Ytojplkkmpnaibaa
