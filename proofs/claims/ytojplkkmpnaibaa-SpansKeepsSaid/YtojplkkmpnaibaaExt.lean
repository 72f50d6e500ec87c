/-
  Contracts of end (both), clamp, within, many, extend. No condition but bounds on numbers and lengths.
-/
import Derived.Test.YtojplkkmpnaibaaSpn
import Derived.Deep.QuietTactic
import Derived.BigQuiet
set_option linter.unusedVariables false
namespace Go.Proofs.Ytojplkkmpnaibaa
open Go.ChangeShapes Go.WideShapes Go.ChangeAt Go.RowKit

theorem full49 : (Try.prog.info? 49).map (fun i => (i.zero, i.size, i.bytes)) = some (some (.agg #[.int .i64 0, .int .i64 0, .int .i64 0]), 3, 24) := by kernel_rfl
theorem many_ok (A : Option Addr) (c n : Nat) (w : World) : Calls Try.prog 11 #[.slice A n c] w fun e w' => e = .returned (.bool (decide (20 < (n : Int)))) ∧ w = w' := by
  go_enter Try.func11, Try.ntmps11
  go_wp2
  go_ret
  exact ⟨rfl, rfl⟩
theorem endS_get (l' : List Sp) (s : Sp) (i : Nat) (h : i = l'.length) : (l' ++ [s])[i]? = some s := by subst h; simp
set_option maxHeartbeats 1000000 in
theorem end_ok (A : Option Addr) (c n : Nat) (l : List Sp) (w : World) (B : Nat) (hn : n = l.length) (hb : n ≤ 1000000) (h : HasS w B A l) : Calls Try.prog 39 #[.slice A n c] w fun e w' => e = .returned (.int .i64 (endS l)) ∧ w = w' := by
  rcases snoc_cases l with rfl | ⟨l', s, rfl⟩
  · subst hn
    rw [endS_nil]
    go_enter Try.func39, Try.ntmps39
    go_wp2
    go_ret
    exact ⟨rfl, rfl⟩
  · rw [endS_snoc]
    obtain ⟨b, off, rfl, hlt, hc⟩ := h (by simp)
    obtain ⟨h1, h2, h3⟩ := hc l'.length s (endS_get _ _ _ rfl)
    obtain ⟨k, hk⟩ : ∃ k, l'.length = k := ⟨_, rfl⟩
    rw [hk] at h1 h2 h3
    obtain rfl : n = k + 1 := by simp at hn; omega
    clear hn hc h
    go_enter Try.func39, Try.ntmps39
    go_wp2
    go_ret
    exact ⟨rfl, rfl⟩
set_option maxHeartbeats 1000000 in
theorem End_ok (A : Option Addr) (c n : Nat) (l : List Sp) (w : World) (B : Nat) (hn : n = l.length) (hb : n ≤ 1000000) (h : HasS w B A l) : Calls Try.prog 30 #[.slice A n c] w fun e w' => e = .returned (.int .i64 (endS l)) ∧ w = w' := by
  rcases snoc_cases l with rfl | ⟨l', s, rfl⟩
  · subst hn
    rw [endS_nil]
    go_enter Try.func30, Try.ntmps30
    go_wp2
    go_ret
    exact ⟨rfl, rfl⟩
  · rw [endS_snoc]
    obtain ⟨b, off, rfl, hlt, hc⟩ := h (by simp)
    obtain ⟨h1, h2, h3⟩ := hc l'.length s (endS_get _ _ _ rfl)
    obtain ⟨k, hk⟩ : ∃ k, l'.length = k := ⟨_, rfl⟩
    rw [hk] at h1 h2 h3
    obtain rfl : n = k + 1 := by simp at hn; omega
    clear hn hc h
    go_enter Try.func30, Try.ntmps30
    go_wp2
    go_ret
    exact ⟨rfl, rfl⟩
theorem clamp_ok (i lo hi : Int) (w : World) : Calls Try.prog 38 #[.int .i64 i, .int .i64 lo, .int .i64 hi] w fun e w' => e = .returned (.int .i64 (clampI i lo hi)) ∧ w = w' := by
  unfold clampI
  go_enter Try.func38, Try.ntmps38
  go_wp2
  all_goals go_ret
  all_goals (refine ⟨?_, rfl⟩; simp; omega)
theorem within_ok (i lo hi : Int) (w : World) : Calls Try.prog 40 #[.int .i64 i, .int .i64 lo, .int .i64 hi] w fun e w' => e = .returned (.int .i64 (max lo (min i hi))) ∧ w = w' := by
  go_enter Try.func40, Try.ntmps40
  go_wp2
  all_goals go_ret
  all_goals (refine ⟨?_, rfl⟩; simp; omega)

set_option maxHeartbeats 2000000 in
/-- extend a slice of the call's own -/
theorem ext_ok (B : Nat) (v : Value) (l : List Sp) (to val : Int) (w : World) (h : MineS w B v l) (hB : B ≤ w.heap.size) (hn : l.length ≤ 100000) :
    Calls Try.prog 37 #[v, .int .i64 to, .int .i64 val] w fun e w' => ∃ v', e = .returned v' ∧ MineS w' B v' (ext l to val) ∧ Below B w w' := by
  obtain ⟨A, c, rfl, hc, hF, hH⟩ := h.has
  obtain ⟨n, hn'⟩ : ∃ n, l.length = n := ⟨_, rfl⟩
  rw [hn'] at hn
  rw [hn'] at h hc ⊢
  by_cases hto : to ≤ endS l
  · rw [ext_small _ _ _ hto]
    have HE := Lib.hid h
    clear h
    obtain ⟨E, hE⟩ : ∃ E, endS l = E := ⟨_, rfl⟩
    have hend := fun w1 => end_ok A c n l w1 w.heap.size hn'.symm (by omega)
    rw [hE] at hto hend
    clear hE
    go_enter Try.func37, Try.ntmps37
    go_wp2_with (go_at_call 39; refine (hend _ hH).mono ?_; rintro e w' ⟨rfl, rfl⟩)
    go_ret
    exact ⟨_, rfl, HE.out, Below.refl _ _⟩
  · rcases snoc_cases l with rfl | ⟨l', s, rfl⟩
    · rw [endS_nil] at hto
      rw [ext_nil _ _ (by omega)]
      obtain rfl : n = 0 := by simpa using hn'.symm
      have HE := Lib.hid h
      clear h
      have hend := fun w1 => end_ok A c 0 [] w1 w.heap.size rfl (by omega)
      rw [endS_nil] at hend
      go_enter Try.func37, Try.ntmps37
      go_wp2_with (first | (go_at_call 39; refine (hend _ hH).mono ?_; rintro e w' ⟨rfl, rfl⟩) | (at_builtin; (refine wpList_pushS rfl _ _ 22 rfl (.agg #[.int .i64 0, .int .i64 0, .int .i64 0]) Try.underlying22 full49 rfl (by omega) B _ [] ⟨0, to, val⟩ w w _ rfl HE.out rfl rfl (Below.refl _ _) hB (by simp) ?_; intro v' w1 hown hbl)))
      go_ret
      exact ⟨_, rfl, hown, hbl⟩
    · rw [endS_snoc] at hto
      obtain ⟨k, hk⟩ : ∃ k, l'.length = k := ⟨_, rfl⟩
      obtain rfl : n = k + 1 := by simp at hn'; omega
      have hend := fun w1 => end_ok A c (k + 1) (l' ++ [s]) w1 w.heap.size hn'.symm (by omega)
      rw [endS_snoc] at hend
      obtain ⟨g, c', hv, _, hg1, hg2, hcell⟩ := h.form (by simp)
      injection hv with hv1 hv2 hv3
      subst hv1; subst hv3
      obtain ⟨h1, h2, h3⟩ := hcell l'.length s (endS_get _ _ _ rfl)
      have hset := fun u => h.setTo (s := s) (l' := l') u
      have hfz : w.frozen? ⟨g, 0 + k * 3 + 1, none⟩ = false := by
        rcases h.2 with ⟨hx, _⟩ | ⟨g', cap, cur, hx, _, hg, _⟩
        · cases hx
        · injection hx with hx1 hx2 hx3
          injection hx1 with hx1
          injection hx1 with hx1
          subst hx1
          exact At.free hg _
      rw [hk] at h1 h2 h3 hset
      have hH' := hH
      clear hcell hn' hF hv2
      by_cases hv : s.v = val
      · rw [ext_snoc _ _ _ _ (by omega), if_pos hv]
        subst hv
        have HE := Lib.hid (hset to)
        clear h hset hH
        obtain ⟨sf, st, sv⟩ := s
        simp only at h1 h2 h3 hto hend HE
        simp only [Nat.zero_add] at h1 h2 h3 hfz HE
        go_enter Try.func37, Try.ntmps37
        go_wp2_with (go_at_call 39; refine (hend _ hH').mono ?_; rintro e w' ⟨rfl, rfl⟩)
        go_ret
        exact ⟨_, rfl, HE.out, (Below.refl _ _).setCell (p := ⟨g, k * 3 + 1, none⟩) hg1 _⟩
      · rw [ext_snoc _ _ _ _ (by omega), if_neg hv]
        have HE := Lib.hid h
        clear h hset hH
        obtain ⟨sf, st, sv⟩ := s
        simp only at h1 h2 h3 hto hend hv
        simp only [Nat.zero_add] at h1 h2 h3 hfz
        go_enter Try.func37, Try.ntmps37
        go_wp2_with (first | (go_at_call 39; refine (hend _ hH').mono ?_; rintro e w' ⟨rfl, rfl⟩) | (at_builtin; (refine wpList_pushS rfl _ _ 22 rfl (.agg #[.int .i64 0, .int .i64 0, .int .i64 0]) Try.underlying22 full49 rfl (by omega) B _ (l' ++ [⟨sf, st, sv⟩]) ⟨st, to, val⟩ w w _ rfl HE.out rfl rfl (Below.refl _ _) hB (by simp; omega) ?_; intro v' w1 hown hbl)))
        go_ret
        rw [List.append_assoc] at hown
        exact ⟨_, rfl, hown, hbl⟩
end Go.Proofs.Ytojplkkmpnaibaa
