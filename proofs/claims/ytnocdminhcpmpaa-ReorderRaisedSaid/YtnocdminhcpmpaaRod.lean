/-
  What is held while stretches are turned round one after another; contracts of the program's clamp, isOdd, rounds, equalRuns, turn. Condition: at most 1000 levels.
-/
import Derived.Test.YtnocdminhcpmpaaRoc
import Derived.Test.YtnocdminhcpmpaaMinMax
import Derived.BigQuiet
set_option linter.unusedVariables false
set_option linter.unusedSimpArgs false
namespace Go.Proofs.Ytnocdminhcpmpaa
open Go.ChangeShapes Go.WideShapes Go.ChangeAt Go.RowKit Go.Sort

structure TrnS {α : Type} (p : α → Bool) (X L : List α) (f k : Nat) : Prop where
  le : f ≤ k
  lk : k ≤ L.length
  len : L.length = X.length
  all : L.take f ++ revG p [] (L.drop f) = revG p [] X
  yes : ∀ (j : Nat) x, f ≤ j → j < k → L[j]? = some x → p x = true
section
variable {α : Type} {p : α → Bool} {X L : List α} {f k : Nat}
theorem TrnS.start (p : α → Bool) (X : List α) : TrnS p X X 0 0 := ⟨Nat.le_refl _, Nat.zero_le _, rfl, rfl, fun j x h1 h2 => by omega⟩
theorem TrnS.keep (h : TrnS p X L f k) {x : α} (hx : L[k]? = some x) (hp : p x = true) : TrnS p X L f (k + 1) :=
  ⟨Nat.le_succ_of_le h.le, (List.getElem?_eq_some_iff.1 hx).1, h.len, h.all, fun j y h1 h2 hy => by
    by_cases e : j = k
    · subst e
      rw [hx] at hy; injection hy with hy
      rw [← hy]; exact hp
    · exact h.yes j y h1 (by omega) hy⟩
theorem drop_split (L : List α) (f k : Nat) (h : f ≤ k) : L.drop f = (L.drop f).take (k - f) ++ L.drop k := by
  have := (List.take_append_drop (k - f) (L.drop f)).symm
  rw [List.drop_drop, show f + (k - f) = k by omega] at this
  exact this
theorem TrnS.mid (h : TrnS p X L f k) : ∀ x ∈ (L.drop f).take (k - f), p x = true := fun x hx => by
  obtain ⟨j, hj, e⟩ := List.mem_iff_getElem.1 hx
  rw [List.length_take, List.length_drop] at hj
  refine h.yes (f + j) x (by omega) (by omega) ?_
  rw [← e, List.getElem_take, List.getElem_drop, List.getElem?_eq_getElem]
theorem TrnS.stop (h : TrnS p X L f k) {x : α} (hx : L[k]? = some x) (hp : p x = false) : TrnS p X (revS L f (k - f)) (k + 1) (k + 1) := by
  have hlt := (List.getElem?_eq_some_iff.1 hx).1
  have hle := h.le
  have hd : L.drop k = x :: L.drop (k + 1) := by
    rw [List.drop_eq_getElem_cons hlt]
    congr 1
    rw [List.getElem?_eq_getElem hlt] at hx
    injection hx
  have hsp := drop_split L f k h.le
  have hm := h.mid
  have hall := h.all
  obtain ⟨s, hs⟩ : ∃ s, (L.drop f).take (k - f) = s := ⟨_, rfl⟩
  have hsl : s.length = k - f := by rw [← hs, List.length_take, List.length_drop]; omega
  rw [hs] at hm hsp
  have hfk : f + (k - f) = k := by omega
  have hrev : revS L f (k - f) = (L.take f ++ s.reverse ++ [x]) ++ L.drop (k + 1) := by
    unfold revS
    rw [hs, hfk, hd]
    simp
  have hlen : (L.take f ++ s.reverse ++ [x]).length = k + 1 := by simp; omega
  refine ⟨Nat.le_refl _, by rw [revS_len _ _ _ (by omega)]; exact hlt, by rw [revS_len _ _ _ (by omega)]; exact h.len, ?_, fun j y h1 h2 => by omega⟩
  rw [hrev, List.take_left' hlen, List.drop_left' hlen, ← hall, hsp, hd, rev_stop s [] x _ hm hp]
  simp
theorem TrnS.done (h : TrnS p X L f k) (hk : k = L.length) : revS L f (k - f) = revG p [] X := by
  have hle := h.le
  have hm := h.mid
  have ht : (L.drop f).take (k - f) = L.drop f := List.take_of_length_le (by rw [List.length_drop]; omega)
  rw [ht] at hm
  rw [← h.all, rev_all _ [] hm]
  have e : L.drop (f + (k - f)) = [] := List.drop_of_length_le (by omega)
  unfold revS
  rw [ht, e, List.append_nil, List.append_nil]
end

/-! small functions -/
theorem clamp_ok (z : Int) (w : World) : Calls Try.prog 30 #[.int .i64 z] w fun e w' => e = .returned (.int .i64 (clP z : Int)) ∧ w = w' := by
  obtain ⟨M, hM⟩ : ∃ M, max z 0 = M := ⟨_, rfl⟩
  rw [cl_int, hM]
  obtain ⟨m, hm⟩ : ∃ m, min M 126 = m := ⟨_, rfl⟩
  rw [hm]
  go_enter Try.func30, Try.ntmps30
  go_wp2_with (first
    | (refine wpList_max rfl _ _ _ rfl z 0 rfl rfl M hM ?_)
    | (refine wpList_min rfl _ _ _ rfl M 126 rfl rfl m hm ?_))
  go_ret
  exact ⟨rfl, rfl⟩
theorem nat_mod2 (v : Nat) : (v % 2 = 1 ∧ (v : Int).tmod 2 = 1) ∨ (v % 2 = 0 ∧ (v : Int).tmod 2 = 0) := by
  rw [Int.tmod_eq_emod_of_nonneg (by omega)]
  omega
theorem isOdd_ok (v : Nat) (w : World) : Calls Try.prog 23 #[.int .i64 v] w fun e w' => e = .returned (.bool (decide (v % 2 = 1))) ∧ w = w' := by
  rcases nat_mod2 v with ⟨h1, h2⟩ | ⟨h1, h2⟩
  · rw [decide_eq_true h1]
    go_enter Try.func23, Try.ntmps23
    go_wp2
    go_ret
    exact ⟨rfl, rfl⟩
  · rw [decide_eq_false (by omega)]
    go_enter Try.func23, Try.ntmps23
    go_wp2
    go_ret
    exact ⟨rfl, rfl⟩

set_option maxRecDepth 20000 in
set_option maxHeartbeats 4000000 in
theorem prounds_ok (A : Option Addr) (n c : Nat) (xs : List Int) (w : World) (hn : n = xs.length) (hmax : n ≤ 1000) (h : Has w w.heap.size A (xs.map (Value.int .i64))) :
    Calls Try.prog 27 #[.slice A n c] w fun e w' => e = .returned (.tuple #[.int .i64 (lowK (lvX xs) n : Int), .int .i64 (highK (lvX xs) n : Int)]) ∧ w = w' := by
  have HN := Lib.hid hn
  have HH := Lib.hid h
  clear hn h
  go_enter Try.func27, Try.ntmps27
  go_wp2
  go_loopw [2, 3, 8] (fun v2 v3 v8 wr => ∃ k : Nat, k ≤ n ∧ v8 = .int .i64 k ∧ ∃ lo hi : Nat, v2 = .int .i64 lo ∧ v3 = .int .i64 hi ∧ Hid (lo = lowK (lvX xs) k ∧ hi = highK (lvX xs) k) ∧ wr = w) (fun _ _ v _ => n - (intOf v).toNat)
  case atStart => exact ⟨0, by omega, rfl, 127, 0, rfl, rfl, Lib.hid ⟨rfl, rfl⟩, rfl⟩
  case round =>
    obtain ⟨k, hkn, rfl, lo, hi, rfl, rfl, HS, rfl⟩ := hrel
    by_cases hlt : k < n
    · have hk1 : k < xs.length := by have := HN.out; omega
      obtain ⟨b0, o0, rfl, hb0, hcc⟩ := HH.out.at_int hk1
      have hlv : lvX xs k = clP xs[k] := by unfold lvX; rw [List.getD_eq_getElem?_getD, List.getElem?_eq_getElem hk1]; rfl
      have HCL := Lib.hid (fun W => clamp_ok xs[k] W)
      rw [← hlv] at HCL
      have HOD := Lib.hid (fun W => isOdd_ok (lvX xs k) W)
      have hst1 : lowK (lvX xs) (k + 1) = if lvX xs k % 2 = 1 then min (lowK (lvX xs) k) (lvX xs k) else lowK (lvX xs) k := rfl
      have hst2 : highK (lvX xs) (k + 1) = max (highK (lvX xs) k) (lvX xs k) := rfl
      obtain ⟨e1, e2⟩ := HS.out
      rw [← e1] at hst1
      rw [← e2] at hst2
      generalize xs[k] = X at *
      generalize lvX xs k = V at *
      obtain ⟨M, hM⟩ : ∃ M : Int, max (hi : Int) (V : Int) = M := ⟨_, rfl⟩
      obtain ⟨m, hm⟩ : ∃ m : Int, min (lo : Int) (V : Int) = m := ⟨_, rfl⟩
      have hM2 : M = ((max hi V : Nat) : Int) := by omega
      have hm2 : m = ((min lo V : Nat) : Int) := by omega
      cases ho : decide (V % 2 = 1) with
      | true =>
        rw [ho] at HOD
        rw [if_pos (of_decide_eq_true ho)] at hst1
        have HS2 : Hid (min lo V = lowK (lvX xs) (k + 1) ∧ max hi V = highK (lvX xs) (k + 1)) := Lib.hid ⟨hst1.symm, hst2.symm⟩
        have HM2 := Lib.hid (And.intro hM2 hm2)
        clear hst1 hst2 e1 e2 HS ho hlv hk1 hM2 hm2
        go_wp2_with (first
          | (go_at_call 30; (with_reducible refine (HCL.out _).mono ?_); rintro x u ⟨rfl, rfl⟩)
          | (go_at_call 23; (with_reducible refine (HOD.out _).mono ?_); rintro x u ⟨rfl, rfl⟩)
          | (refine wpList_max rfl _ _ _ rfl (hi : Int) (V : Int) rfl rfl M hM ?_)
          | (refine wpList_min rfl _ _ _ rfl (lo : Int) (V : Int) rfl rfl m hm ?_))
        go_roundw
        case rel => exact ⟨k + 1, by omega, by go_num, _, _, by rw [HM2.out.2], by rw [HM2.out.1], HS2, by trivial⟩
        case measure => simp [intOf] <;> omega
      | false =>
        rw [ho] at HOD
        rw [if_neg (of_decide_eq_false ho)] at hst1
        have HS2 : Hid (lo = lowK (lvX xs) (k + 1) ∧ max hi V = highK (lvX xs) (k + 1)) := Lib.hid ⟨hst1.symm, hst2.symm⟩
        have HM2 := Lib.hid (And.intro hM2 hm2)
        clear hst1 hst2 e1 e2 HS ho hlv hk1 hM2 hm2
        go_wp2_with (first
          | (go_at_call 30; (with_reducible refine (HCL.out _).mono ?_); rintro x u ⟨rfl, rfl⟩)
          | (go_at_call 23; (with_reducible refine (HOD.out _).mono ?_); rintro x u ⟨rfl, rfl⟩)
          | (refine wpList_max rfl _ _ _ rfl (hi : Int) (V : Int) rfl rfl M hM ?_))
        go_roundw
        case rel => exact ⟨k + 1, by omega, by go_num, _, _, rfl, by rw [HM2.out.1], HS2, by trivial⟩
        case measure => simp [intOf] <;> omega
    · obtain rfl : k = n := by omega
      go_wp2
      go_ret2
      exact ⟨by rw [HS.out.1, HS.out.2]; rfl, rfl⟩

theorem fullSp : (Try.prog.info? 33).map (fun i => (i.zero, i.size, i.bytes)) = some (some (.agg #[.int .i64 0, .int .i64 0, .int .i64 0]), LSp.C, 24) := by kernel_rfl
set_option maxRecDepth 20000 in
set_option maxHeartbeats 4000000 in
theorem peq_ok (A : Option Addr) (n c : Nat) (xs : List Int) (w : World) (hn : n = xs.length) (hmax : n ≤ 1000) (h : Has w w.heap.size A (xs.map (Value.int .i64))) :
    Calls Try.prog 26 #[.slice A n c] w fun e w' => ∃ v, e = .returned v ∧ MineS w' w.heap.size v (eqQ (lvX xs) n) ∧ Below w.heap.size w w' := by
  have HN := Lib.hid hn
  have HH := Lib.hid (fun (W : World) (hb : Below w.heap.size w W) => h.below hb)
  clear hn h
  go_enter Try.func26, Try.ntmps26
  go_wp2
  go_loopw [3, 9] (fun v3 v9 wr => ∃ k : Nat, k ≤ n ∧ v9 = .int .i64 k ∧ Hid (MineS wr w.heap.size v3 (eqQ (lvX xs) k) ∧ Below w.heap.size w wr)) (fun _ v _ => n - (intOf v).toNat)
  case atStart => exact ⟨0, by omega, rfl, Lib.hid ⟨MineN.nil_ _ _ _, Below.refl _ _⟩⟩
  case round =>
    obtain ⟨k, hkn, rfl, HS⟩ := hrel
    obtain ⟨h1, h2⟩ := HS.out
    by_cases hlt : k < n
    · have hk1 : k < xs.length := by have := HN.out; omega
      obtain ⟨b0, o0, rfl, hb0, hcc⟩ := (HH.out _ h2).at_int hk1
      have hlv : lvX xs k = clP xs[k] := by unfold lvX; rw [List.getD_eq_getElem?_getD, List.getElem?_eq_getElem hk1]; rfl
      have HCL := Lib.hid (fun W => clamp_ok xs[k] W)
      rw [← hlv] at HCL
      have hst : eqQ (lvX xs) (k + 1) = addQ (lvX xs) (eqQ (lvX xs) k) k := rfl
      have hle := eq_len (lvX xs) k
      unfold addQ at hst
      generalize eqQ (lvX xs) k = rs at *
      generalize xs[k] = X at *
      generalize lvX xs k = V at *
      obtain ⟨A3, c3, rfl, hc3, _, _⟩ := MineN.has h1
      have hB : w.heap.size ≤ wr.heap.size := h2.size
      have h1' : MineN LSp 33 wr w.heap.size (.slice A3 rs.length c3) rs := h1
      by_cases hc : 0 < rs.length ∧ (gq rs (rs.length - 1)).2.2 = V
      · rw [if_pos hc] at hst
        obtain ⟨j, hj⟩ : ∃ j, rs.length = j + 1 := ⟨rs.length - 1, by omega⟩
        have hjb : j ≤ 1000 := by omega
        rw [hj, Nat.add_sub_cancel] at hc hst
        have hx := gq_get rs j (by omega)
        obtain ⟨x, hxe⟩ : ∃ x, gq rs j = x := ⟨_, rfl⟩
        rw [hxe] at hx hc hst
        have hxV : x.2.2 = V := hc.2
        rw [hj] at h1 h1'
        obtain ⟨g, rfl, hgB, hg, ⟨c1, c2, c3'⟩, hfr, _⟩ := MineS.spot h1 hx
        have hf1 := hfr (j * 3 + 1)
        have hset : MineS (wr.setCell ⟨g, j * 3 + 1, none⟩ (.int .i64 ((k : Int) + 1))) w.heap.size (.slice (some ⟨g, 0, none⟩) (j + 1) c3) (eqQ (lvX xs) (k + 1)) := by
          rw [hst]
          exact MineN.set (q := 1) (y := (x.1, k + 1, V)) h1 hx (by decide) (by rw [← hxV]; rfl)
        have HS2 := Lib.hid (And.intro hset (h2.setCell (p := ⟨g, j * 3 + 1, none⟩) hgB (.int .i64 ((k : Int) + 1))))
        rw [hxV] at c3'
        rw [hj]
        clear hst hset hx hxe hc hfr h1 h1' h2 HS hlv hk1 hb0 hle hB hc3 hj hxV
        go_wp2_with (first
          | (go_at_call 30; (with_reducible refine (HCL.out _).mono ?_); rintro x u ⟨rfl, rfl⟩))
        go_roundw
        case rel => exact ⟨k + 1, by omega, by go_num, HS2⟩
        case measure => simp [intOf] <;> omega
      · rw [if_neg hc] at hst
        have HS2 : Hid (∀ v' w', MineS w' w.heap.size v' (rs ++ [(k, k + 1, V)]) → Below w.heap.size wr w' → MineS w' w.heap.size v' (eqQ (lvX xs) (k + 1)) ∧ Below w.heap.size w w') := Lib.hid fun v' w' g1 g2 => ⟨by rw [hst]; exact g1, h2.trans g2⟩
        have hlen : rs.length ≤ 1000000 := by omega
        rcases Nat.eq_zero_or_pos rs.length with h0 | h0
        · rw [h0] at h1'
          rw [h0]
          clear hst hc h1 h2 HS hlv hk1 hb0 hle hc3 h0
          go_wp2_with (first
            | (go_at_call 30; (with_reducible refine (HCL.out _).mono ?_); rintro x u ⟨rfl, rfl⟩)
            | (at_builtin; (refine wpList_pushN (R := LSp) rfl _ _ 27 rfl _ Try.underlying27 fullSp rfl (by decide) (by decide) w.heap.size _ rs (k, k + 1, V) _ _ rfl h1' rfl rfl hB hlen ?_; intro v' w3 hM3 hb3 hfar)))
          go_roundw
          case rel => exact ⟨k + 1, by omega, by go_num, Lib.hid (HS2.out _ _ hM3 hb3)⟩
          case measure => simp [intOf] <;> omega
        · obtain ⟨j, hj⟩ : ∃ j, rs.length = j + 1 := ⟨rs.length - 1, by omega⟩
          have hjb : j ≤ 1000 := by omega
          rw [hj, Nat.add_sub_cancel] at hc
          have hx := gq_get rs j (by omega)
          obtain ⟨x, hxe⟩ : ∃ x, gq rs j = x := ⟨_, rfl⟩
          rw [hxe] at hx hc
          have hxV : ¬ ((x.2.2 : Int) = (V : Int)) := fun e => hc ⟨by omega, by omega⟩
          rw [hj] at h1 h1'
          obtain ⟨g, rfl, hgB, hg, ⟨c1, c2, c3'⟩, hfr, _⟩ := MineS.spot h1 hx
          rw [hj]
          clear hst hx hxe hc hfr h1 h2 HS hlv hk1 hb0 hle hc3 hj h0
          go_wp2_with (first
            | (go_at_call 30; (with_reducible refine (HCL.out _).mono ?_); rintro x u ⟨rfl, rfl⟩)
            | (at_builtin; (refine wpList_pushN (R := LSp) rfl _ _ 27 rfl _ Try.underlying27 fullSp rfl (by decide) (by decide) w.heap.size _ rs (k, k + 1, V) _ _ rfl h1' rfl rfl hB hlen ?_; intro v' w3 hM3 hb3 hfar)))
          go_roundw
          case rel => exact ⟨k + 1, by omega, by go_num, Lib.hid (HS2.out _ _ hM3 hb3)⟩
          case measure => simp [intOf] <;> omega
    · obtain rfl : k = n := by omega
      go_wp2
      go_ret
      exact ⟨_, rfl, h1, h2⟩
end Go.Proofs.Ytnocdminhcpmpaa
