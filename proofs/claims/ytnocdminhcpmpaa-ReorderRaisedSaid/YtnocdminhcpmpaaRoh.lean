/-
  Contracts of the document's Counts, bounds, rounds, Visual, Turns. Condition: at most 1000 levels.
-/
import Derived.Test.YtnocdminhcpmpaaRog
set_option linter.unusedVariables false
set_option linter.unusedSimpArgs false
namespace Go.Proofs.Ytnocdminhcpmpaa
open Go.ChangeShapes Go.WideShapes Go.ChangeAt Go.RowKit Go.Sort

/-- levels in a row -/
def lvlL (lv : Nat → Nat) (n : Nat) : List Nat := (List.range n).map lv
theorem lvl_len (lv : Nat → Nat) (n : Nat) : (lvlL lv n).length = n := by simp [lvlL]
theorem lvl_get (lv : Nat → Nat) (n i : Nat) (h : i < n) : (lvlL lv n)[i]? = some (lv i) := by
  unfold lvlL; rw [List.getElem?_map, List.getElem?_range h]; rfl
theorem lvl_succ (lv : Nat → Nat) (n : Nat) : lvlL lv (n + 1) = lvlL lv n ++ [lv n] := by
  unfold lvlL; rw [List.range_succ, List.map_append]; rfl
/-- two slices of numbers of the call's own, apart -/
structure TwoS (w : World) (B : Nat) (wr : World) (v u : Value) (L M : List Nat) : Prop where
  one : Mine .i64 3 wr B v (inN L)
  two : Mine .i64 3 wr B u (inN M)
  far : Apart v u
  bel : Below B w wr
section
variable {w wr W : World} {B : Nat} {v u v' : Value} {L M : List Nat}
theorem TwoS.push {x : Nat} (h : TwoS w B wr v u L M) (hM : Mine .i64 3 W B v' (inN L ++ [(x : Int)])) (hb : Below B wr W) (hf : ∀ b, b < wr.heap.size → v.ownBlock ≠ some b → v'.ownBlock ≠ some b ∧ W.heap[b]? = wr.heap[b]?) : TwoS w B W v' u (L ++ [x]) M := by
  refine ⟨by rw [inN_append]; exact hM, h.two.stays fun b hb2 hlt => (hf b hlt fun e => h.far b e hb2).2, fun b hb2 e => ?_, h.bel.trans hb⟩
  have h1 := (h.two.own_lt b e).2
  exact (hf b h1 fun e2 => h.far b e2 e).1 hb2
theorem inN_set (L : List Nat) (i x : Nat) : inN (L.set i x) = (inN L).set i (x : Int) := by unfold inN; rw [List.map_set]
theorem TwoS.set {A : Option Addr} {n c i x : Nat} (h : TwoS w B wr (.slice A n c) u L M) (hi : L[i]? = some x) :
    ∃ g, A = some ⟨g, 0, none⟩ ∧ wr.cell? ⟨g, i, none⟩ = some (.int .i64 (x : Int)) ∧ wr.frozen? ⟨g, i, none⟩ = false ∧ ∀ y : Nat, TwoS w B (wr.setCell ⟨g, i, none⟩ (.int .i64 (y : Int))) (.slice A n c) u (L.set i y) M := by
  obtain ⟨g, rfl, hgB, hg, hc, hf, hs⟩ := h.one.spot (inN_get L i x hi)
  refine ⟨g, rfl, hc, hf, fun y => ⟨by rw [inN_set]; exact hs (y : Int), h.two.stays fun b hb _ => Below.heap_setCell _ _ _ _ (fun e => h.far g rfl (by have e2 : b = g := e; rw [← e2]; exact hb)), h.far, h.bel.setCell (p := ⟨g, i, none⟩) hgB _⟩⟩
theorem TwoS.at2 {A : Option Addr} {n c i x : Nat} (h : TwoS w B wr v (.slice A n c) L M) (hi : M[i]? = some x) : ∃ g, A = some ⟨g, 0, none⟩ ∧ wr.cell? ⟨g, i, none⟩ = some (.int .i64 (x : Int)) := by
  obtain ⟨g, rfl, _, _, hc, _, _⟩ := h.two.spot (inN_get M i x hi)
  exact ⟨g, rfl, hc⟩
end

set_option maxRecDepth 20000 in
set_option maxHeartbeats 4000000 in
theorem rcounts_ok (A : Option Addr) (n c : Nat) (xs : List Int) (w : World) (hn : n = xs.length) (hmax : n ≤ 1000) (h : Has w w.heap.size A (xs.map (Value.int .i64))) :
    Calls Try.prog 29 #[.slice A n c] w fun e w' => ∃ v, e = .returned v ∧ Mine .i64 3 w' w.heap.size v (inN (lvlL (lvX xs) n)) ∧ Below w.heap.size w w' := by
  have HN := Lib.hid hn
  have HH := Lib.hid (fun (W : World) (hb : Below w.heap.size w W) => h.below hb)
  clear hn h
  go_enter Try.func29, Try.ntmps29
  go_wp2
  go_loopw [3, 4] (fun v3 v4 wr => ∃ k : Nat, k ≤ n ∧ v4 = .int .i64 k ∧ Hid (Mine .i64 3 wr w.heap.size v3 (inN (lvlL (lvX xs) k)) ∧ Below w.heap.size w wr)) (fun _ v _ => n - (intOf v).toNat)
  case atStart => exact ⟨0, by omega, rfl, Lib.hid ⟨Mine.nil_ _ _ _ _, Below.refl _ _⟩⟩
  case round =>
    obtain ⟨k, hkn, rfl, HS⟩ := hrel
    obtain ⟨h1, h2⟩ := HS.out
    by_cases hlt : k < n
    · have hk1 : k < xs.length := by have := HN.out; omega
      obtain ⟨b0, o0, rfl, hb0, hcc⟩ := (HH.out _ h2).at_int hk1
      have hlv : lvX xs k = clP xs[k] := by unfold lvX; rw [List.getD_eq_getElem?_getD, List.getElem?_eq_getElem hk1]; rfl
      have hcl := cl_int2 xs[k]
      rw [← hlv] at hcl
      have hst := lvl_succ (lvX xs) k
      have hl : (inN (lvlL (lvX xs) k)).length ≤ 1000000000 := by rw [inN_len, lvl_len]; omega
      have hB : w.heap.size ≤ wr.heap.size := h2.size
      generalize xs[k] = X at *
      generalize lvX xs k = V at *
      obtain ⟨m, hm⟩ : ∃ m : Int, min X 126 = m := ⟨_, rfl⟩
      obtain ⟨M, hM⟩ : ∃ M : Int, max 0 m = M := ⟨_, rfl⟩
      have hM2 : M = (V : Int) := by omega
      subst hM2
      have HS2 : Hid (∀ v' W, Mine .i64 3 W w.heap.size v' (inN (lvlL (lvX xs) k) ++ [(V : Int)]) → Below w.heap.size w W → Mine .i64 3 W w.heap.size v' (inN (lvlL (lvX xs) (k + 1))) ∧ Below w.heap.size w W) := Lib.hid fun v' W g1 g2 => ⟨by rw [hst, inN_append]; exact g1, g2⟩
      clear HS hcl hlv hst hk1
      go_wp2_with (first
        | (refine wpList_min rfl _ _ _ rfl X 126 rfl rfl m hm ?_)
        | (refine wpList_max rfl _ _ _ rfl 0 m rfl rfl (V : Int) hM ?_)
        | (at_builtin; (refine wpList_push (k := .i64) (bytes := 8) rfl _ _ 22 rfl Try.underlying22 fullI (by decide) w.heap.size _ _ (V : Int) w _ h1 rfl rfl h2 hB hl ?_; intro v' w3 hM3 hb3)))
      go_roundw
      case rel => exact ⟨k + 1, by omega, by go_num, Lib.hid (HS2.out _ _ hM3 hb3)⟩
      case measure => simp [intOf] <;> omega
    · obtain rfl : k = n := by omega
      go_wp2
      go_ret
      exact ⟨_, rfl, h1, h2⟩

set_option maxRecDepth 20000 in
set_option maxHeartbeats 4000000 in
theorem rbounds_ok (A : Option Addr) (n c : Nat) (lv : Nat → Nat) (w : World) (hlv : ∀ i, lv i ≤ 126) (hmax : n ≤ 1000) (h : Has w w.heap.size A ((inN (lvlL lv n)).map (Value.int .i64))) :
    Calls Try.prog 31 #[.slice A n c] w fun e w' => e = .returned (.tuple #[.int .i64 (highK lv n : Int), .int .i64 (lowK lv n : Int)]) ∧ w = w' := by
  have HH := Lib.hid h
  have HV := Lib.hid hlv
  clear h hlv
  go_enter Try.func31, Try.ntmps31
  go_wp2
  go_loopw [4, 5, 6] (fun v2 v3 v8 wr => ∃ k : Nat, k ≤ n ∧ v8 = .int .i64 k ∧ ∃ lo hi : Nat, v3 = .int .i64 lo ∧ v2 = .int .i64 hi ∧ Hid (lo = lowK lv k ∧ hi = highK lv k) ∧ wr = w) (fun _ _ v _ => n - (intOf v).toNat)
  case atStart => exact ⟨0, by omega, rfl, 127, 0, rfl, rfl, Lib.hid ⟨rfl, rfl⟩, rfl⟩
  case round =>
    obtain ⟨k, hkn, rfl, lo, hi, rfl, rfl, HS, rfl⟩ := hrel
    by_cases hlt : k < n
    · obtain ⟨b0, o0, rfl, hb0, hcc⟩ := HH.out.at_int (k := k) (by rw [inN_len, lvl_len]; exact hlt)
      have hge : (inN (lvlL lv n))[k]'(by rw [inN_len, lvl_len]; exact hlt) = (lv k : Int) := by
        have := inN_get _ _ _ (lvl_get lv n k hlt)
        rw [List.getElem?_eq_getElem (by rw [inN_len, lvl_len]; exact hlt)] at this
        injection this
      rw [hge] at hcc
      have hst1 : lowK lv (k + 1) = if lv k % 2 = 1 then min (lowK lv k) (lv k) else lowK lv k := rfl
      have hst2 : highK lv (k + 1) = max (highK lv k) (lv k) := rfl
      obtain ⟨e1, e2⟩ := HS.out
      rw [← e1] at hst1
      rw [← e2] at hst2
      have hV := HV.out k
      have hmod := nat_mod2 (lv k)
      clear hge
      generalize lv k = V at *
      obtain ⟨M, hM⟩ : ∃ M : Int, max (hi : Int) (V : Int) = M := ⟨_, rfl⟩
      obtain ⟨m, hm⟩ : ∃ m : Int, min (lo : Int) (V : Int) = m := ⟨_, rfl⟩
      have hM2 : M = ((max hi V : Nat) : Int) := by omega
      have hm2 : m = ((min lo V : Nat) : Int) := by omega
      rcases hmod with ⟨ho, ho2⟩ | ⟨ho, ho2⟩
      · rw [if_pos ho] at hst1
        have HS2 : Hid (min lo V = lowK lv (k + 1) ∧ max hi V = highK lv (k + 1)) := Lib.hid ⟨hst1.symm, hst2.symm⟩
        have HM2 := Lib.hid (And.intro hM2 hm2)
        clear hst1 hst2 e1 e2 HS hM2 hm2
        go_wp2_with (first
          | (refine wpList_max rfl _ _ _ rfl (hi : Int) (V : Int) rfl rfl M hM ?_)
          | (refine wpList_min rfl _ _ _ rfl (lo : Int) (V : Int) rfl rfl m hm ?_))
        go_roundw
        case rel => exact ⟨k + 1, by omega, by go_num, _, _, by rw [HM2.out.2], by rw [HM2.out.1], HS2, by trivial⟩
        case measure => simp [intOf] <;> omega
      · rw [if_neg (by omega)] at hst1
        have HS2 : Hid (lo = lowK lv (k + 1) ∧ max hi V = highK lv (k + 1)) := Lib.hid ⟨hst1.symm, hst2.symm⟩
        have HM2 := Lib.hid (And.intro hM2 hm2)
        clear hst1 hst2 e1 e2 HS hM2 hm2
        go_wp2_with (first
          | (refine wpList_max rfl _ _ _ rfl (hi : Int) (V : Int) rfl rfl M hM ?_))
        go_roundw
        case rel => exact ⟨k + 1, by omega, by go_num, _, _, rfl, by rw [HM2.out.1], HS2, by trivial⟩
        case measure => simp [intOf] <;> omega
    · obtain rfl : k = n := by omega
      go_wp2
      go_ret2
      exact ⟨by rw [HS.out.1, HS.out.2]; rfl, rfl⟩
end Go.Proofs.Ytnocdminhcpmpaa
