/-
  Contract of slices.Backward at ints, in the words of a range over a function: the elements from the last to the first, each with its index. No condition.
-/
import Derived.RangeFuncNested
import Derived.RangeFuncBound
import Derived.RangeFuncCalls
import Derived.RangeFuncLeaves
import Derived.RangeFuncFrom
import Derived.RangeFuncBox
import Derived.Shelf.Abstract
import Derived.Shelf.RegionOpen
import Derived.WalkKit
import Derived.OwnWalkIn
import Derived.TacticsInMore
import Derived.LoopNIn
import Derived.LoopIn
import Derived.Test.YtlopddiplmjpfaaBwy
set_option linter.unusedVariables false
namespace Go.Proofs.Ytlopddiplmjpfaa
open Go.RowKit Go.Shelf

attribute [local go_sem] Oper.semAt_some

abbrev El (l : List Int) := { x : Nat × Int // l[x.1]? = some x.2 }
abbrev encEl {l : List Int} (x : El l) : Array Value := #[.int .i64 (x.1.1 : Int), .int .i64 x.1.2]
def idxOf {l : List Int} (pre : List (El l)) : List Nat := pre.map (fun x => x.1.1)
theorem idxOf_snoc {l : List Int} (pre : List (El l)) (x : El l) : idxOf (pre ++ [x]) = idxOf pre ++ [x.1.1] := by simp [idxOf]
/-- n - 1, .., m -/
def downTo (n m : Nat) : List Nat := ((List.range n).drop m).reverse
theorem downTo_self (n : Nat) : downTo n n = [] := by simp [downTo]
theorem downTo_step (n m : Nat) (h : m < n) : downTo n m = downTo n (m + 1) ++ [m] := by
  unfold downTo
  rw [List.drop_eq_getElem_cons (by simpa using h), List.reverse_cons]
  simp
theorem downTo_mem (n m j : Nat) : j ∈ downTo n m ↔ m ≤ j ∧ j < n := by
  unfold downTo
  rw [List.mem_reverse, List.mem_iff_getElem]
  constructor
  · rintro ⟨i, hi, rfl⟩
    simp at hi ⊢
    omega
  · rintro ⟨h1, h2⟩
    exact ⟨j - m, by simp; omega, by simp; omega⟩
/-- what has come when a round says 'no more' -/
theorem downTo_last {l : List Int} (n m : Nat) (pre : List (El l)) (x : El l) (h : idxOf (pre ++ [x]) = downTo n m) : x.1.1 = m ∧ m < n ∧ idxOf pre = downTo n (m + 1) := by
  rw [idxOf_snoc] at h
  rcases Nat.lt_or_ge m n with hm | hm
  · rw [downTo_step n m hm] at h
    have h1 := List.append_inj' h rfl
    exact ⟨by simpa using h1.2, hm, h1.1⟩
  · have : downTo n m = [] := by
      unfold downTo
      rw [List.drop_of_length_le (by simpa using hm)]; rfl
    rw [this] at h
    simp at h

set_option maxRecDepth 100000 in
set_option maxHeartbeats 4000000 in
theorem back1_in (F : Fence) (n : Nat) (h48 : F.fn 85) (hro : F.round = none) (hn : 1 ≤ n) (lp Bs n₀ len cap : Nat) (A : Option Addr) (l : List Int) (hlen : len = l.length) (hmax : len ≤ 1000000) (hBs0 : Bs < n₀) (J Jx : List (El l) → World → Prop)
    (hY : ∀ pre (x : El l) W, J pre W → pre.length < len → YieldAt F (n - 1) Try.prog lp (encEl x) W fun e W' =>
      (e = .returned (.bool true) ∧ J (pre ++ [x]) W' ∧ Below n₀ W W') ∨ (e = .returned (.bool false) ∧ Jx (pre ++ [x]) W'))
    (W : World) (hBs : W.cell? ⟨Bs, 0, none⟩ = some (.slice A len cap)) (hl : Has W n₀ A (l.map (Value.int .i64))) (h0 : J [] W) :
    CallsIn F n Try.prog 85 #[.func (.yield lp) #[] #[], .pointer (some ⟨Bs, 0, none⟩)] W fun e W' => (∃ v, e = .returned v) ∧
      ((∃ ys, idxOf ys = downTo len 0 ∧ J ys W') ∨ (∃ pre, (∃ m, idxOf pre = downTo len m) ∧ Jx pre W')) := by
  have HL := Lib.hid hlen
  clear hlen
  refine callsIn_of_wp Try.func85 rfl h48 ?_ hro
  simp only [Try.ntmps85, List.size_toArray, List.length_cons, List.length_nil, Nat.reduceAdd, Nat.reduceSub, Array.replicate_succ, Array.replicate_zero, List.push_toArray, List.append_toArray, List.nil_append, List.cons_append]
  gi_wp2
  gi_loopw [3] (fun i wr => ∃ (m : Nat) (pre : List (El l)), m ≤ len ∧ i = .int .i64 ((m : Int) - 1) ∧ idxOf pre = downTo len m ∧ J pre wr ∧ Below n₀ W wr)
    (fun i _ => (intOf i + 1).toNat)
  case atStart => exact ⟨len, [], Nat.le_refl _, by go_num, by rw [downTo_self]; rfl, h0, Below.refl _ _⟩
  case round =>
    obtain ⟨m, pre, hm, rfl, hpre, hJs, hnx⟩ := hrel
    have hBx : wr.cell? ⟨Bs, 0, none⟩ = some (.slice A len cap) := (hnx.cell (p := ⟨Bs, 0, none⟩) hBs0).trans hBs
    cases m with
    | zero =>
      gi_wp2
      go_end0
      exact ⟨⟨_, rfl⟩, .inl ⟨pre, hpre, hJs⟩⟩
    | succ q =>
      have hq : q < l.length := by rw [← HL.out]; omega
      obtain ⟨b, off, rfl, hb, hc0⟩ := (hl.below hnx).at_int hq
      have hx : l[q]? = some l[q] := List.getElem?_eq_getElem hq
      have hpl : pre.length < len := by
        have := congrArg List.length hpre
        simp [idxOf, downTo] at this
        omega
      have hnext : idxOf (pre ++ [⟨(q, l[q]), hx⟩]) = downTo len q := by
        rw [idxOf_snoc, hpre, ← downTo_step len q (by omega)]
      obtain ⟨fn, tmps, assign, body, hy, hR⟩ := hY pre ⟨(q, l[q]), hx⟩ wr hJs hpl
      dsimp only [encEl] at hy
      replace hR := Lib.hid hR
      replace hnext := Lib.hid hnext
      replace hx := Lib.hid hx.symm
      obtain ⟨X, hX⟩ : ∃ X, l[q] = X := ⟨_, rfl⟩
      rw [hX] at hc0 hy
      replace hX := Lib.hid hX
      have e1 : ((q + 1 : Nat) : Int) - 1 = (q : Int) := by omega
      rw [e1]
      gi_wp2
      refine hR.out.mono ?_
      rintro e W3 (⟨rfl, hJ3, hk3⟩ | ⟨rfl, hJx3⟩)
      · gi_wp2
        go_roundw
        case rel => exact ⟨q, _, by omega, by go_num, hnext.out, hJ3, hnx.trans hk3⟩
        case measure => simp [intOf] <;> omega
      · gi_wp2
        refine bodyPost_ret (results_none rfl _ _ _) rfl ?_
        exact ⟨⟨_, rfl⟩, .inr ⟨_, ⟨q, hnext.out⟩, hJx3⟩⟩

set_option maxHeartbeats 1000000 in
/-- slices.Backward(s): the slice value is boxed; the function value captures the box -/
theorem back_in (F : Fence) (n : Nat) (h43 : F.fn 49) (hro : F.round = none) (A : Option Addr) (len cap : Nat) (w : World) :
    CallsIn F n Try.prog 49 #[.slice A len cap] w fun e w' => e = .returned (.func (.func 85) #[] #[.pointer (some ⟨w.heap.size, 0, none⟩)]) ∧ w' = w.alloc (.cells #[.slice A len cap] 23) := by
  refine callsIn_of_wp Try.func49 rfl h43 ?_ hro
  simp only [Try.ntmps49, List.size_toArray, List.length_cons, List.length_nil, Nat.reduceAdd, Nat.reduceSub, Array.replicate_succ, Array.replicate_zero, List.push_toArray, List.append_toArray, List.nil_append, List.cons_append]
  gi_wp2
  go_ret
  exact ⟨rfl, rfl⟩
/-- what a range over it is handed -/
theorem back_stops (F : Fence) (n : Nat) (h48 : F.fn 85) (hro : F.round = none) (hn : 1 ≤ n) (Bs n₀ len cap : Nat) (A : Option Addr) (l : List Int) (hlen : len = l.length) (hmax : len ≤ 1000000) (w : World) (hn₀ : n₀ ≤ w.heap.size) (hBn : Bs < n₀)
    (hc : w.cell? ⟨Bs, 0, none⟩ = some (.slice A len cap)) (hl : Has w n₀ A (l.map (Value.int .i64))) :
    SeqStopsK F n Try.prog 85 #[.pointer (some ⟨Bs, 0, none⟩)] (encEl (l := l)) (Below n₀) (fun ys => idxOf ys = downTo len 0) (fun pre => ∃ m, idxOf pre = downTo len m) len w := fun lp J Jx W hW _ _ hY h0 =>
  back1_in F n h48 hro hn lp Bs n₀ len cap A l hlen hmax hBn J Jx hY W ((hW.cell (p := ⟨Bs, 0, none⟩) (Nat.lt_of_lt_of_le hBn hn₀)).trans hc) (hl.below (hW.mono hn₀)) h0
end Go.Proofs.Ytlopddiplmjpfaa
