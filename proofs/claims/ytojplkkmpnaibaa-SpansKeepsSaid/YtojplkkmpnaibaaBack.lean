/-
  Contract of slices.Backward at spans, in the words of a range over a function: the spans from the last to the first, each with its index. No condition.
-/
import Derived.RangeFuncNested
import Derived.RangeFuncBound
import Derived.RangeFuncCalls
import Derived.RangeFuncLeaves
import Derived.RangeFuncBox
import Derived.Shelf.Abstract
import Derived.Shelf.RegionOpen
import Derived.WalkKit
import Derived.OwnWalkIn
import Derived.TacticsInMore
import Derived.LoopNIn
import Derived.LoopIn
import Derived.Test.YtojplkkmpnaibaaSpn
set_option linter.unusedVariables false
namespace Go.Proofs.Ytojplkkmpnaibaa
open Go.RowKit Go.Shelf

attribute [local go_sem] Oper.semAt_some

abbrev El (l : List Sp) := { x : Nat × Sp // x.2 ∈ l }
abbrev encEl {l : List Sp} (x : El l) : Array Value := #[.int .i64 (x.1.1 : Int), .agg #[.int .i64 x.1.2.f, .int .i64 x.1.2.t, .int .i64 x.1.2.v]]
def spansOf {l : List Sp} (pre : List (El l)) : List Sp := pre.map (fun x => x.1.2)
theorem spansOf_snoc {l : List Sp} (pre : List (El l)) (x : El l) : spansOf (pre ++ [x]) = spansOf pre ++ [x.1.2] := by simp [spansOf]

/-- what a round keeps: what lies below n₁, and the block Bs -/
def KB (n₁ Bs : Nat) (W W' : World) : Prop := Below n₁ W W' ∧ W'.heap[Bs]? = W.heap[Bs]?
theorem KB.refl (n₁ Bs : Nat) (W : World) : KB n₁ Bs W W := ⟨Below.refl _ _, rfl⟩
theorem KB.trans {n₁ Bs : Nat} {A B C : World} (h : KB n₁ Bs A B) (k : KB n₁ Bs B C) : KB n₁ Bs A C := ⟨h.1.trans k.1, k.2.trans h.2⟩
theorem KB.b {n₁ Bs N : Nat} (hn : n₁ ≤ N) (hB : Bs < N) (W : World) (l : Nat) (o o' : Obj) (hl : N ≤ l) (h1 : W.heap[l]? = some o) (h2 : o.isCells = false) (h3 : o.isWalk = false) : KB n₁ Bs W (W.putObj l o') :=
  ⟨(Below.refl n₁ W).grown (grownBy_putObj' W l o') (by have := (Array.getElem?_eq_some_iff.1 h1).1; omega) (fun k e => by cases e; omega), World.putObj_heap_other (fun e => by omega)⟩

set_option maxRecDepth 100000 in
set_option maxHeartbeats 4000000 in
theorem back1_in (F : Fence) (n : Nat) (h48 : F.fn 48) (hro : F.round = none) (hn : 1 ≤ n) (lp Bs n₀ len cap : Nat) (A : Option Addr) (l : List Sp) (hlen : len = l.length) (hmax : len ≤ 1000000) (J Jx : List (El l) → World → Prop)
    (hY : ∀ pre (x : El l) W, J pre W → pre.length < len → YieldAt F (n - 1) Try.prog lp (encEl x) W fun e W' =>
      (e = .returned (.bool true) ∧ J (pre ++ [x]) W' ∧ KB n₀ Bs W W') ∨ (e = .returned (.bool false) ∧ Jx (pre ++ [x]) W'))
    (W : World) (hBs : W.cell? ⟨Bs, 0, none⟩ = some (.slice A len cap)) (hl : HasS W n₀ A l) (h0 : J [] W) :
    CallsIn F n Try.prog 48 #[.func (.yield lp) #[] #[], .pointer (some ⟨Bs, 0, none⟩)] W fun e W' => (∃ v, e = .returned v) ∧
      ((∃ ys, spansOf ys = l.reverse ∧ J ys W') ∨ (∃ pre, True ∧ Jx pre W')) := by
  have HL := Lib.hid hlen
  clear hlen
  refine callsIn_of_wp Try.func48 rfl h48 ?_ hro
  simp only [Try.ntmps48, List.size_toArray, List.length_cons, List.length_nil, Nat.reduceAdd, Nat.reduceSub, Array.replicate_succ, Array.replicate_zero, List.push_toArray, List.append_toArray, List.nil_append, List.cons_append]
  gi_wp2
  gi_loopw [3] (fun i wr => ∃ (m : Nat) (pre : List (El l)), m ≤ len ∧ i = .int .i64 ((m : Int) - 1) ∧ spansOf pre = (l.drop m).reverse ∧ J pre wr ∧ KB n₀ Bs W wr)
    (fun i _ => (intOf i + 1).toNat)
  case atStart => exact ⟨len, [], Nat.le_refl _, by go_num, by rw [HL.out]; simp [spansOf], h0, KB.refl _ _ _⟩
  case round =>
    obtain ⟨m, pre, hm, rfl, hpre, hJs, hnx⟩ := hrel
    have hBx : wr.cell? ⟨Bs, 0, none⟩ = some (.slice A len cap) := (World.cell?_of_block (a := ⟨Bs, 0, none⟩) hnx.2).trans hBs
    cases m with
    | zero =>
      have hys : spansOf pre = l.reverse := by simpa using hpre
      gi_wp2
      go_end0
      exact ⟨⟨_, rfl⟩, .inl ⟨pre, hys, hJs⟩⟩
    | succ q =>
      have hq : q < l.length := by rw [← HL.out]; omega
      obtain ⟨b, off, rfl, hb, hc0, hc1, hc2⟩ := (hl.below hnx.1).at_ hq
      have hmem : l[q] ∈ l := List.getElem_mem hq
      have hpl : pre.length < len := by
        have := congrArg List.length hpre
        simp [spansOf] at this
        have := HL.out
        omega
      have hnext : spansOf (pre ++ [⟨(q, l[q]), hmem⟩]) = (l.drop q).reverse := by
        rw [spansOf_snoc, hpre, List.drop_eq_getElem_cons hq, List.reverse_cons]
      obtain ⟨fn, tmps, assign, body, hy, hR⟩ := hY pre ⟨(q, l[q]), hmem⟩ wr hJs hpl
      dsimp only [encEl] at hy
      replace hR := Lib.hid hR
      replace hnext := Lib.hid hnext
      obtain ⟨X, hX⟩ : ∃ X, l[q] = X := ⟨_, rfl⟩
      rw [hX] at hc0 hc1 hc2 hy
      obtain ⟨f, t, v⟩ := X
      simp only at hc0 hc1 hc2 hy
      replace hX := Lib.hid hX
      have e1 : ((q + 1 : Nat) : Int) - 1 = (q : Int) := by omega
      rw [e1]
      gi_wp2
      refine hR.out.mono ?_
      rintro e W3 (⟨rfl, hJ3, hk3⟩ | ⟨rfl, hJx3⟩)
      · gi_wp2
        go_roundw
        case rel => exact ⟨q, _, by omega, by go_num, hnext.out, hJ3, hnx.trans hk3⟩
        case measure => simp [intOf] <;> omega
      · gi_wp2
        refine bodyPost_ret (results_none rfl _ _ _) rfl ?_
        exact ⟨⟨_, rfl⟩, .inr ⟨_, trivial, hJx3⟩⟩

set_option maxHeartbeats 1000000 in
/-- slices.Backward(s): the slice value is boxed; the function value captures the box -/
theorem back_in (F : Fence) (n : Nat) (h43 : F.fn 43) (hro : F.round = none) (A : Option Addr) (len cap : Nat) (w : World) :
    CallsIn F n Try.prog 43 #[.slice A len cap] w fun e w' => e = .returned (.func (.func 48) #[] #[.pointer (some ⟨w.heap.size, 0, none⟩)]) ∧ w' = w.alloc (.cells #[.slice A len cap] 22) := by
  refine callsIn_of_wp Try.func43 rfl h43 ?_ hro
  simp only [Try.ntmps43, List.size_toArray, List.length_cons, List.length_nil, Nat.reduceAdd, Nat.reduceSub, Array.replicate_succ, Array.replicate_zero, List.push_toArray, List.append_toArray, List.nil_append, List.cons_append]
  gi_wp2
  go_ret
  exact ⟨rfl, rfl⟩
/-- what a range over it is handed -/
theorem back_stops (F : Fence) (n : Nat) (h48 : F.fn 48) (hro : F.round = none) (hn : 1 ≤ n) (Bs n₀ len cap : Nat) (A : Option Addr) (l : List Sp) (hlen : len = l.length) (hmax : len ≤ 1000000) (w : World) (hn₀ : n₀ ≤ w.heap.size) (hBn : Bs < w.heap.size)
    (hc : w.cell? ⟨Bs, 0, none⟩ = some (.slice A len cap)) (hl : HasS w n₀ A l) :
    SeqStopsK F n Try.prog 48 #[.pointer (some ⟨Bs, 0, none⟩)] (encEl (l := l)) (KB n₀ Bs) (fun ys => spansOf ys = l.reverse) (fun _ => True) len w := fun lp J Jx W hW _ _ hY h0 =>
  back1_in F n h48 hro hn lp Bs n₀ len cap A l hlen hmax J Jx hY W ((hW.cell (p := ⟨Bs, 0, none⟩) hBn).trans hc) (hl.below (hW.mono hn₀)) h0
end Go.Proofs.Ytojplkkmpnaibaa
