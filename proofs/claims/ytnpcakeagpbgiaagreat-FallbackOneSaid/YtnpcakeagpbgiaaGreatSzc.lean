/-
  Contract of slices.Backward at spans, in the words of a range over a function: the spans from the last to the first, each with its index. No condition.
-/
import Derived.RangeFuncNested
import Derived.RangeFuncBound
import Derived.RangeFuncCalls
import Derived.RangeFuncLeaves
import Derived.RangeFuncBox
import Derived.Shelf.Abstract
import Derived.Shelf.RegionOpen
import Derived.WalkKit
import Derived.OwnWalkIn
import Derived.TacticsInMore
import Derived.LoopNIn
import Derived.LoopIn
import Derived.Test.YtnpcakeagpbgiaaGreatZSpa
import Derived.OrdersIn
import Derived.Orders
import Derived.Deep.Quiet
import Derived.OrdersHeld
import Derived.Test.YtnpcakeagpbgiaaGreatSzb
set_option linter.unusedVariables false
set_option linter.unusedSimpArgs false
namespace Go.Proofs.YtnpcakeagpbgiaaGreat.S5
open Go.RowKit Go.Shelf

attribute [local go_sem] Oper.semAt_some

abbrev El (l : List Sp) := { x : Nat × Sp // x.2 ∈ l }
abbrev encEl {l : List Sp} (x : El l) : Array Value := #[.int .i64 (x.1.1 : Int), .agg #[.int .i64 x.1.2.f, .int .i64 x.1.2.t, .int .i64 x.1.2.v]]
def spansOf {l : List Sp} (pre : List (El l)) : List Sp := pre.map (fun x => x.1.2)
theorem spansOf_snoc {l : List Sp} (pre : List (El l)) (x : El l) : spansOf (pre ++ [x]) = spansOf pre ++ [x.1.2] := by simp [spansOf]

/-- what a round keeps: what lies below n₁, and the block Bs -/
def KB (n₁ Bs : Nat) (W W' : World) : Prop := Below n₁ W W' ∧ W'.heap[Bs]? = W.heap[Bs]?
theorem KB.refl (n₁ Bs : Nat) (W : World) : KB n₁ Bs W W := ⟨Below.refl _ _, rfl⟩
theorem KB.trans {n₁ Bs : Nat} {A B C : World} (h : KB n₁ Bs A B) (k : KB n₁ Bs B C) : KB n₁ Bs A C := ⟨h.1.trans k.1, k.2.trans h.2⟩
theorem KB.b {n₁ Bs N : Nat} (hn : n₁ ≤ N) (hB : Bs < N) (W : World) (l : Nat) (o o' : Obj) (hl : N ≤ l) (h1 : W.heap[l]? = some o) (h2 : o.isCells = false) (h3 : o.isWalk = false) : KB n₁ Bs W (W.putObj l o') :=
  ⟨(Below.refl n₁ W).grown (grownBy_putObj' W l o') (by have := (Array.getElem?_eq_some_iff.1 h1).1; omega) (fun k e => by cases e; omega), World.putObj_heap_other (fun e => by omega)⟩

set_option maxRecDepth 100000 in
set_option maxHeartbeats 4000000 in
theorem back1_in (F : Fence) (n : Nat) (h48 : F.fn 78) (hro : F.round = none) (hn : 1 ≤ n) (lp Bs n₀ len cap : Nat) (A : Option Addr) (l : List Sp) (hlen : len = l.length) (hmax : len ≤ 1000000) (J Jx : List (El l) → World → Prop)
    (hY : ∀ pre (x : El l) W, J pre W → pre.length < len → YieldAt F (n - 1) Tryz.prog lp (encEl x) W fun e W' =>
      (e = .returned (.bool true) ∧ J (pre ++ [x]) W' ∧ KB n₀ Bs W W') ∨ (e = .returned (.bool false) ∧ Jx (pre ++ [x]) W'))
    (W : World) (hBs : W.cell? ⟨Bs, 0, none⟩ = some (.slice A len cap)) (hl : HasS W n₀ A l) (h0 : J [] W) :
    CallsIn F n Tryz.prog 78 #[.func (.yield lp) #[] #[], .pointer (some ⟨Bs, 0, none⟩)] W fun e W' => (∃ v, e = .returned v) ∧
      ((∃ ys, spansOf ys = l.reverse ∧ J ys W') ∨ (∃ pre, True ∧ Jx pre W')) := by
  have HL := Lib.hid hlen
  clear hlen
  refine callsIn_of_wp Tryz.func78 rfl h48 ?_ hro
  simp only [Tryz.ntmps78, List.size_toArray, List.length_cons, List.length_nil, Nat.reduceAdd, Nat.reduceSub, Array.replicate_succ, Array.replicate_zero, List.push_toArray, List.append_toArray, List.nil_append, List.cons_append]
  gi_wp2
  gi_loopw [3] (fun i wr => ∃ (m : Nat) (pre : List (El l)), m ≤ len ∧ i = .int .i64 ((m : Int) - 1) ∧ spansOf pre = (l.drop m).reverse ∧ J pre wr ∧ KB n₀ Bs W wr)
    (fun i _ => (intOf i + 1).toNat)
  case atStart => exact ⟨len, [], Nat.le_refl _, by go_num, by rw [HL.out]; simp [spansOf], h0, KB.refl _ _ _⟩
  case round =>
    obtain ⟨m, pre, hm, rfl, hpre, hJs, hnx⟩ := hrel
    have hBx : wr.cell? ⟨Bs, 0, none⟩ = some (.slice A len cap) := (World.cell?_of_block (a := ⟨Bs, 0, none⟩) hnx.2).trans hBs
    cases m with
    | zero =>
      have hys : spansOf pre = l.reverse := by simpa using hpre
      gi_wp2
      go_end0
      exact ⟨⟨_, rfl⟩, .inl ⟨pre, hys, hJs⟩⟩
    | succ q =>
      have hq : q < l.length := by rw [← HL.out]; omega
      obtain ⟨b, off, rfl, hb, hc0, hc1, hc2⟩ := (hl.below hnx.1).at_ hq
      have hmem : l[q] ∈ l := List.getElem_mem hq
      have hpl : pre.length < len := by
        have := congrArg List.length hpre
        simp [spansOf] at this
        have := HL.out
        omega
      have hnext : spansOf (pre ++ [⟨(q, l[q]), hmem⟩]) = (l.drop q).reverse := by
        rw [spansOf_snoc, hpre, List.drop_eq_getElem_cons hq, List.reverse_cons]
      obtain ⟨fn, tmps, assign, body, hy, hR⟩ := hY pre ⟨(q, l[q]), hmem⟩ wr hJs hpl
      dsimp only [encEl] at hy
      replace hR := Lib.hid hR
      replace hnext := Lib.hid hnext
      obtain ⟨X, hX⟩ : ∃ X, l[q] = X := ⟨_, rfl⟩
      rw [hX] at hc0 hc1 hc2 hy
      obtain ⟨f, t, v⟩ := X
      simp only at hc0 hc1 hc2 hy
      replace hX := Lib.hid hX
      have e1 : ((q + 1 : Nat) : Int) - 1 = (q : Int) := by omega
      rw [e1]
      gi_wp2
      refine hR.out.mono ?_
      rintro e W3 (⟨rfl, hJ3, hk3⟩ | ⟨rfl, hJx3⟩)
      · gi_wp2
        go_roundw
        case rel => exact ⟨q, _, by omega, by go_num, hnext.out, hJ3, hnx.trans hk3⟩
        case measure => simp [intOf] <;> omega
      · gi_wp2
        refine bodyPost_ret (results_none rfl _ _ _) rfl ?_
        exact ⟨⟨_, rfl⟩, .inr ⟨_, trivial, hJx3⟩⟩

set_option maxHeartbeats 1000000 in
/-- slices.Backward(s): the slice value is boxed; the function value captures the box -/
theorem back_in (F : Fence) (n : Nat) (h43 : F.fn 57) (hro : F.round = none) (A : Option Addr) (len cap : Nat) (w : World) :
    CallsIn F n Tryz.prog 57 #[.slice A len cap] w fun e w' => e = .returned (.func (.func 78) #[] #[.pointer (some ⟨w.heap.size, 0, none⟩)]) ∧ w' = w.alloc (.cells #[.slice A len cap] 24) := by
  refine callsIn_of_wp Tryz.func57 rfl h43 ?_ hro
  simp only [Tryz.ntmps57, List.size_toArray, List.length_cons, List.length_nil, Nat.reduceAdd, Nat.reduceSub, Array.replicate_succ, Array.replicate_zero, List.push_toArray, List.append_toArray, List.nil_append, List.cons_append]
  gi_wp2
  go_ret
  exact ⟨rfl, rfl⟩
/-- what a range over it is handed -/
theorem back_stops (F : Fence) (n : Nat) (h48 : F.fn 78) (hro : F.round = none) (hn : 1 ≤ n) (Bs n₀ len cap : Nat) (A : Option Addr) (l : List Sp) (hlen : len = l.length) (hmax : len ≤ 1000000) (w : World) (hn₀ : n₀ ≤ w.heap.size) (hBn : Bs < w.heap.size)
    (hc : w.cell? ⟨Bs, 0, none⟩ = some (.slice A len cap)) (hl : HasS w n₀ A l) :
    SeqStopsK F n Tryz.prog 78 #[.pointer (some ⟨Bs, 0, none⟩)] (encEl (l := l)) (KB n₀ Bs) (fun ys => spansOf ys = l.reverse) (fun _ => True) len w := fun lp J Jx W hW _ _ hY h0 =>
  back1_in F n h48 hro hn lp Bs n₀ len cap A l hlen hmax J Jx hY W ((hW.cell (p := ⟨Bs, 0, none⟩) hBn).trans hc) (hl.below (hW.mono hn₀)) h0
end Go.Proofs.YtnpcakeagpbgiaaGreat.S5

/-
  A region that draws its order, within a round of a range over a function: by the laws of a region outside of it. No condition but that no operation defers.
-/
set_option linter.unusedVariables false
set_option linter.unusedSimpArgs false
namespace Go.Proofs.YtnpcakeagpbgiaaGreat.S5

theorem uponIn_of_upon {P : Program} {o : Oper} {a : Act} {l n : Nat} {K K' : Act → World → Prop} {Q : Exit → Act → World → Prop} {r : Result Next} (hK : ∀ a w, K a w → K' a w) (h : o.upon P a K Q r) : o.uponIn (Fence.wide.inRound l) n P a K' Q r := by
  unfold Oper.upon at h
  unfold Oper.uponIn
  split at h
  · exact hK _ _ h
  · exact hK _ _ h
  · exact hK _ _ h
  · refine ⟨fun hd => by simp [Fence.wide] at hd, ?_⟩
    have h2 := (callsIn_wide (n := n - 1)).2 h
    refine CallsIn.inRound l (h2.mono fun e w'' he => ?_)
    cases e with
    | returned v => exact hK _ _ he
    | panicked c => exact he
    | outgrown => exact he
  · refine ⟨fun hd => by simp [Fence.wide] at hd, fun c cs _ => ?_⟩
    obtain ⟨v, w', hr, hs⟩ := h c cs
    exact ⟨v, w', hK _ _ hr, stepsIn_wide.2 hs⟩
  · exact h
  · exact h.elim
theorem wpOpsIn_of_wpOps {P : Program} {ops : Array Oper} {Q : Exit → Act → World → Prop} {l n : Nat} (hd : ∀ (i : Nat) (o : Oper), ops[i]? = some o → ∀ c, o.op ≠ .defer c) (hQ : ¬ LetsOut Q) : ∀ (is : List Nat) (a : Act) (w : World), wpOps P ops Q is a w → wpOpsIn (Fence.wide.inRound l) n P ops Q is a w
  | [], a, w, h => h
  | i :: is, a, w, h => by
    have ih := wpOpsIn_of_wpOps (P := P) (l := l) (n := n) hd hQ is
    simp only [wpOps] at h
    simp only [wpOpsIn]
    cases ho : ops[i]? with
    | none =>
      simp only [ho] at h
      exact ih _ _ h
    | some o =>
      simp only [ho] at h
      by_cases hw : Region.wanted o (yielded ops a.tmps) = true
      · simp only [hw, if_true] at h ⊢
        rcases h with h | ⟨_, h⟩
        · refine ⟨fun _ _ => trivial, ?_⟩
          rw [Oper.semAt_eq _ _ _ (hd i o ho)]
          exact uponIn_of_upon (fun a w h => ih a w h) h
        · exact absurd h hQ
      · simp only [hw, if_false, Bool.false_eq_true] at h ⊢
        exact ⟨fun _ _ => trivial, ih _ _ h⟩
theorem regionIn_any {P : Program} {id : Nat} {ops : Array Oper} {Q : Exit → Act → World → Prop} {a : Act} {w : World} {l n : Nat} (hm : P.follows .mixedOrders = true) (hd : ∀ (i : Nat) (o : Oper), ops[i]? = some o → ∀ c, o.op ≠ .defer c) (hQ : ¬ LetsOut Q)
    (h : wpAny P .any ops Q ops.size (Array.replicate ops.size false) a { w with drawn := w.drawn + 1 }) : (Code.region id ops true).wpIn (Fence.wide.inRound l) n P Q a w :=
  wpIn_region_draw fun t => by
    refine wpOpsIn_of_wpOps hd hQ _ _ _ ?_
    simp only [Region.schedule, hm, Bool.true_or, if_true]
    exact wpAny_sound ops.size t _ a _ h

def noDef (ops : Array Oper) : Bool := ops.all fun o => match o.op with | .defer _ => false | _ => true
theorem noDef_spec {ops : Array Oper} (h : noDef ops = true) (i : Nat) (o : Oper) (ho : ops[i]? = some o) : ∀ c, o.op ≠ .defer c := fun c hc => by
  unfold noDef at h
  rw [Array.all_eq_true] at h
  obtain ⟨hi, he⟩ := Array.getElem?_eq_some_iff.1 ho
  have := h i hi
  rw [he, hc] at this
  cases this
/-- a region whose operations only read -/
theorem regionIn_quiet_lit {P : Program} {id : Nat} {Q : Exit → Act → World → Prop} {a : Act} {w : World} {l : List Oper} {lr n : Nat} (hm : P.follows .mixedOrders = true) (hB : Region.lexB .any l.toArray = true) (hd : noDef l.toArray = true) (hQ : ¬ LetsOut Q)
    (h : wpQuiet P l.toArray (fun w' => ∃ n, w' = w.drewN n) (fun a' => ∀ w', (∃ n, w' = w.drewN n) → Q .normal a' w') l a) : (Code.region id l.toArray true).wpIn (Fence.wide.inRound lr) n P Q a w := by
  simp only [Region.lexB, Bool.and_eq_true] at hB
  refine regionIn_any hm (noDef_spec hd) hQ (wpAny_of_quiet (C := fun w' => ∃ n, w' = w.drewN n) (Q := fun a' => ∀ w', (∃ n, w' = w.drewN n) → Q .normal a' w') (fun _ w' hw' h => h w' hw') _ _ _ _ ⟨1, rfl⟩ ?_)
  have := wpAnyQ_lex (C := fun w' => ∃ n, w' = w.drewN n) (md := .any) hB.1 l.toArray.toList 0 (Array.replicate l.toArray.size false) a (by simp) (by simpa using hB.2) (by simpa using h)
  simpa using this
/-- a region that reads what nobody in it writes -/
theorem regionIn_held {P : Program} {id : Nat} {Q : Exit → Act → World → Prop} {S : World → Prop} {a : Act} {w : World} {ops : Array Oper} {lr n : Nat} (hm : P.follows .mixedOrders = true) (hd : noDef ops = true) (hQ : ¬ LetsOut Q)
    (h : wpAnyH P .any ops Q S ops.size (Array.replicate ops.size false) a w.drew) : (Code.region id ops true).wpIn (Fence.wide.inRound lr) n P Q a w :=
  regionIn_any hm (noDef_spec hd) hQ (wpAny_of_held _ _ _ _ h)
end Go.Proofs.YtnpcakeagpbgiaaGreat.S5

/-
  Contract of the program's bare: the first cell that is not passed over. No condition.
-/
set_option linter.unusedVariables false
set_option linter.unusedSimpArgs false
namespace Go.Proofs.YtnpcakeagpbgiaaGreat.S5
open Go.ChangeShapes Go.WideShapes Go.ChangeAt Go.RowKit

/-- of all blocks only g has turned, cell by cell -/
structure Only (g : Nat) (w w' : World) : Prop where
  keeps : KeepsOthers w w'
  below : Below g w w'
  size : w'.heap.size = w.heap.size
  other : ∀ b, b ≠ g → w'.heap[b]? = w.heap[b]?
theorem Only.refl (g : Nat) (w : World) : Only g w w := ⟨KeepsOthers.refl _, Below.refl _ _, rfl, fun _ _ => rfl⟩
theorem Only.trans {g : Nat} {a b c : World} (h : Only g a b) (k : Only g b c) : Only g a c :=
  ⟨h.keeps.trans k.keeps, h.below.trans k.below, k.size.trans h.size, fun x hx => (k.other x hx).trans (h.other x hx)⟩
theorem Only.setCell {g : Nat} {a b : World} (h : Only g a b) (j : Nat) (v : Value) : Only g a (b.setCell ⟨g, j, none⟩ v) :=
  ⟨h.keeps.trans (KeepsOthers.setCell _ _ _), h.below.setCell (p := ⟨g, j, none⟩) (Nat.le_refl _) _, by rw [← h.size]; simp, fun x hx => (Below.heap_setCell _ _ _ _ hx).trans (h.other x hx)⟩

set_option maxHeartbeats 2000000 in
theorem bare_ok (B : Nat) (g cap n : Nat) (nx : List Int) (dn : Nat → Bool) (c : Nat) (w : World) (hown : Mine .i64 3 w B (.slice (some ⟨g, 0, none⟩) n cap) nx) (hI : Inv nx dn n) (hlast : ∀ j, j < n → dn j = true → j + 1 < n) (hc : c < n) (hn : n ≤ 1000000) :
    Calls Tryz.prog 59 #[.slice (some ⟨g, 0, none⟩) n cap, .int .i64 c] w fun e w' => ∃ (r : Nat) (nx' : List Int), e = .returned (.int .i64 r) ∧ c ≤ r ∧ r < n ∧ dn r = false ∧ (∀ j, c ≤ j → j < r → dn j = true) ∧
      Mine .i64 3 w' B (.slice (some ⟨g, 0, none⟩) n cap) nx' ∧ Inv nx' dn n ∧ Only g w w' := by
  have HI := Lib.hid hI
  clear hI
  go_enter Tryz.func59, Tryz.ntmps59
  go_wp2
  go_loopw [1] (fun v wr => ∃ (k : Nat) (nx' : List Int), v = .int .i64 k ∧ c ≤ k ∧ k < n ∧ Hid (∀ j, c ≤ j → j < k → dn j = true) ∧ Mine .i64 3 wr B (.slice (some ⟨g, 0, none⟩) n cap) nx' ∧ Hid (Inv nx' dn n) ∧ Hid (Only g w wr)) (fun v _ => n - (intOf v).toNat)
  case atStart => exact ⟨c, nx, rfl, Nat.le_refl _, hc, Lib.hid (fun j h1 h2 => absurd h1 (by omega)), hown, HI, Lib.hid (Only.refl _ _)⟩
  case round =>
    clear hown HI
    obtain ⟨k, nx', rfl, hck, hkn, HD, hown, HI, HO⟩ := hrel
    obtain ⟨k1, a1, a2, a3, a4, a5⟩ := HI.out.at_ hkn
    have hne : nx' ≠ [] := fun h => by have := HI.out.1; rw [h] at this; simp at this; omega
    obtain ⟨g', c', hv, hg1, hg2, hcell⟩ := hown.form hne
    injection hv with hv1 hv2 hv3
    injection hv1 with hv1
    injection hv1 with hv1
    subst hv1
    have hfz := hown.free k
    have hcs := hcell k _ a1
    by_cases he : k1 = k
    · subst he
      have hd := a4.1 rfl
      replace hown := Lib.hid hown
      replace hd := Lib.hid hd
      clear a1 a4 a5 hne hcell hv2 hv3
      go_wp2
      go_ret
      exact ⟨k1, rfl, hck, hkn, hd.out, HD.out, nx', hown.out, HI.out, HO.out⟩
    · obtain ⟨k2, b1, b2, b3, b4, b5⟩ := HI.out.at_ a3
      have hd : dn k = true := by
        cases hd : dn k with
        | true => rfl
        | false => exact absurd (a4.2 hd) he
      obtain ⟨hI2, d1, d2, d3⟩ := HI.out.halve hkn hd a1 b1 a3
      have hcs2 := hcell k1 _ b1
      have hset := Lib.hid (Mine.set hown k (by rw [HI.out.1]; exact hkn) k2)
      have HI2 := Lib.hid hI2
      have HD2 : Hid (∀ j, c ≤ j → j < k2 → dn j = true) := Lib.hid (fun j h1 h2 => by
        rcases Nat.lt_or_ge j k with hj | hj
        · exact HD.out j h1 hj
        · exact d3 j hj h2)
      have HO2 := Lib.hid (HO.out.setCell k (.int .i64 k2))
      have hne2 : ((k1 : Int) != (k : Int)) = true := by simp; omega
      have hk12 : k < k1 := by omega
      clear a1 a4 a5 b1 b4 b5 hne hcell hv2 hv3 hd hI2 d3 HI HD HO hown he
      go_wp2
      go_roundw
      case rel => exact ⟨k2, _, rfl, by omega, d2, HD2, hset.out, HI2, HO2⟩
      case measure => simp [intOf]; omega
end Go.Proofs.YtnpcakeagpbgiaaGreat.S5
