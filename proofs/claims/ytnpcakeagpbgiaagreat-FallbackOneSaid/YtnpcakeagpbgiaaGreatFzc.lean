/-
  A range over a function that hands out a known number of elements, counted (as weak/XWkr). slices.Values at code points; slices.AppendSeq, Collect over it: a list of the call's own with the same elements. Condition: at most 1000000 elements.
-/
import Derived.RangeFuncNested
import Derived.RangeFuncBound
import Derived.RangeFuncCalls
import Derived.RangeFuncLeaves
import Derived.RangeFuncBox
import Derived.Shelf.RegionOpen
import Derived.WalkKit
import Derived.OwnWalkIn
import Derived.TacticsInMore
import Derived.LoopNIn
import Derived.LoopIn
import Derived.Test.YtnpcakeagpbgiaaGreatZOwn
import Derived.Test.YtnpcakeagpbgiaaGreatFza
set_option linter.unusedVariables false
set_option linter.unusedSimpArgs false
namespace Go.Proofs.YtnpcakeagpbgiaaGreat
open Go.RowKit Go.Shelf
attribute [local go_sem] Oper.semAt_some

/-- the end of a counted round: fallen off, nothing but cells turned, the next count's state -/
def RoundEnd (I : Nat → World → Prop) (k : Nat) (W : World) : Exit → Act → World → Prop
  | .normal, _, W' => KeepsOthers W W' ∧ I (k + 1) W'
  | _, _, _ => False

theorem range_counted {F : Fence} {n : Nat} {P : Program} {g : Operand} {ps : Array Tmp} {assign body : Code} {Q : Exit → Act → World → Prop} {a : Act} {w : World}
    (hro : F.round = none) (h1 : 1 ≤ n) {gf : Nat} {lb : Array Value} (hg : a.eval g = .func (.func gf) #[] lb) (hFg : F.fn gf) (eg : ∀ args w, (callFunc gf args).run P w = .ok (.enter gf args) w)
    (N : Nat) (encs : Nat → Array Value) (hps : ∀ k, (encs k).size = ps.size) (I : Nat → World → Prop) (hI : OwnFrom w.heap.size I) (h0 : I 0 w) (a₁ : Nat → Act)
    (hseq : ∀ (l : Nat) (J : Nat → World → Prop) (W : World), (∀ k W, J k W → I k W) →
      (∀ k W1, k < N → J k W1 → YieldAt F (n - 1 - 1) P l (encs k) W1 fun e W' => e = .returned (.bool true) ∧ J (k + 1) W') → J 0 W →
      CallsIn F (n - 1) P gf (#[.func (.yield l) #[] #[]] ++ lb) W fun e W' => (∃ v, e = .returned v) ∧ J N W')
    (hassign : ∀ (l k : Nat) (W : World) (K : Act → World → Prop), K (a₁ k) W →
      assign.wpIn (F.inRound l) (n - 1 - 1) P (Exit.then K (fun _ _ _ => False)) { tmps := (ps.zip (encs k)).foldl (fun t (p, v) => t.setIfInBounds p v) a.tmps, defers := [] } W)
    (hbody : ∀ (l k : Nat) (W : World), k < N → I k W → body.wpIn (F.inRound l) (n - 1 - 1) P (RoundEnd I k W) (a₁ k) W)
    (hdone : ∀ (D : Nat) (W : World), w.heap.size ≤ D → I N W → W.heap[D]? = some (.deferred (some [])) → Q .normal { a with defers := { target := .collected D, args := #[] } :: a.defers } W) :
    (Code.rangeFunc g ps assign body).wpIn F n P Q a w := by
  refine wpIn_rangeFunc fun fn hfn => ?_
  rw [hro]
  obtain ⟨mk, hmk⟩ : ∃ mk : LoopState → Loop, mk = fun st => { state := st, pending := none, fn, tmps := a.tmps, params := ps, assign, body, defers := w.heap.size } := ⟨_, rfl⟩
  obtain ⟨lp, hlp⟩ : ∃ lp, lp = w.heap.size + 1 := ⟨_, rfl⟩
  obtain ⟨W1, hW1⟩ : ∃ W1, W1 = (w.alloc (.deferred (some []))).alloc (.loop (mk .ready)) := ⟨_, rfl⟩
  have hD : W1.heap[w.heap.size]? = some (.deferred (some [])) := by
    rw [hW1, Below.heap_alloc _ _ _ (by simp)]; exact World.alloc_heap_new w _
  have hL : W1.heap[lp]? = some (.loop (mk .ready)) := by
    have := World.alloc_heap_new (w.alloc (.deferred (some []))) (.loop (mk .ready))
    rw [World.size_alloc] at this
    rw [hW1, hlp]; exact this
  have hJ0 : I 0 W1 := by rw [hW1]; exact hI.alloc _ (hI.alloc _ h0)
  have key := hseq lp (fun k W => I k W ∧ W.heap[lp]? = some (.loop (mk .ready)) ∧ W.heap[w.heap.size]? = some (.deferred (some []))) W1 (fun k W h => h.1) ?_ ⟨hJ0, hL, hD⟩
  · refine ⟨lp, [{ target := .collected w.heap.size, args := #[] }], W1, { target := .fn (.func gf) lb, args := #[.func (.yield lp) #[] #[]] }, W1, gf, #[.func (.yield lp) #[] #[]] ++ lb, W1, ?_, ?_, ?_, ?_, fun _ => h1, ?_⟩
    · rw [hW1, hlp, hmk]; exact run_enterLoop_outer _ _ _ _ _
    · simp only [resolve, hg]
      simp [go_sem]
    · intro f hf
      simp [Target.leads] at hf
      subst hf; exact hFg
    · simp [invoke, go_sem, eg]
    · refine key.mono ?_
      rintro e W2 ⟨⟨v, rfl⟩, hi, hl, hd⟩
      have hr := run_endLoop (P := P) hl (by rw [hmk]; simp)
      rw [hmk] at hr
      exact ⟨none, _, hr, hdone _ _ (Nat.le_refl _) (hI.putObj _ hi (by omega) hl rfl) ((World.putObj_heap_other (by omega)).trans hd)⟩
  · rintro k W hk ⟨hi, hl, hd⟩
    have hy := run_yield (P := P) (args := encs k) hl (by rw [hmk]; exact hps k)
    rw [hmk] at hy
    have hlt : lp < W.heap.size := (Array.getElem?_eq_some_iff.1 hl).1
    refine ⟨fn, _, assign, body, hy, roundIn_of_wpIn hfn (hassign _ k W _ ⟨_, run_beginRound hl (by rw [hmk]), ?_⟩)⟩
    have hb1 := World.putObj_heap_same (w := W) (o := .loop { mk .ready with state := .busy }) hlt
    have hb2 := (World.putObj_heap_other (w := W) (o := .loop { mk .ready with state := .busy }) (show w.heap.size ≠ lp by omega)).trans hd
    refine wpIn_mono (hbody _ k _ hk (hI.putObj _ hi (by omega) hl rfl)) ?_
    rintro e a3 W3 hp
    cases e with
    | normal =>
      obtain ⟨hk3, hi3⟩ := hp
      have hl3 := hk3.same _ _ hb1 rfl
      have hd3 := hk3.same _ _ hb2 rfl
      have hr := run_endRound (P := P) none hl3
      have hlt3 := (Array.getElem?_eq_some_iff.1 hl3).1
      rw [hmk] at hr hl3 ⊢
      exact ⟨_, _, hr, rfl, hI.putObj _ hi3 (by omega) hl3 rfl, World.putObj_heap_same hlt3, (World.putObj_heap_other (by omega)).trans hd3⟩
    | ret => exact hp.elim
    | exit id => exact hp.elim
    | goto t => exact hp.elim
    | panic ch => exact hp.elim
    | outgrown => exact hp.elim


theorem fullR : (Tryz.prog.info? 21).map (fun i => (i.zero, i.size, i.bytes)) = some (some (.int .i32 0), 1, 4) := by kernel_rfl
/-- what AppendSeq holds when k rounds have run -/
def ApS (w : World) (gb gs d : Nat) (A : Option Addr) (n : Nat) (t : List Int) (k : Nat) (W : World) : Prop :=
  (Boxed W gb 23 (.slice A n d) ∧ ∃ v, Boxed W gs 23 v ∧ W.ownsRow w.heap.size 21 1 v (t.take k).length ((t.take k).map (Value.int .i32)) ∧ True) ∧ Below w.heap.size w W
theorem aps_own (w : World) (gb gs d : Nat) (A : Option Addr) (n : Nat) (t : List Int) (N : Nat) (hN : w.heap.size ≤ N) : OwnFrom N (ApS w gb gs d A n t) :=
  OwnFrom.and (OwnFrom.and (Own.from (fun s W W' row hs hg hr => hs.kept hg fun e => by
      obtain ⟨o, ho, hc⟩ := hr _ e.symm
      rw [show W.heap[gb]? = _ from hs] at ho
      cases ho; cases hc) _) (Own.from (holdsRow_own w.heap.size gs 23 21 1 (fun k => (t.take k).length) (fun k => (t.take k).map (Value.int .i32)) (fun _ _ => True)) _)) (ownFrom_below (Nat.le_refl _) hN)
set_option maxRecDepth 100000 in
set_option maxHeartbeats 4000000 in
/-- slices.Values' function value -/
theorem values_counted (F : Fence) (n : Nat) (hF : F.fn 52) (hro : F.round = none) (hn : 1 ≤ n) (lp gb N cap : Nat) (A : Option Addr) (hmax : N ≤ 1000000) (x : Nat → Int) (J : Nat → World → Prop)
    (hR : ∀ k W, k < N → J k W → ∃ b off, A = some ⟨b, off, none⟩ ∧ W.cell? ⟨b, off + k, none⟩ = some (.int .i32 (x k)))
    (hY : ∀ k W1, k < N → J k W1 → YieldAt F (n - 1) Tryz.prog lp #[.int .i32 (x k)] W1 fun e W' => e = .returned (.bool true) ∧ J (k + 1) W')
    (W : World) (hB0 : W.cell? ⟨gb, 0, none⟩ = some (.slice A N cap)) (h0 : J 0 W) :
    CallsIn F n Tryz.prog 52 #[.func (.yield lp) #[] #[], .pointer (some ⟨gb, 0, none⟩)] W fun e W' => (∃ v, e = .returned v) ∧ J N W' := by
  refine callsIn_of_wp Tryz.func52 rfl hF ?_ hro
  simp only [Tryz.ntmps52, List.size_toArray, List.length_cons, List.length_nil, Nat.reduceAdd, Nat.reduceSub, Array.replicate_succ, Array.replicate_zero, List.push_toArray, List.append_toArray, List.nil_append, List.cons_append]
  gi_wp2
  gi_loopw [7] (fun i wr => ∃ (k : Nat), k ≤ N ∧ i = .int .i64 k ∧ J k wr) (fun i _ => N - (intOf i).toNat)
  case atStart => exact ⟨0, Nat.zero_le _, rfl, h0⟩
  case round =>
    obtain ⟨k, hk, rfl, hJ⟩ := hrel
    by_cases hlt : k < N
    · obtain ⟨b, off, hA, hc⟩ := hR k _ hlt hJ
      subst hA
      obtain ⟨fn, tmps, assign, body, hy, hRo⟩ := hY k _ hlt hJ
      replace hRo := Lib.hid hRo
      generalize x k = X at hc hy
      clear hJ hB0
      gi_wp2
      refine hRo.out.mono ?_
      rintro e W3 ⟨rfl, hJ3⟩
      gi_wp2
      go_roundw
      case rel => exact ⟨k + 1, by omega, by go_num, hJ3⟩
      case measure => simp [intOf] <;> omega
    · obtain rfl : k = N := by omega
      gi_wp2
      go_end0
      exact ⟨⟨_, rfl⟩, hJ⟩
set_option maxHeartbeats 1000000 in
theorem values_ok (A : Option Addr) (len cap : Nat) (w : World) :
    Calls Tryz.prog 29 #[.slice A len cap] w fun e w' => e = .returned (.func (.func 52) #[] #[.pointer (some ⟨w.heap.size, 0, none⟩)]) ∧ w' = w.alloc (.cells #[.slice A len cap] 23) := by
  go_enter Tryz.func29, Tryz.ntmps29
  go_wp2
  go_ret
  exact ⟨rfl, rfl⟩
set_option maxRecDepth 100000 in
set_option maxHeartbeats 4000000 in
theorem appendSeq_ok (gb d n : Nat) (A : Option Addr) (t : List Int) (w : World) (hn : n = t.length) (hmax : n ≤ 1000000) (hb : Boxed w gb 23 (.slice A n d)) (h : Has w w.heap.size A (t.map (Value.int .i32))) :
    Calls Tryz.prog 67 #[.slice none 0 0, .func (.func 52) #[] #[.pointer (some ⟨gb, 0, none⟩)]] w fun e w' => ∃ v, e = .returned v ∧ Mine .i32 21 w' w.heap.size v t ∧ Below w.heap.size w w' := by
  have HH := Lib.hid (fun (W : World) (hb : Below w.heap.size w W) => h.below hb)
  have HN := Lib.hid hn
  have hgb := hb.lt
  have hx := Boxed.new w 23 (.slice none 0 0)
  have hbx := hb.alloc (.cells #[.slice none 0 0] 23)
  have hup : Below w.heap.size w (w.alloc (.cells #[.slice none 0 0] 23)) := (Below.refl _ _).alloc (Nat.le_refl _) _
  have hrw : (w.alloc (.cells #[.slice none 0 0] 23)).ownsRow w.heap.size 21 1 (.slice none 0 0) (t.take 0).length ((t.take 0).map (Value.int .i32)) := World.ownsRow_nil _ _ _ _
  have hsz : (w.alloc (.cells #[.slice none 0 0] 23)).heap.size = w.heap.size + 1 := by simp
  clear h hn hb
  refine callsIn_wide.1 (callsIn_of_wp_marks (F := Fence.wide) (n := 10) Tryz.func67 rfl trivial (wpIn_wide.2 ?_) rfl)
  simp only [Tryz.ntmps67, List.size_toArray, List.length_cons, List.length_nil, Nat.reduceAdd, Nat.reduceSub, Array.replicate_succ, Array.replicate_zero, List.push_toArray, List.append_toArray, List.nil_append, List.cons_append]
  go_wp2
  have h0 : ApS w gb w.heap.size d A n t 0 (w.alloc (.cells #[.slice none 0 0] 23)) := ⟨⟨hbx, _, hx, hrw, trivial⟩, hup⟩
  obtain ⟨gs, hgs⟩ : ∃ gs, w.heap.size = gs := ⟨_, rfl⟩
  generalize w.alloc (.cells #[.slice none 0 0] 23) = W1 at *
  have HGS := Lib.hid hgs
  rw [hgs] at h0 hsz hgb
  rw [hgs]
  clear hx hbx hup hrw hgs
  refine (wpIn_wide (n := 8)).1 ?_
  refine range_counted (F := Fence.wide) (n := 8) rfl (by omega) (gf := 52) (lb := #[.pointer (some ⟨gb, 0, none⟩)]) rfl trivial (enters_of Tryz.func52 (by kernel_rfl) rfl)
    n (fun j => #[.int .i32 (t.getD j 0)]) (fun _ => rfl) (ApS w gb gs d A n t) (aps_own w gb gs d A n t _ (by have := HGS.out; omega)) h0 ?_ ?seq ?assign ?body ?done
  case assign =>
    intro lp j W K hK
    gi_wp2
    exact hK
  case seq =>
    intro lp J W hJ hY h0
    refine values_counted Fence.wide 7 trivial rfl (by omega) lp gb n d A hmax (fun j => t.getD j 0) J (fun j W1 hj hJ1 => ?_) hY W (hJ _ _ h0).1.1.cell h0
    have hj2 : j < t.length := by rw [← HN.out]; exact hj
    obtain ⟨b, off, hA, _, hc⟩ := (HH.out W1 (hJ _ _ hJ1).2).at_int hj2
    exact ⟨b, off, hA, by rw [hc, List.getD_eq_getElem?_getD, List.getElem?_eq_getElem hj2]; rfl⟩
  case body =>
    intro lp j W hj hT
    obtain ⟨⟨h1, v, h2, h3, _⟩, h4⟩ := hT
    have hj2 : j < t.length := by rw [← HN.out]; exact hj
    have hx : t[j]?.getD 0 = t[j] := by rw [List.getElem?_eq_getElem hj2]; rfl
    have hsnoc : t.take (j + 1) = t.take j ++ [t[j]] := by rw [List.take_add_one, List.getElem?_eq_getElem hj2]; rfl
    rw [hx]
    obtain ⟨X, hX⟩ : ∃ X, t[j] = X := ⟨_, rfl⟩
    rw [hX] at hsnoc ⊢
    have hlen : (t.take j).length = j := by rw [List.length_take]; omega
    rw [hlen] at h3
    have hlen2 : (t.take (j + 1)).length = j + 1 := by rw [List.length_take]; omega
    have hgsw : w.heap.size ≤ gs := by have := HGS.out; omega
    have c2 := h2.cell
    have f2 := h2.frozen
    have hne : gb ≠ gs := by omega
    obtain ⟨i0, hi', hz0, hz1, hz2⟩ := info_parts fullR
    have HFIN := Lib.hid (fun (v' : Value) (w1 : World) (hown' : w1.ownsRow w.heap.size 21 1 v' (j + 1) ((t.take j).map (Value.int .i32) ++ [.int .i32 X])) (hgrow : (W.alloc (.cells #[.int .i32 X] 21)).grownBy w1 v.ownBlock) => by
      obtain ⟨q1, q2, q3, q4, q5⟩ := Boxed.appended h2 (by decide) h3 h4.size hgsw hown' hgrow
      have q6 : Boxed w1 gb 23 (.slice A n d) := (h1.alloc _).kept hgrow (h1.not_row (by decide) h3)
      have q7 : Boxed (w1.setCell ⟨gs, 0, none⟩ v') gb 23 (.slice A n d) := by
        unfold Boxed at q6 ⊢
        rw [Below.heap_setCell _ _ _ _ hne]
        exact q6
      exact (⟨⟨q1.cell, q1.frozen⟩, q4, ⟨⟨q7, v', q2, by rw [hlen2, hsnoc, List.map_append]; exact q3, trivial⟩, h4.trans q5⟩⟩ : (w1.cell? ⟨gs, 0, none⟩ = some v ∧ w1.frozen? ⟨gs, 0, none⟩ = false) ∧ KeepsOthers W (w1.setCell ⟨gs, 0, none⟩ v') ∧ ApS w gb gs d A n t (j + 1) (w1.setCell ⟨gs, 0, none⟩ v')))
    have HW := Lib.hid (And.intro h4.size hlen)
    clear hsnoc hX hx h1 h2 h4 hlen hlen2 hj2
    gi_wp2_with (first
      | (gi_at_builtin; refine wpListIn_append_own _ rfl _ _ 23 rfl w.heap.size 21 i0 (.int .i32 0) 1 4 Tryz.underlying23 hi' hz0 hz1 hz2 rfl (by decide) v _ _ rfl (h3.alloc _) ⟨W.heap.size, 0, none⟩ 1 1 [.int .i32 X] rfl rfl (push_cell _ _ _) (by intro u hu; simp at hu; subst hu; rfl) (by have := HW.out; unfold maxLen; omega) (by have := HW.out; omega) (by have := HW.out; simp; omega) ?_; intro v' w1 hown' hgrow _; obtain ⟨⟨cc, ff⟩, hk4, hap⟩ := HFIN.out v' w1 hown' hgrow; obtain ⟨g', cap', rfl⟩ := ownsRow_succ hown'))
    exact ⟨hk4, hap⟩
  case done =>
    intro D W hD hT hK
    obtain ⟨⟨h1, v, h2, h3, _⟩, h4⟩ := hT
    rw [HN.out, List.take_length] at h3
    have c2 := h2.cell
    have HM := Lib.hid (And.intro (ownsRow_putObj h3 (.deferred none) hK rfl) (h4.trans (belowK_b (w := w) (n₀ := w.heap.size) (Nat.le_refl _) W D _ (.deferred none) (by have := HGS.out; omega) hK rfl rfl)))
    have HK := Lib.hid hK
    clear h1 h2 h3 h4 hK
    go_wp2
    refine ⟨by simp, .inl ⟨_, _, rfl, run_takeDeferred HK.out, ?_⟩⟩
    exact ⟨v, results_tmp Tryz.results67 _ _ _, v, rfl, HM.out.1, HM.out.2⟩
theorem collect_ok (gb d n : Nat) (A : Option Addr) (t : List Int) (w : World) (hn : n = t.length) (hmax : n ≤ 1000000) (hb : Boxed w gb 23 (.slice A n d)) (h : Has w w.heap.size A (t.map (Value.int .i32))) :
    Calls Tryz.prog 50 #[.func (.func 52) #[] #[.pointer (some ⟨gb, 0, none⟩)]] w fun e w' => ∃ v, e = .returned v ∧ Mine .i32 21 w' w.heap.size v t ∧ Below w.heap.size w w' := by
  have HC := Lib.hid (appendSeq_ok gb d n A t w hn hmax hb h)
  clear hn hb h
  go_enter Tryz.func50, Tryz.ntmps50
  go_wp2_with (go_at_call 67; (with_reducible refine HC.out.mono ?_); rintro e u ⟨v, rfl, hv, hb⟩)
  go_ret
  exact ⟨v, rfl, hv, hb⟩
end Go.Proofs.YtnpcakeagpbgiaaGreat

/-
  Code points in a slice of the call's own that a sort puts in another order: 'PS D ..' says that the slice holds D's elements in some order and that nothing else has turned. The library's insertion sort, siftDown, reverseRange at code points: each leaves the elements that there were. Condition: at most 1000000 elements.
-/
set_option linter.unusedVariables false
set_option linter.unusedSimpArgs false
namespace Go.Proofs.YtnpcakeagpbgiaaGreat
open Go.ChangeShapes Go.WideShapes Go.ChangeAt Go.RowKit Go.Sort

/-- D's elements in some order, in the block g; of what there was in w that block alone has turned -/
def PS (D : List Int) (w : World) (B g n c : Nat) (W : World) : Prop := ∃ L, L.Perm D ∧ n = L.length ∧ Mine .i32 21 W B (.slice (some ⟨g, 0, none⟩) n c) L ∧ Off g w W
section
variable {D : List Int} {w : World} {B g n c : Nat} {W W' : World}
theorem PS.start (h : Mine .i32 21 w B (.slice (some ⟨g, 0, none⟩) n c) D) (hn : n = D.length) : PS D w B g n c w := ⟨D, List.Perm.refl _, hn, h, Off.refl _ _⟩
theorem PS.drew (h : PS D w B g n c W) : PS D w B g n c W.drew := by
  obtain ⟨L, h1, h2, h3, h4⟩ := h
  exact ⟨L, h1, h2, h3, h4.drew⟩
theorem PS.drewN (h : PS D w B g n c W) (k : Nat) : PS D w B g n c (W.drewN k) := by
  obtain ⟨L, h1, h2, h3, h4⟩ := h
  exact ⟨L, h1, h2, h3, h4.drewN k⟩
theorem PS.up (h : PS D w B g n c W) (hu : Up W W') : PS D w B g n c W' := by
  obtain ⟨L, h1, h2, h3, h4⟩ := h
  exact ⟨L, h1, h2, h3.up hu, h4.trans (Off.of_up hu)⟩
theorem PS.lt (h : PS D w B g n c W) : g < W.heap.size := by
  obtain ⟨L, h1, h2, h3, h4⟩ := h
  exact (h3.own_lt g rfl).2
/-- another block that the call has laid turns -/
theorem PS.other (h : PS D w B g n c W) {p : Addr} (hp : w.heap.size ≤ p.block) (hg : p.block ≠ g) (v : Value) : PS D w B g n c (W.setCell p v) := by
  obtain ⟨L, h1, h2, h3, h4⟩ := h
  refine ⟨L, h1, h2, h3.stays fun b hb _ => Below.heap_setCell _ _ _ _ (fun e => hg (by have e2 : some g = some b := hb; injection e2 with e2; rw [e2]; exact e.symm)), ⟨h4.os, h4.tape, h4.output, by simpa using h4.size, fun x hx hne => ?_, h4.drawn⟩⟩
  rw [Below.heap_setCell _ _ _ _ (by omega)]
  exact h4.block x hx hne
theorem PS.cell (h : PS D w B g n c W) {i : Nat} (hi : i < n) : ∃ x : Int, W.cell? ⟨g, i, none⟩ = some (.int .i32 x) := by
  obtain ⟨L, h1, h2, h3, h4⟩ := h
  exact ⟨_, h3.cellAt i (by omega)⟩
theorem PS.free (h : PS D w B g n c W) (i : Nat) : W.frozen? ⟨g, i, none⟩ = false := by
  obtain ⟨L, h1, h2, h3, h4⟩ := h
  exact h3.free i
theorem perm_swap : ∀ (L : List Int) (i j : Nat) (hi : i < L.length) (hj : j < L.length), i < j → ((L.set i L[j]).set j L[i]).Perm L := fun L i j hi hj hij => by
  refine List.perm_iff_count.2 fun a => ?_
  have h1 : (L.set i L[j]).count a = L.count a - (if L[i] == a then 1 else 0) + (if L[j] == a then 1 else 0) := List.count_set hi
  have h2 : ((L.set i L[j]).set j L[i]).count a = (L.set i L[j]).count a - (if (L.set i L[j])[j]'(by simpa using hj) == a then 1 else 0) + (if L[i] == a then 1 else 0) := List.count_set (by simpa using hj)
  rw [List.getElem_set_ne (by omega)] at h2
  rw [h2, h1]
  have h3 : (if L[i] == a then 1 else 0) ≤ L.count a := by
    split
    · next e => exact List.count_pos_iff.2 (by have := List.getElem_mem hi; rwa [eq_of_beq e] at this)
    · omega
  omega
/-- an exchange of two places, which may be one and the same -/
theorem PS.exch (h : PS D w B g n c W) {i j : Nat} (hi : i < n) (hj : j < n) : ∃ x y : Int, (W.cell? ⟨g, i, none⟩ = some (.int .i32 x) ∧ W.cell? ⟨g, j, none⟩ = some (.int .i32 y)) ∧ (W.frozen? ⟨g, i, none⟩ = false ∧ W.frozen? ⟨g, j, none⟩ = false) ∧
    ((W.setCell ⟨g, i, none⟩ (.int .i32 y)).drew.cell? ⟨g, j, none⟩ = some (.int .i32 y) ∧ (W.setCell ⟨g, i, none⟩ (.int .i32 y)).drew.frozen? ⟨g, j, none⟩ = false) ∧ PS D w B g n c ((W.setCell ⟨g, i, none⟩ (.int .i32 y)).setCell ⟨g, j, none⟩ (.int .i32 x)).drew := by
  obtain ⟨L, h1, h2, h3, h4⟩ := h
  have hi' : i < L.length := by omega
  have hj' : j < L.length := by omega
  have hs := h3.set i hi' L[j]
  have hs2 := hs.set j (by simpa using hj') L[i]
  have hc := hs.cellAt j (by simpa using hj')
  refine ⟨L[i], L[j], ⟨h3.cellAt i hi', h3.cellAt j hj'⟩, ⟨h3.free i, h3.free j⟩, ⟨?_, hs.free j⟩, _, ?_, by simpa using h2, hs2, ((h4.set i _).set j _).drew⟩
  · rw [show ((L.set i L[j])[j]'(by simpa using hj')) = L[j] by rw [List.getElem_set]; split <;> rfl] at hc
    exact hc
  · rcases Nat.lt_trichotomy i j with h | h | h
    · exact (perm_swap L i j hi' hj' h).trans h1
    · subst h
      rw [List.set_set, List.set_getElem_self]
      exact h1
    · rw [List.set_comm _ _ (by omega)]
      exact (perm_swap L j i hj' hi' h).trans h1
/-- the same, the cells known -/
theorem PS.exch2 (h : PS D w B g n c W) {i j : Nat} (hi : i < n) (hj : j < n) {x y : Int} (hx : W.cell? ⟨g, i, none⟩ = some (.int .i32 x)) (hy : W.cell? ⟨g, j, none⟩ = some (.int .i32 y)) : (W.frozen? ⟨g, i, none⟩ = false ∧ W.frozen? ⟨g, j, none⟩ = false) ∧
    ((W.setCell ⟨g, i, none⟩ (.int .i32 y)).drew.cell? ⟨g, j, none⟩ = some (.int .i32 y) ∧ (W.setCell ⟨g, i, none⟩ (.int .i32 y)).drew.frozen? ⟨g, j, none⟩ = false) ∧ PS D w B g n c ((W.setCell ⟨g, i, none⟩ (.int .i32 y)).setCell ⟨g, j, none⟩ (.int .i32 x)).drew := by
  obtain ⟨x', y', ⟨h1, h2⟩, h3⟩ := h.exch hi hj
  rw [hx] at h1
  rw [hy] at h2
  injection h1 with h1; injection h1 with _ h1
  injection h2 with h2; injection h2 with _ h2
  subst h1; subst h2
  exact h3
end
theorem lessV_ok (x y : Int) (w : World) : Calls Tryz.prog 95 #[.int .i32 x, .int .i32 y] w fun e w' => e = .returned (.bool (decide (x < y))) ∧ w = w' := by
  by_cases h : x < y
  · have e : decide (x < y) = true := decide_eq_true h
    rw [e]; clear e
    go_enter Tryz.func95, Tryz.ntmps95
    go_wp2
    go_ret
    exact ⟨rfl, rfl⟩
  · have e : decide (x < y) = false := decide_eq_false h
    rw [e]; clear e
    go_enter Tryz.func95, Tryz.ntmps95
    go_wp2
    go_ret
    exact ⟨rfl, rfl⟩
theorem less_ok (x y : Int) (w : World) : Calls Tryz.prog 95 #[.int .i32 x, .int .i32 y] w fun e w' => (∃ b : Bool, e = .returned (.bool b)) ∧ w = w' := by
  refine (lessV_ok x y w).mono ?_
  rintro e w' ⟨rfl, rfl⟩
  exact ⟨⟨_, rfl⟩, rfl⟩

set_option maxRecDepth 20000 in
set_option maxHeartbeats 4000000 in
theorem insertI_ok (D : List Int) (w0 : World) (B g n c a b : Nat) (w : World) (h : PS D w0 B g n c w) (hmax : n ≤ 1000000) (hab : a ≤ b) (hb : b ≤ n) :
    Calls Tryz.prog 89 #[.slice (some ⟨g, 0, none⟩) n c, .int .i64 a, .int .i64 b] w fun e w' => e = .returned (.tuple #[]) ∧ PS D w0 B g n c w' := by
  have H0 := Lib.hid h
  have HLe := Lib.hid (fun x y W => less_ok x y W)
  clear h
  go_enter Tryz.func89, Tryz.ntmps89
  go_wp2
  go_loopw [6] (fun u wr => ∃ i : Nat, (a < i ∧ i ≤ b + 1) ∧ u = .int .i64 i ∧ Hid (PS D w0 B g n c wr)) (fun u _ => b + 1 - (intOf u).toNat)
  case atStart => exact ⟨a + 1, by omega, by go_num, H0⟩
  case round =>
    clear H0
    obtain ⟨i, ⟨hai, hib⟩, rfl, HM⟩ := hrel
    by_cases hlt : i < b
    · go_wp2
      go_loopw [7] (fun u wq => ∃ j : Nat, (a ≤ j ∧ j ≤ i) ∧ u = .int .i64 j ∧ Hid (PS D w0 B g n c wq)) (fun u _ => (intOf u).toNat)
      case atStart => exact ⟨i, by omega, rfl, HM⟩
      case round =>
        clear HM
        obtain ⟨j, ⟨haj, hji⟩, rfl, HM⟩ := hrel
        by_cases hj : a < j
        · obtain ⟨k, hk⟩ : ∃ k, j - 1 = k := ⟨_, rfl⟩
          have hki : (j : Int) - 1 = (k : Int) := by omega
          have hkw : IntKind.i64.wrap (k : Int) = (k : Int) := IntWalk.i64_in _ (by omega)
          have hjn : j < n := by omega
          have hkn : k < n := by omega
          obtain ⟨x, c1⟩ := HM.out.cell hjn
          obtain ⟨y, c2⟩ := HM.out.cell hkn
          have HC := Lib.hid (HLe.out x y)
          have HK := Lib.hid hk
          clear hk
          go_wp2
          go_region_held3 (fun W => W.cell? ⟨g, j, none⟩ = some (.int .i32 x) ∧ W.cell? ⟨g, k, none⟩ = some (.int .i32 y))
            (exact ⟨by assumption, by assumption⟩) ((go_at_call 95; refine (HC.out _).mono ?_; rintro e u ⟨⟨t, rfl⟩, rfl⟩))
          have hP := HM.out.drew
          have d1 : wr.drew.cell? ⟨g, j, none⟩ = some (.int .i32 x) := c1
          have d2 : wr.drew.cell? ⟨g, k, none⟩ = some (.int .i32 y) := c2
          generalize wr.drew = w1 at *
          obtain ⟨⟨f1, f2⟩, ⟨c3, f3⟩, hZ⟩ := hP.exch2 hjn hkn d1 d2
          have HZ := Lib.hid hZ
          have HP := Lib.hid hP
          have n00 : ¬ j = k := by have := HK.out; omega
          clear hZ hP c1 c2 HC HM
          go_wp2
          · go_wp2_with fail
            go_region
            go_wp2
            go_roundw
            case rel => exact ⟨k, by have := HK.out; omega, by go_num, HZ⟩
            case measure => have := HK.out; simp [intOf] <;> omega
          · go_roundw
            case rel => exact ⟨i + 1, by omega, by go_num, HP⟩
            case measure => simp [intOf] <;> omega
        · have hd : decide ((a : Int) < (j : Int)) = false := decide_eq_false (by omega)
          go_wp2
          go_region
          go_wp2
          go_roundw
          case rel => exact ⟨i + 1, by omega, by go_num, Lib.hid HM.out.drew⟩
          case measure => simp [intOf] <;> omega
    · go_wp2
      go_end0
      exact ⟨rfl, HM.out⟩
end Go.Proofs.YtnpcakeagpbgiaaGreat

/-
  The library's siftDown at code points in a slice of the call's own: it leaves the elements that there were. Condition: at most 1000000 elements.
-/
set_option linter.unusedVariables false
set_option linter.unusedSimpArgs false
namespace Go.Proofs.YtnpcakeagpbgiaaGreat
open Go.ChangeShapes Go.WideShapes Go.ChangeAt Go.RowKit Go.Sort

set_option maxRecDepth 20000 in
set_option maxHeartbeats 4000000 in
theorem sift_ok (D : List Int) (w0 : World) (B g n c lo hi first : Nat) (w : World) (h : PS D w0 B g n c w) (hmax : n ≤ 1000000) (hlo : lo ≤ n) (hfh : first + hi ≤ n) :
    Calls Tryz.prog 118 #[.slice (some ⟨g, 0, none⟩) n c, .int .i64 lo, .int .i64 hi, .int .i64 first] w fun e w' => e = .returned (.tuple #[]) ∧ PS D w0 B g n c w' := by
  have H0 := Lib.hid h
  have HLe := Lib.hid (fun x y W => less_ok x y W)
  clear h
  go_enter Tryz.func118, Tryz.ntmps118
  go_wp2
  go_loopw [8] (fun u wr => ∃ r : Nat, r ≤ n ∧ u = .int .i64 r ∧ Hid (PS D w0 B g n c wr)) (fun u _ => n - (intOf u).toNat)
  case atStart => exact ⟨lo, hlo, rfl, H0⟩
  case round =>
    clear H0
    obtain ⟨r, hrn, rfl, HM⟩ := hrel
    obtain ⟨ch, hch⟩ : ∃ ch, 2 * r + 1 = ch := ⟨_, rfl⟩
    have hchI : 2 * (r : Int) + 1 = (ch : Int) := by omega
    by_cases hc : hi ≤ ch
    · go_wp2
      go_end0
      exact ⟨rfl, HM.out⟩
    · obtain ⟨ce, hc2⟩ : ∃ ce, ch + 1 = ce := ⟨_, rfl⟩
      have hc2I : (ch : Int) + 1 = (ce : Int) := by omega
      have hrc : r < ch := by omega
      have hcew : IntKind.i64.wrap (ce : Int) = (ce : Int) := IntWalk.i64_in _ (by omega)
      by_cases hd : ce < hi
      · have hdd : decide ((ce : Int) < (hi : Int)) = true := decide_eq_true (by omega)
        obtain ⟨i, hi'⟩ : ∃ i, first + ch = i := ⟨_, rfl⟩
        have hiI : (first : Int) + (ch : Int) = (i : Int) := by omega
        obtain ⟨j, hj⟩ : ∃ j, first + ce = j := ⟨_, rfl⟩
        have hjI : (first : Int) + (ce : Int) = (j : Int) := by omega
        have hj2 : (i : Int) + 1 = (j : Int) := by omega
        have hin : i < n := by omega
        have hiw : IntKind.i64.wrap (i : Int) = (i : Int) := IntWalk.i64_in _ (by omega)
        have hjw : IntKind.i64.wrap (j : Int) = (j : Int) := IntWalk.i64_in _ (by omega)
        have hjn : j < n := by omega
        have HC2 := Lib.hid hc2
        clear hch hi' hj hc2
        go_wp2
        obtain ⟨x0, c1⟩ := HM.out.cell hin
        obtain ⟨y0, c2⟩ := HM.out.cell hjn
        have HC := Lib.hid (HLe.out x0 y0)
        go_region_held3 (fun W => W.cell? ⟨g, i, none⟩ = some (.int .i32 x0) ∧ W.cell? ⟨g, j, none⟩ = some (.int .i32 y0))
          (exact ⟨by assumption, by assumption⟩) ((go_at_call 95; refine (HC.out _).mono ?_; rintro e u ⟨⟨t, rfl⟩, rfl⟩))
        have hP := HM.out.drew
        have d1 : wr.drew.cell? ⟨g, i, none⟩ = some (.int .i32 x0) := c1
        have d2 : wr.drew.cell? ⟨g, j, none⟩ = some (.int .i32 y0) := c2
        generalize wr.drew = w1 at *
        have HP1 := Lib.hid hP
        clear hP c1 c2 HC HM
        clear d1 d2 hj2 hin hjn hiw hjw
        go_wp2
        · clear hiI hjI
          have hrc2 : r < ce := by have := HC2.out; omega
          obtain ⟨p, hp⟩ : ∃ p, first + r = p := ⟨_, rfl⟩
          have hpI : (first : Int) + (r : Int) = (p : Int) := by omega
          obtain ⟨q, hq⟩ : ∃ q, first + ce = q := ⟨_, rfl⟩
          have hqI : (first : Int) + (ce : Int) = (q : Int) := by omega
          have hpn : p < n := by omega
          have hpw : IntKind.i64.wrap (p : Int) = (p : Int) := IntWalk.i64_in _ (by omega)
          have hqw : IntKind.i64.wrap (q : Int) = (q : Int) := IntWalk.i64_in _ (by omega)
          have hqn : q < n := by omega
          have hpq : ¬ p = q := by omega
          have HR : Hid (r < ce ∧ ce < hi) := Lib.hid (by omega)
          clear hp hq
          obtain ⟨x, c1⟩ := HP1.out.cell hpn
          obtain ⟨y, c2⟩ := HP1.out.cell hqn
          have HC := Lib.hid (HLe.out x y)
          go_region_held3 (fun W => W.cell? ⟨g, p, none⟩ = some (.int .i32 x) ∧ W.cell? ⟨g, q, none⟩ = some (.int .i32 y))
            (exact ⟨by assumption, by assumption⟩) ((go_at_call 95; refine (HC.out _).mono ?_; rintro e u ⟨⟨t, rfl⟩, rfl⟩))
          have hP := HP1.out.drew
          have d1 : w1.drew.cell? ⟨g, p, none⟩ = some (.int .i32 x) := c1
          have d2 : w1.drew.cell? ⟨g, q, none⟩ = some (.int .i32 y) := c2
          generalize w1.drew = w2 at *
          have HP2 := Lib.hid hP
          clear hP c1 c2 HC HP1
          obtain ⟨⟨f1, f2⟩, ⟨c3, f3⟩, hZ⟩ := HP2.out.exch2 hpn hqn d1 d2
          have HZ := Lib.hid hZ
          clear hZ
          go_wp2
          · (try simp only [Exit.inBlock, Exit.then])
            exact bodyPost_ret (results_none rfl _ _ _) rfl ⟨rfl, HP2.out⟩
          · go_wp2_with fail
            go_region
            go_wp2
            go_roundw
            case rel => exact ⟨ce, by have := HR.out; omega, rfl, HZ⟩
            case measure => have := HR.out; simp [intOf] <;> omega
        · clear hiI hjI
          go_wp2
          obtain ⟨p, hp⟩ : ∃ p, first + r = p := ⟨_, rfl⟩
          have hpI : (first : Int) + (r : Int) = (p : Int) := by omega
          obtain ⟨q, hq⟩ : ∃ q, first + ch = q := ⟨_, rfl⟩
          have hqI : (first : Int) + (ch : Int) = (q : Int) := by omega
          have hpn : p < n := by omega
          have hpw : IntKind.i64.wrap (p : Int) = (p : Int) := IntWalk.i64_in _ (by omega)
          have hqw : IntKind.i64.wrap (q : Int) = (q : Int) := IntWalk.i64_in _ (by omega)
          have hqn : q < n := by omega
          have hpq : ¬ p = q := by omega
          have HR : Hid (r < ch ∧ ch < hi) := Lib.hid (by omega)
          clear hp hq
          obtain ⟨x, c1⟩ := HP1.out.cell hpn
          obtain ⟨y, c2⟩ := HP1.out.cell hqn
          have HC := Lib.hid (HLe.out x y)
          go_region_held3 (fun W => W.cell? ⟨g, p, none⟩ = some (.int .i32 x) ∧ W.cell? ⟨g, q, none⟩ = some (.int .i32 y))
            (exact ⟨by assumption, by assumption⟩) ((go_at_call 95; refine (HC.out _).mono ?_; rintro e u ⟨⟨t, rfl⟩, rfl⟩))
          have hP := HP1.out.drew
          have d1 : w1.drew.cell? ⟨g, p, none⟩ = some (.int .i32 x) := c1
          have d2 : w1.drew.cell? ⟨g, q, none⟩ = some (.int .i32 y) := c2
          generalize w1.drew = w2 at *
          have HP2 := Lib.hid hP
          clear hP c1 c2 HC HP1
          obtain ⟨⟨f1, f2⟩, ⟨c3, f3⟩, hZ⟩ := HP2.out.exch2 hpn hqn d1 d2
          have HZ := Lib.hid hZ
          clear hZ
          go_wp2
          · (try simp only [Exit.inBlock, Exit.then])
            exact bodyPost_ret (results_none rfl _ _ _) rfl ⟨rfl, HP2.out⟩
          · go_wp2_with fail
            go_region
            go_wp2
            go_roundw
            case rel => exact ⟨ch, by have := HR.out; omega, rfl, HZ⟩
            case measure => have := HR.out; simp [intOf] <;> omega
      · have hdd : decide ((ce : Int) < (hi : Int)) = false := decide_eq_false (by omega)
        clear hch hc2
        go_wp2
        go_region
        have hP := HM.out.drew
        generalize wr.drew = w1 at *
        have HP1 := Lib.hid hP
        clear hP HM
        go_wp2
        obtain ⟨p, hp⟩ : ∃ p, first + r = p := ⟨_, rfl⟩
        have hpI : (first : Int) + (r : Int) = (p : Int) := by omega
        obtain ⟨q, hq⟩ : ∃ q, first + ch = q := ⟨_, rfl⟩
        have hqI : (first : Int) + (ch : Int) = (q : Int) := by omega
        have hpn : p < n := by omega
        have hpw : IntKind.i64.wrap (p : Int) = (p : Int) := IntWalk.i64_in _ (by omega)
        have hqw : IntKind.i64.wrap (q : Int) = (q : Int) := IntWalk.i64_in _ (by omega)
        have hqn : q < n := by omega
        have hpq : ¬ p = q := by omega
        have HR : Hid (r < ch ∧ ch < hi) := Lib.hid (by omega)
        clear hp hq
        obtain ⟨x, c1⟩ := HP1.out.cell hpn
        obtain ⟨y, c2⟩ := HP1.out.cell hqn
        have HC := Lib.hid (HLe.out x y)
        go_region_held3 (fun W => W.cell? ⟨g, p, none⟩ = some (.int .i32 x) ∧ W.cell? ⟨g, q, none⟩ = some (.int .i32 y))
          (exact ⟨by assumption, by assumption⟩) ((go_at_call 95; refine (HC.out _).mono ?_; rintro e u ⟨⟨t, rfl⟩, rfl⟩))
        have hP := HP1.out.drew
        have d1 : w1.drew.cell? ⟨g, p, none⟩ = some (.int .i32 x) := c1
        have d2 : w1.drew.cell? ⟨g, q, none⟩ = some (.int .i32 y) := c2
        generalize w1.drew = w2 at *
        have HP2 := Lib.hid hP
        clear hP c1 c2 HC HP1
        obtain ⟨⟨f1, f2⟩, ⟨c3, f3⟩, hZ⟩ := HP2.out.exch2 hpn hqn d1 d2
        have HZ := Lib.hid hZ
        clear hZ
        go_wp2
        · (try simp only [Exit.inBlock, Exit.then])
          exact bodyPost_ret (results_none rfl _ _ _) rfl ⟨rfl, HP2.out⟩
        · go_wp2_with fail
          go_region
          go_wp2
          go_roundw
          case rel => exact ⟨ch, by have := HR.out; omega, rfl, HZ⟩
          case measure => have := HR.out; simp [intOf] <;> omega
end Go.Proofs.YtnpcakeagpbgiaaGreat

/-
  The library's heap sort and reverseRange at code points in a slice of the call's own: they leave the elements that there were. Condition: at most 1000000 elements.
-/
set_option linter.unusedVariables false
set_option linter.unusedSimpArgs false
namespace Go.Proofs.YtnpcakeagpbgiaaGreat
open Go.ChangeShapes Go.WideShapes Go.ChangeAt Go.RowKit Go.Sort

set_option maxRecDepth 20000 in
set_option maxHeartbeats 4000000 in
theorem reverse_ok (D : List Int) (w0 : World) (B g n c a b : Nat) (w : World) (h : PS D w0 B g n c w) (hmax : n ≤ 1000000) (hab : a < b) (hb : b ≤ n) :
    Calls Tryz.prog 93 #[.slice (some ⟨g, 0, none⟩) n c, .int .i64 a, .int .i64 b] w fun e w' => e = .returned (.tuple #[]) ∧ PS D w0 B g n c w' := by
  have H0 := Lib.hid h
  clear h
  go_enter Tryz.func93, Tryz.ntmps93
  go_wp2
  go_loopw [6, 7] (fun u v wr => ∃ i k : Nat, (0 < k ∧ k ≤ b ∧ i ≤ b) ∧ u = .int .i64 i ∧ v = .int .i64 ((k : Int) - 1) ∧ Hid (PS D w0 B g n c wr)) (fun u v _ => (intOf v).toNat - (intOf u).toNat)
  case atStart => exact ⟨a, b, by omega, rfl, by go_num, H0⟩
  case round =>
    clear H0
    obtain ⟨i, k, ⟨hk0, hkb, hib⟩, rfl, rfl, HM⟩ := hrel
    obtain ⟨j, hj⟩ : ∃ j, k - 1 = j := ⟨_, rfl⟩
    have hjI : (k : Int) - 1 = (j : Int) := by omega
    rw [hjI]
    by_cases hlt : i < j
    · have hin : i < n := by omega
      have hjn : j < n := by omega
      have hij : ¬ i = j := by omega
      obtain ⟨x, y, ⟨c1, c2⟩, ⟨f1, f2⟩, ⟨c3, f3⟩, hZ⟩ := HM.out.exch hin hjn
      have HZ := Lib.hid hZ
      have HJ := Lib.hid hj
      clear hZ HM hj
      go_wp2_with fail
      go_region
      go_wp2
      go_roundw
      case rel => exact ⟨i + 1, j, by have := HJ.out; omega, by go_num, by have := HJ.out; go_num, HZ⟩
      case measure => have := HJ.out; simp [intOf] <;> omega
    · go_wp2
      go_end0
      exact ⟨rfl, HM.out⟩
set_option maxRecDepth 20000 in
set_option maxHeartbeats 4000000 in
theorem heap_ok (D : List Int) (w0 : World) (B g n c a b : Nat) (w : World) (h : PS D w0 B g n c w) (hmax : n ≤ 1000000) (hab : a < b) (hb : b ≤ n) :
    Calls Tryz.prog 90 #[.slice (some ⟨g, 0, none⟩) n c, .int .i64 a, .int .i64 b] w fun e w' => e = .returned (.tuple #[]) ∧ PS D w0 B g n c w' := by
  have H0 := Lib.hid h
  have HS := Lib.hid (fun (i hi : Nat) (W : World) (h : PS D w0 B g n c W) (h1 : i ≤ n) (h2 : a + hi ≤ n) => sift_ok D w0 B g n c i hi a W h hmax h1 h2)
  obtain ⟨m, hm⟩ : ∃ m, b - a = m := ⟨_, rfl⟩
  have hmI : (b : Int) - (a : Int) = (m : Int) := by omega
  have hm0 : 0 < m := by omega
  have ham : a + m ≤ n := by omega
  clear h hm
  go_enter Tryz.func90, Tryz.ntmps90
  go_wp2
  go_loopw [9] (fun u wr => ∃ k : Nat, k ≤ m ∧ u = .int .i64 ((k : Int) - 1) ∧ Hid (PS D w0 B g n c wr)) (fun u _ => (intOf u + 1).toNat)
  case atStart =>
    exact ⟨(m - 1) / 2 + 1, by omega, by congr 1; omega, H0⟩
  case round =>
    clear H0
    obtain ⟨k, hkm, rfl, HM⟩ := hrel
    by_cases hk : 0 < k
    · obtain ⟨j, hj⟩ : ∃ j, k - 1 = j := ⟨_, rfl⟩
      have hjI : (k : Int) - 1 = (j : Int) := by omega
      rw [hjI]
      have HC := Lib.hid (HS.out j m wr HM.out (by omega) ham)
      have HJ := Lib.hid hj
      clear HM hj
      go_wp2_with (go_at_call 118; (with_reducible refine HC.out.mono ?_); rintro e u ⟨rfl, hu⟩)
      have HU := Lib.hid hu
      clear hu HC
      go_roundw
      case rel => exact ⟨j, by have := HJ.out; omega, by have := HJ.out; go_num, HU⟩
      case measure => have := HJ.out; simp [intOf] <;> omega
    · have hk1 : (k : Int) - 1 = -1 := by omega
      rw [hk1]
      clear hk1 hkm hk
      go_wp2
      go_loopw [10] (fun u wr => ∃ k : Nat, k ≤ m ∧ u = .int .i64 ((k : Int) - 1) ∧ Hid (PS D w0 B g n c wr)) (fun u _ => (intOf u + 1).toNat)
      case atStart => exact ⟨m, Nat.le_refl _, by go_num, HM⟩
      case round =>
        clear HM
        obtain ⟨k, hkm, rfl, HM⟩ := hrel
        by_cases hk : 0 < k
        · obtain ⟨j, hj⟩ : ∃ j, k - 1 = j := ⟨_, rfl⟩
          have hjI : (k : Int) - 1 = (j : Int) := by omega
          rw [hjI]
          obtain ⟨p, hp⟩ : ∃ p, a + j = p := ⟨_, rfl⟩
          have hpI : (a : Int) + (j : Int) = (p : Int) := by omega
          have han : a < n := by omega
          have hpn : p < n := by omega
          have hpw : IntKind.i64.wrap (p : Int) = (p : Int) := IntWalk.i64_in _ (by omega)
          obtain ⟨x, y, ⟨c1, c2⟩, ⟨f1, f2⟩, ⟨c3, f3⟩, hZ⟩ := HM.out.exch han hpn
          have hc := HS.out 0 j _ hZ (by omega) (by omega)
          rw [show ((0 : Nat) : Int) = 0 from rfl] at hc
          have HC := Lib.hid hc
          clear hc
          have HJ := Lib.hid hj
          by_cases hap : a = p
          · subst hap
            obtain rfl : x = y := by
              rw [c1] at c2
              injection c2 with c2
              injection c2 with _ c2
            clear hZ HM hj hp
            go_wp2_with fail
            go_region
            go_wp2_with (go_at_call 118; (with_reducible refine HC.out.mono ?_); rintro e u ⟨rfl, hu⟩)
            have HU := Lib.hid hu
            clear hu HC
            go_roundw
            case rel => exact ⟨j, by have := HJ.out; omega, by have := HJ.out; go_num, HU⟩
            case measure => have := HJ.out; simp [intOf] <;> omega
          · clear hZ HM hj hp
            go_wp2_with fail
            go_region
            go_wp2_with (go_at_call 118; (with_reducible refine HC.out.mono ?_); rintro e u ⟨rfl, hu⟩)
            have HU := Lib.hid hu
            clear hu HC
            go_roundw
            case rel => exact ⟨j, by have := HJ.out; omega, by have := HJ.out; go_num, HU⟩
            case measure => have := HJ.out; simp [intOf] <;> omega
        · have hk1 : (k : Int) - 1 = -1 := by omega
          rw [hk1]
          go_wp2
          go_end0
          exact ⟨rfl, HM.out⟩
end Go.Proofs.YtnpcakeagpbgiaaGreat
