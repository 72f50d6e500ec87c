/-
  Contract of the document's sorted: pairs in a slice of the call's own, sorted by swapping neighbours. Condition: at most 1000 pairs.
-/
import Derived.Test.YtlopddiplmjpfaaBst
import Derived.Test.YtlopddiplmjpfaaSrt
import Derived.BigQuiet
import Derived.Laws.IdiomCopy
set_option linter.unusedVariables false
set_option linter.unusedSimpArgs false
namespace Go.Proofs.Ytlopddiplmjpfaa
open Go.ChangeShapes Go.WideShapes Go.ChangeAt Go.RowKit Go.Sort

theorem infoPair : (Try.prog.info? 35).map (·.size) = some 2 := by kernel_rfl
theorem MineR.cellsAt {α : Type} {c0 c1 : α → Value} {e : TypeId} {w : World} {B g n c : Nat} {l : List α} (h : MineR c0 c1 e w B (.slice (some ⟨g, 0, none⟩) n c) l) (j : Nat) (hj : j < l.length) : w.cell? ⟨g, j * 2, none⟩ = some (c0 l[j]) ∧ w.cell? ⟨g, j * 2 + 1, none⟩ = some (c1 l[j]) := by
  obtain ⟨g', c', hv, _, _, _, hcell⟩ := h.form (by intro h0; rw [h0] at hj; simp at hj)
  injection hv with hv1 hv2 hv3
  injection hv1 with hv1
  injection hv1 with hv1
  subst hv1
  have := hcell j _ (List.getElem?_eq_getElem hj)
  rwa [Nat.zero_add] at this
theorem MineR.free {α : Type} {c0 c1 : α → Value} {e : TypeId} {w : World} {B g n c : Nat} {l : List α} (h : MineR c0 c1 e w B (.slice (some ⟨g, 0, none⟩) n c) l) (j : Nat) : w.frozen? ⟨g, j, none⟩ = false := by
  rcases h.2 with ⟨hx, _⟩ | ⟨g', cap, cur, hx, _, hg, _⟩
  · cases hx
  · injection hx with hx1 hx2 hx3
    injection hx1 with hx1
    injection hx1 with hx1
    subst hx1
    simp [World.frozen?, hg]
theorem setCell_row (w : World) (g j : Nat) (v : Value) (cur : Array Value) (e : TypeId) (hg : w.heap[g]? = some (.cells cur e (0, 0))) : (w.setCell ⟨g, j, none⟩ v).heap[g]? = some (.cells (cur.setIfInBounds j v) e (0, 0)) := by
  have hlt := (Array.getElem?_eq_some_iff.1 hg).1
  have h' : w.heap[g] = .cells cur e (0, 0) := by simpa [Array.getElem?_eq_getElem hlt] using hg
  show (w.heap.modify g _)[g]? = _
  rw [Array.getElem?_eq_getElem (by simpa using hlt), Array.getElem_modify_self, h']
  rfl
theorem cells2_set {α : Type} {c0 c1 : α → Value} : ∀ (l : List α) (j : Nat) (y : α), cells2 c0 c1 (l.set j y) = ((cells2 c0 c1 l).set (j * 2) (c0 y)).set (j * 2 + 1) (c1 y)
  | [], _, _ => by simp [cells2]
  | x :: l, 0, y => by simp [cells2, row2]
  | x :: l, j + 1, y => by
    rw [List.set_cons_succ, cells2_cons, cells2_cons, cells2_set l j y, show (j + 1) * 2 = j * 2 + 1 + 1 by omega]
    simp [row2]
/-- an element is turned: both its cells -/
theorem MineR.setTwo {α : Type} {c0 c1 : α → Value} {e : TypeId} {w : World} {B g n c : Nat} {l : List α} (h : MineR c0 c1 e w B (.slice (some ⟨g, 0, none⟩) n c) l) (j : Nat) (y : α) :
    MineR c0 c1 e ((w.setCell ⟨g, j * 2, none⟩ (c0 y)).setCell ⟨g, j * 2 + 1, none⟩ (c1 y)) B (.slice (some ⟨g, 0, none⟩) n c) (l.set j y) := by
  refine ⟨length_cells2 _, ?_⟩
  rcases h.2 with ⟨a, b⟩ | ⟨g', cap, cur, a, b, hg, hc, hm, hs, ht⟩
  · cases a
  · injection a with a1 a2 a3
    injection a1 with a1
    injection a1 with a1
    subst a1; subst a2; subst a3
    rw [List.length_set]
    refine .inr ⟨g, c, (cur.setIfInBounds (j * 2) (c0 y)).setIfInBounds (j * 2 + 1) (c1 y), rfl, b, setCell_row _ _ _ _ _ _ (setCell_row _ _ _ _ _ _ hg), hc, hm, by simp [hs], ?_⟩
    rw [Array.toList_setIfInBounds, Array.toList_setIfInBounds, List.take_set, List.take_set, ht, cells2_set]

/-- a store of two cells -/
theorem wpList_store_two {P : Program} {ops : Array Oper} {rest : List Oper} {o : Oper} {a : Act} {w : World} {Q : Exit → Act → World → Prop} (hgd : o.guard = none) (ty : TypeId) (x y : Operand) (ho : o.op = .store ty x y)
    (g j : Nat) (u0 u1 : Value) (hx : a.eval x = .pointer (some ⟨g, j, none⟩)) (hy : a.eval y = .agg #[u0, u1]) (hi : (P.info? ty).map (·.size) = some 2)
    (c0 : (w.cell? ⟨g, j, none⟩).isSome = true) (c1 : (w.cell? ⟨g, j + 1, none⟩).isSome = true) (f0 : w.frozen? ⟨g, j, none⟩ = false) (f1 : w.frozen? ⟨g, j + 1, none⟩ = false) (h0 : u0.oneCell' = true) (h1 : u1.oneCell' = true)
    (h : ∀ w', w' = (w.setCell ⟨g, j, none⟩ u0).setCell ⟨g, j + 1, none⟩ u1 → wpList P ops Q rest (a.put o.dst undef) w') : wpList P ops Q (o :: rest) a w :=
  wpList_plain hgd fun K hK => by
    have hs : Sem.run P (storeCells ⟨g, j, none⟩ [u0, u1] 0) w = .ok () ((w.setCell ⟨g, j, none⟩ u0).setCell ⟨g, j + 1, none⟩ u1) := by
      have := run_storeCells_cells (P := P) g j [u0, u1] 0 w (fun c hc => by
        match c, hc with
        | 0, _ => exact c0
        | 1, _ => exact c1) (fun c hc => by
        match c, hc with
        | 0, _ => exact f0
        | 1, _ => exact f1) (fun v hv => by simp at hv; rcases hv with rfl | rfl <;> assumption)
      exact this
    have hr : (storeVar ty ⟨g, j, none⟩ (.agg #[u0, u1])).run P w = .ok () ((w.setCell ⟨g, j, none⟩ u0).setCell ⟨g, j + 1, none⟩ u1) := by
      cases hq : P.info? ty with
      | none => simp [hq] at hi
      | some i =>
        have hz : i.size = 2 := by simpa [hq] using hi
        simp [storeVar, sizeOf, typeInfo, hq, Value.cells, hz, hs]
    unfold Oper.wp execOp
    simp only [ho, hx, hy, Instr.storeAt, Instr.sureAddr, Sem.run_bind, Sem.run_pure, Result.andThen_ok, hr]
    exact hK _ _ (h _ rfl)

theorem At.other {w : World} {g : Nat} {t : TypeId} {cs : Array Value} (h : At w g t cs) (p : Addr) (v : Value) (hp : g ≠ p.block) : At (w.setCell p v) g t cs := by
  unfold At
  rw [Below.heap_setCell _ _ _ _ hp]; exact h
/-- two neighbours change places: the first of the two stores -/
theorem swap_one {B g n c r : Nat} {L : List (Nat × Nat)} {w1 w2 : World} (hM : MineP w1 B (.slice (some ⟨g, 0, none⟩) n c) L) (hr : r + 1 < L.length) (y : Nat × Nat) (hw : w2 = (w1.setCell ⟨g, (r + 1) * 2, none⟩ (.int .i64 (y.1 : Int))).setCell ⟨g, (r + 1) * 2 + 1, none⟩ (.int .i64 (y.2 : Int))) :
    MineP w2 B (.slice (some ⟨g, 0, none⟩) n c) (L.set (r + 1) y) ∧ (w2.cell? ⟨g, r * 2, none⟩).isSome = true ∧ (w2.cell? ⟨g, r * 2 + 1, none⟩).isSome = true ∧ w2.frozen? ⟨g, r * 2, none⟩ = false ∧ w2.frozen? ⟨g, r * 2 + 1, none⟩ = false := by
  have h2 : MineP w2 B (.slice (some ⟨g, 0, none⟩) n c) (L.set (r + 1) y) := by rw [hw]; exact MineR.setTwo hM (r + 1) y
  obtain ⟨k1, k2⟩ := MineR.cellsAt h2 r (by rw [List.length_set]; omega)
  exact ⟨h2, by rw [k1]; rfl, by rw [k2]; rfl, MineR.free h2 _, MineR.free h2 _⟩
theorem swap_two {B g n c r : Nat} {L : List (Nat × Nat)} {w1 w2 w3 : World} (hM : MineP w1 B (.slice (some ⟨g, 0, none⟩) n c) L) (hr : r + 1 < L.length) (hw : w2 = (w1.setCell ⟨g, (r + 1) * 2, none⟩ (.int .i64 ((pg L r).1 : Int))).setCell ⟨g, (r + 1) * 2 + 1, none⟩ (.int .i64 ((pg L r).2 : Int)))
    (hw3 : w3 = (w2.setCell ⟨g, r * 2, none⟩ (.int .i64 ((pg L (r + 1)).1 : Int))).setCell ⟨g, r * 2 + 1, none⟩ (.int .i64 ((pg L (r + 1)).2 : Int))) : MineP w3 B (.slice (some ⟨g, 0, none⟩) n c) (swp L (r + 1)) ∧ Below B w1 w3 := by
  have h2 := (swap_one hM hr (pg L r) hw).1
  have hB := (MineR.own_lt hM g rfl).1
  refine ⟨?_, ?_⟩
  · rw [hw3]
    exact MineR.setTwo h2 r (pg L (r + 1))
  · rw [hw3, hw]
    exact (((((Below.refl B w1).setCell (p := ⟨g, (r + 1) * 2, none⟩) hB _).setCell (p := ⟨g, (r + 1) * 2 + 1, none⟩) hB _).setCell (p := ⟨g, r * 2, none⟩) hB _).setCell (p := ⟨g, r * 2 + 1, none⟩) hB _)

set_option maxRecDepth 20000 in
set_option maxHeartbeats 4000000 in
theorem sorted_ok (B : Nat) (A : Option Addr) (n c : Nat) (l : List (Nat × Nat)) (w : World) (hown : MineP w B (.slice A n c) l) (hn : n = l.length) (hmax : n ≤ 1000) (hB : B ≤ w.heap.size) (hd : Dist l) :
    Calls Try.prog 25 #[.slice A n c] w fun e w' => e = .returned (.slice A n c) ∧ (∃ l', (∀ x, x ∈ l' ↔ x ∈ l) ∧ l'.Pairwise (fun p q => p.1 < q.1) ∧ MineP w' B (.slice A n c) l') ∧ Below B w w' := by
  by_cases h0 : l = []
  · subst h0
    simp only [List.length_nil] at hn
    subst hn
    have HM := Lib.hid hown
    clear hown hd
    go_enter Try.func25, Try.ntmps25
    go_wp2
    go_loopw [3] (fun v wr => v = .int .i64 1 ∧ wr = w) (fun v _ => 0)
    case atStart => exact ⟨rfl, rfl⟩
    case round =>
      obtain ⟨rfl, rfl⟩ := hrel
      go_wp2
      go_ret
      exact ⟨rfl, ⟨[], fun x => Iff.rfl, List.Pairwise.nil, HM.out⟩, Below.refl _ _⟩
  · obtain ⟨g, c', hv, hc, hBg, hgw, _⟩ := hown.form h0
    injection hv with hv1 hv2 hv3
    subst hv1; subst hv3
    have hnp : 0 < n := by rw [hn]; exact List.length_pos_iff.2 h0
    have HL := Lib.hid hn
    have HD := Lib.hid hd
    have HM := Lib.hid hown
    clear hd h0 hv2 hown hn hc
    go_enter Try.func25, Try.ntmps25
    go_wp2
    go_loopw [3] (fun v wr => ∃ (i : Nat) (L : List (Nat × Nat)), v = .int .i64 i ∧ 1 ≤ i ∧ i ≤ n ∧ Hid (SortTo L i ∧ Dist L ∧ L.length = n ∧ (∀ x, x ∈ L ↔ x ∈ l) ∧ MineP wr B (.slice (some ⟨g, 0, none⟩) n c) L ∧ Below B w wr)) (fun v _ => n - (intOf v).toNat)
    case atStart => exact ⟨1, l, rfl, Nat.le_refl _, by omega, Lib.hid ⟨fun a b h1 h2 => by omega, HD.out, HL.out.symm, fun x => Iff.rfl, HM.out, Below.refl _ _⟩⟩
    case round =>
      clear HM HD
      obtain ⟨i, L, rfl, hi1, hin, HS⟩ := hrel
      obtain ⟨WA, hWA⟩ : ∃ WA, WA = wr := ⟨_, rfl⟩
      subst hWA
      by_cases hlt : i < n
      · go_wp2
        go_loopw [4] (fun v wr => ∃ (k : Nat) (L : List (Nat × Nat)), v = .int .i64 k ∧ k ≤ i ∧ Hid (Down L i k ∧ Dist L ∧ L.length = n ∧ (∀ x, x ∈ L ↔ x ∈ l) ∧ MineP wr B (.slice (some ⟨g, 0, none⟩) n c) L ∧ Below B w wr)) (fun v _ => (intOf v).toNat)
        case atStart => exact ⟨i, L, rfl, Nat.le_refl _, Lib.hid ⟨down_start L i HS.out.1, HS.out.2⟩⟩
        case round =>
          clear HS L
          obtain ⟨k, L, rfl, hki, HS⟩ := hrel
          have hLn := HS.out.2.2.1
          by_cases hk0 : 0 < k
          · obtain ⟨r, rfl⟩ : ∃ r, k = r + 1 := ⟨k - 1, by omega⟩
            obtain ⟨a1, a2⟩ := HS.out.2.2.2.2.1.cellsAt (r + 1) (by omega)
            obtain ⟨b1, b2⟩ := HS.out.2.2.2.2.1.cellsAt r (by omega)
            have p1 := pg_eq L (r + 1) (by omega)
            have p2 := pg_eq L r (by omega)
            rw [← p1] at a1 a2
            rw [← p2] at b1 b2
            clear p1 p2
            have f1 := HS.out.2.2.2.2.1.free ((r + 1) * 2)
            have f2 := HS.out.2.2.2.2.1.free ((r + 1) * 2 + 1)
            have f3 := HS.out.2.2.2.2.1.free (r * 2)
            have f4 := HS.out.2.2.2.2.1.free (r * 2 + 1)
            have hsw := fun h => down_step L i (r + 1) (by omega) hki (by omega) HS.out.1 h
            have hend := fun h => down_end L i (r + 1) hki (by omega) HS.out.2.1 HS.out.1 (.inr h)
            rw [show r + 1 - 1 = r by omega] at hsw hend
            have hM := HS.out.2.2.2.2.1
            obtain ⟨x0, x1⟩ : ∃ x, pg L (r + 1) = x := ⟨_, rfl⟩
            obtain ⟨y0, y1⟩ : ∃ y, pg L r = y := ⟨_, rfl⟩
            obtain ⟨xa, xb⟩ := x0
            obtain ⟨ya, yb⟩ := y0
            rw [x1] at a1 a2 hsw hend
            rw [y1] at b1 b2 hsw hend
            unfold pc0 at a1 b1
            unfold pc1 at a2 b2
            simp only at a1 a2 b1 b2 hsw hend
            have er : ((r + 1 : Nat) : Int) - 1 = (r : Int) := by omega
            by_cases hx : xa < ya
            · have HSW := Lib.hid (hsw hx)
              clear hsw hend
              have HM := Lib.hid hM
              have hcs := fun (u : World) (hu : Up wr u) => (⟨hu.cell a1, hu.cell a2, hu.cell b1, hu.cell b2, (HM.out.up hu).free ((r + 1) * 2), (HM.out.up hu).free ((r + 1) * 2 + 1)⟩ : _ ∧ _ ∧ _ ∧ _ ∧ _ ∧ _)
              have HCS := Lib.hid hcs
              have H1 : Hid (∀ (u u2 : World), Up wr u → u2 = (u.setCell ⟨g, (r + 1) * 2, none⟩ (.int .i64 (ya : Int))).setCell ⟨g, (r + 1) * 2 + 1, none⟩ (.int .i64 (yb : Int)) → (u2.cell? ⟨g, r * 2, none⟩).isSome = true ∧ (u2.cell? ⟨g, r * 2 + 1, none⟩).isSome = true ∧ u2.frozen? ⟨g, r * 2, none⟩ = false ∧ u2.frozen? ⟨g, r * 2 + 1, none⟩ = false) :=
                Lib.hid (fun u u2 hu h => (swap_one (HM.out.up hu) (by omega) (ya, yb) h).2)
              have H2 : Hid (∀ (u u2 u3 : World), Up wr u → u2 = (u.setCell ⟨g, (r + 1) * 2, none⟩ (.int .i64 (ya : Int))).setCell ⟨g, (r + 1) * 2 + 1, none⟩ (.int .i64 (yb : Int)) → u3 = (u2.setCell ⟨g, r * 2, none⟩ (.int .i64 (xa : Int))).setCell ⟨g, r * 2 + 1, none⟩ (.int .i64 (xb : Int)) → MineP u3 B (.slice (some ⟨g, 0, none⟩) n c) (swp L (r + 1)) ∧ Below B u u3) :=
                Lib.hid (fun u u2 u3 hu h h3 => swap_two (w1 := u) (w2 := u2) (w3 := u3) (HM.out.up hu) (by omega) (by rw [y1]; exact h) (by rw [x1]; exact h3))
              have HT : Hid (Dist L ∧ L.length = n ∧ (∀ x, x ∈ L ↔ x ∈ l) ∧ Below B w wr) := Lib.hid ⟨HS.out.2.1, HS.out.2.2.1, HS.out.2.2.2.1, HS.out.2.2.2.2.2⟩
              have hgr : wr.heap.size ≠ g := by have := (MineR.own_lt HM.out g rfl).2; omega
              have hBr : B ≤ wr.heap.size := Nat.le_trans hB HT.out.2.2.2.size
              clear hcs hM f1 f2 f3 f4 HS x1 y1
              go_wp2
              go_quiet (fail)
              have hatn : At ((wr.drewN nq).alloc (.cells #[.int .i64 0, .int .i64 0] 35)) wr.heap.size 35 #[.int .i64 0, .int .i64 0] := at_new _ _ _
              have hUn : Up wr ((wr.drewN nq).alloc (.cells #[.int .i64 0, .int .i64 0] 35)) := ((Up.refl wr).drewN nq).alloc _
              have HATN := Lib.hid hatn
              have HUN := Lib.hid hUn
              clear hatn hUn
              obtain ⟨J1, hJ1⟩ : ∃ J1, (r + 1) * 2 = J1 := ⟨_, rfl⟩
              obtain ⟨J0, hJ0⟩ : ∃ J0, r * 2 = J0 := ⟨_, rfl⟩
              rw [hJ1, hJ0] at HCS H1 H2
              rw [hJ1] at a1 a2
              rw [hJ0] at b1 b2
              go_wp2_with (first
                | (refine wpList_store_at rfl 35 _ _ rfl wr.heap.size #[.int .i64 xa, .int .i64 xb] rfl rfl 35 _ HATN.out infoPair rfl (by simp [Value.oneCell']) wr HUN.out (Nat.le_refl _) ?_; intro w1 hat hoth hsz hU1; have q0 := hat.cell 0 _ rfl; have q1 := hat.cell 1 _ rfl; obtain ⟨d1, d2, d3, d4, d5, d6⟩ := HCS.out _ hU1; clear hoth hsz a1 a2 b1 b2)
                | (refine wpList_store_two rfl 35 _ _ rfl g J1 (.int .i64 ya) (.int .i64 yb) rfl rfl infoPair (by rw [d1]; rfl) (by rw [d2]; rfl) d5 d6 rfl rfl ?_; intro w2 hw2; have HW2 := Lib.hid hw2; have hat2 : At w2 wr.heap.size 35 #[.int .i64 xa, .int .i64 xb] := (by rw [hw2]; exact (hat.other _ _ hgr).other _ _ hgr); have r0 := hat2.cell 0 _ rfl; have r1 := hat2.cell 1 _ rfl; obtain ⟨e1, e2, e3, e4⟩ := H1.out _ _ hU1 hw2; clear hw2 d1 d2 d3 d4 d5 d6 q0 q1)
                | (refine wpList_store_two rfl 35 _ _ rfl g J0 (.int .i64 xa) (.int .i64 xb) rfl rfl infoPair e1 e2 e3 e4 rfl rfl ?_; intro w3 hw3; have HW3 := Lib.hid hw3; clear hw3))
              go_roundw
              case rel =>
                obtain ⟨m1, m2⟩ := H2.out _ _ _ hU1 HW2.out HW3.out
                obtain ⟨t1, t2, t3, t4⟩ := HT.out
                exact ⟨r, swp L (r + 1), rfl, by omega, Lib.hid ⟨HSW.out, swp_dist L (r + 1) (by omega) (by omega) t1, by rw [swp_len]; exact t2, fun x => by rw [swp_mem L (r + 1) (by omega) (by omega)]; exact t3 x, m1, (t4.trans (hU1.1.mono hBr)).trans m2⟩⟩
              case measure => simp [intOf] <;> omega
            · have HE := Lib.hid (hend hx)
              have HS2 := Lib.hid HS.out.2
              have hBr : B ≤ wr.heap.size := Nat.le_trans hB HS.out.2.2.2.2.2.size
              clear hsw hend hM HS f1 f2 f3 f4
              go_wp2
              go_quiet (fail)
              go_wp2
              go_roundw
              case rel => exact ⟨i + 1, L, by go_num, by omega, by omega, Lib.hid ⟨HE.out, HS2.out.1, HS2.out.2.1, HS2.out.2.2.1, HS2.out.2.2.2.1, below_drewN HS2.out.2.2.2.2 _⟩⟩
              case measure => simp [intOf] <;> omega
          · obtain rfl : k = 0 := by omega
            have HE := Lib.hid (down_end L i 0 hki (by omega) HS.out.2.1 HS.out.1 (.inl rfl))
            have HS2 := Lib.hid HS.out.2
            clear HS
            go_wp2
            go_quiet (fail)
            go_wp2
            go_roundw
            case rel => exact ⟨i + 1, L, by go_num, by omega, by omega, Lib.hid ⟨HE.out, HS2.out.1, HS2.out.2.1, HS2.out.2.2.1, HS2.out.2.2.2.1, below_drewN HS2.out.2.2.2.2 _⟩⟩
            case measure => simp [intOf] <;> omega
      · obtain rfl : i = n := by omega
        obtain ⟨s1, s2, s3, s4, s5, s6⟩ := HS.out
        have hP := sorted_pairs L (by rw [s3]; exact s1)
        have HP := Lib.hid hP
        have H4 := Lib.hid s4
        have H5 := Lib.hid s5
        clear s1 s2 s3 s4 s5 hP HS
        go_wp2
        go_ret
        exact ⟨rfl, ⟨L, H4.out, HP.out, H5.out⟩, s6⟩
end Go.Proofs.Ytlopddiplmjpfaa
