/-
  Contract of the program's paint. No condition but bounds.
-/
import Derived.Test.YtnpcakeagpbgiaaGreatSzc
import Derived.Test.YtnpcakeagpbgiaaGreatSzb
import Derived.BigQuiet
set_option linter.unusedVariables false
set_option linter.unusedSimpArgs false
namespace Go.Proofs.YtnpcakeagpbgiaaGreat.S5
open Go.ChangeShapes Go.WideShapes Go.ChangeAt Go.RowKit Go.Shelf
attribute [local go_sem] Oper.semAt_some

theorem _root_.Go.Proofs.YtnpcakeagpbgiaaGreat.Mine.carry {k : IntKind} {e : TypeId} {w w' : World} {B : Nat} {v : Value} {xs : List Int} (h : Mine k e w B v xs) (hb : Below w.heap.size w w') : Mine k e w' B v xs := by
  refine ⟨h.1, ?_⟩
  rcases h.2 with ⟨a, b⟩ | ⟨g, cap, cur, a, b, hg, r⟩
  · exact .inl ⟨a, b⟩
  · have hlt : g < w.heap.size := by
      rcases Nat.lt_or_ge g w.heap.size with h' | h'
      · exact h'
      · rw [Array.getElem?_eq_none h'] at hg; cases hg
    exact .inr ⟨g, cap, cur, a, b, by rw [hb.block g hlt]; exact hg, r⟩
theorem mine_made {w : World} {B : Nat} {v : Value} {n : Nat} (h : w.ownsRow B 3 1 v n (madeCells (Value.int .i64 0).cells (n * 1)).toList) : Mine .i64 3 w B v (List.replicate n 0) := by
  unfold Mine
  rw [List.length_replicate, List.map_replicate]
  rw [Nat.mul_one] at h
  have := toList_madeCells_one (.int .i64 0) n
  rw [show (Value.int .i64 0).cells = #[.int .i64 0] from rfl, this] at h
  exact h
theorem box_at (w : World) (v : Value) (t : TypeId) : (w.alloc (.cells #[v] t)).cell? ⟨w.heap.size, 0, none⟩ = some v ∧ (w.alloc (.cells #[v] t)).frozen? ⟨w.heap.size, 0, none⟩ = false := by
  have h : At (w.alloc (.cells #[v] t)) w.heap.size t #[v] := at_new w _ t
  exact ⟨h.cell 0 v rfl, At.free h 0⟩
/-- the first k cells numbered -/
def numK (n k : Nat) : List Int := (List.range k).map (fun (i : Nat) => (i : Int)) ++ List.replicate (n - k) 0
theorem numK_zero (n : Nat) : numK n 0 = List.replicate n 0 := by simp [numK]
theorem numK_end (n : Nat) : numK n n = (List.range n).map (fun (i : Nat) => (i : Int)) := by simp [numK]
theorem numK_length (n k : Nat) (h : k ≤ n) : (numK n k).length = n := by simp [numK]; omega
theorem numK_set (n k : Nat) (h : k < n) : (numK n k).set k (k : Int) = numK n (k + 1) := by
  unfold numK
  rw [List.set_append_right _ _ (by simp), List.range_succ, List.map_append]
  have e : n - k = (n - (k + 1)) + 1 := by omega
  rw [e, List.replicate_succ]
  simp

theorem at_kept {W W' : World} {row : Option Nat} {g : Nat} {t : TypeId} {cs : Array Value} (h : At W g t cs) (hg : W.grownBy W' row) (hrow : ∀ r, row = some r → ∃ o : Obj, W.heap[r]? = some o ∧ o.isCells = false) : At W' g t cs := by
  unfold At at *
  rw [hg.block g (Array.getElem?_eq_some_iff.1 h).1 (fun e => by
    obtain ⟨o, ho, hc⟩ := hrow g e.symm
    rw [h] at ho
    injection ho with ho
    subst ho
    cases hc)]
  exact h
theorem mine_kept {W W' : World} {row : Option Nat} {B b n c : Nat} {xs : List Int} (h : Mine .i64 3 W B (.slice (some ⟨b, 0, none⟩) n c) xs) (hg : W.grownBy W' row) (hrow : ∀ r, row = some r → ∃ o : Obj, W.heap[r]? = some o ∧ o.isCells = false) : Mine .i64 3 W' B (.slice (some ⟨b, 0, none⟩) n c) xs := by
  refine ⟨h.1, ?_⟩
  rcases h.2 with ⟨a, _⟩ | ⟨g', cap, cur, a, hB, hgb, r⟩
  · cases a
  · injection a with a1 a2 a3
    injection a1 with a1
    injection a1 with a1
    subst a1; subst a3
    have := at_kept (t := 3) (cs := cur) hgb hg hrow
    exact .inr ⟨b, c, cur, by rw [a2], hB, this, r⟩

theorem wpOp_of {P : Program} {ops : Array Oper} {Q : Exit → Act → World → Prop} {i : Nat} {o : Oper} {a : Act} {w : World} {K : Act → World → Prop} (ho : ops[i]? = some o) (hg : o.guard = none) (h : ∀ K' : Act → World → Prop, (∀ a w, K a w → K' a w) → o.wp P a w K' Q) : wpOp P ops Q i K a w := by
  unfold wpOp
  simp only [ho]
  rw [if_pos (by simp [Region.wanted, hg])]
  exact .inl (h K (fun _ _ h => h))
theorem drewN_keeps (W : World) (q : Nat) : KeepsOthers W (W.drewN q) := ⟨Nat.le_refl _, fun _ _ h _ => h⟩
/-- the same, while one part is laid on -/
structure Mid (w : World) (es : List Int) (m gv bv gn bn Bs Bx : Nat) (ends : Value) (L : Nat) (sfx : List Sp) (p : Sp) (k0 : Nat) (W0 : World) (c : Nat) (W : World) : Prop where
  vals : Mine .i64 3 W w.heap.size (.slice (some ⟨gv, 0, none⟩) m m) (valsM es m sfx p k0 c)
  next : ∃ nx, Mine .i64 3 W w.heap.size (.slice (some ⟨gn, 0, none⟩) (m + 1) (m + 1)) nx ∧ Inv nx (dnM es m sfx p k0 c) (m + 1)
  cE : W.cell? ⟨w.heap.size, 0, none⟩ = some ends
  cV : W.cell? ⟨bv, 0, none⟩ = some (.slice (some ⟨gv, 0, none⟩) m m)
  cN : W.cell? ⟨bn, 0, none⟩ = some (.slice (some ⟨gn, 0, none⟩) (m + 1) (m + 1))
  below : Below w.heap.size w W
  big : L ≤ W.heap.size
  hat : At W Bx 32 #[.int .i64 p.f, .int .i64 p.t, .int .i64 p.v]
  keeps : KeepsOthers W0 W
  kb : KB w.heap.size Bs W0 W

/-- what lies in memory between two rounds: the two arrays, the three variables -/
structure St (w : World) (es : List Int) (m gv bv gn bn : Nat) (ends : Value) (L : Nat) (sfx : List Sp) (W : World) : Prop where
  vals : Mine .i64 3 W w.heap.size (.slice (some ⟨gv, 0, none⟩) m m) (VL es m sfx)
  next : ∃ nx, Mine .i64 3 W w.heap.size (.slice (some ⟨gn, 0, none⟩) (m + 1) (m + 1)) nx ∧ Inv nx (DN es m sfx) (m + 1)
  cE : W.cell? ⟨w.heap.size, 0, none⟩ = some ends
  cV : W.cell? ⟨bv, 0, none⟩ = some (.slice (some ⟨gv, 0, none⟩) m m)
  cN : W.cell? ⟨bn, 0, none⟩ = some (.slice (some ⟨gn, 0, none⟩) (m + 1) (m + 1))
  below : Below w.heap.size w W
  big : L ≤ W.heap.size
theorem St.kept {w : World} {es : List Int} {m gv bv gn bn : Nat} {ends : Value} {L : Nat} {sfx : List Sp} {B : Nat} (hB : w.heap.size ≤ B) {W W' : World} {row : Option Nat} (h : St w es m gv bv gn bn ends L sfx W) (hg : W.grownBy W' row)
    (hr : ∀ r, row = some r → B ≤ r ∧ ∃ o : Obj, W.heap[r]? = some o ∧ o.isCells = false) : St w es m gv bv gn bn ends L sfx W' := by
  have hr2 := fun r e => (hr r e).2
  obtain ⟨nx, h1, h2⟩ := h.next
  exact ⟨mine_kept h.vals hg hr2, ⟨nx, mine_kept h1 hg hr2, h2⟩, cell_kept h.cE hg hr2, cell_kept h.cV hg hr2, cell_kept h.cN hg hr2, h.below.grown hg h.below.size (fun k e => by have := (hr k e).1; omega), Nat.le_trans h.big hg.size⟩

theorem Only.cell {g : Nat} {w w' : World} (h : Only g w w') {p : Addr} {v : Value} (hp : p.block ≠ g) (hc : w.cell? p = some v) : w'.cell? p = some v :=
  (World.cell?_of_block (a := p) (h.other _ hp)).trans hc
theorem Only.mine {g b n c : Nat} {w w' : World} (h : Only g w w') {B : Nat} {xs : List Int} (hb : b ≠ g) (hm : Mine .i64 3 w B (.slice (some ⟨b, 0, none⟩) n c) xs) : Mine .i64 3 w' B (.slice (some ⟨b, 0, none⟩) n c) xs := by
  refine ⟨hm.1, ?_⟩
  rcases hm.2 with ⟨a, _⟩ | ⟨g', cap, cur, a, hB, hg, r⟩
  · cases a
  · injection a with a1 a2 a3
    injection a1 with a1
    injection a1 with a1
    subst a1; subst a3
    exact .inr ⟨b, c, cur, by rw [a2], hB, by rw [h.other b hb]; exact hg, r⟩

theorem dnM_lt {es : List Int} {m : Nat} {sfx : List Sp} {p : Sp} {k0 c j : Nat} (h : dnM es m sfx p k0 c j = true) : j < m := by
  unfold dnM DN at h
  rcases (Bool.or_eq_true _ _).mp h with h | h
  · have := ((Bool.and_eq_true _ _).mp h).1
    simpa using this
  · simp at h
    omega
theorem dnM_self {es : List Int} {m : Nat} {sfx : List Sp} {p : Sp} {k0 c : Nat} (h1 : k0 ≤ c) (h2 : c < m) (h3 : eAt es c < p.t) : dnM es m sfx p k0 (c + 1) c = true := by
  unfold dnM
  rw [decide_eq_true (show k0 ≤ c ∧ c < c + 1 ∧ c < m ∧ eAt es c < p.t from ⟨h1, by omega, h2, h3⟩), Bool.or_true]
section
variable {w : World} {es : List Int} {m gv bv gn bn Bs Bx : Nat} {ends : Value} {L : Nat} {sfx : List Sp} {p : Sp} {k0 : Nat} {W0 : World} {c : Nat} {W : World}
theorem Mid.drewN (h : Mid w es m gv bv gn bn Bs Bx ends L sfx p k0 W0 c W) (q : Nat) : Mid w es m gv bv gn bn Bs Bx ends L sfx p k0 W0 c (W.drewN q) :=
  ⟨h.vals, h.next, h.cE, h.cV, h.cN, below_drewN h.below q, h.big, h.hat, h.keeps.trans (drewN_keeps _ _), h.kb.trans ⟨below_drewN (Below.refl _ _) q, rfl⟩⟩
theorem Mid.drew (h : Mid w es m gv bv gn bn Bs Bx ends L sfx p k0 W0 c W) : Mid w es m gv bv gn bn Bs Bx ends L sfx p k0 W0 c W.drew :=
  ⟨h.vals, h.next, h.cE, h.cV, h.cN, h.below.drew, h.big, h.hat, h.keeps.trans (KeepsOthers.drew _), h.kb.trans ⟨(Below.refl _ _).drew, rfl⟩⟩
theorem Mid.bare {gB : w.heap.size ≤ gn} (hd : gv ≠ gn ∧ w.heap.size ≠ gn ∧ bv ≠ gn ∧ bn ≠ gn ∧ Bx ≠ gn ∧ Bs ≠ gn) (h : Mid w es m gv bv gn bn Bs Bx ends L sfx p k0 W0 c W) {W' : World} {r : Nat} {nx : List Int} (hO : Only gn W W') (hM : Mine .i64 3 W' w.heap.size (.slice (some ⟨gn, 0, none⟩) (m + 1) (m + 1)) nx)
    (hI : Inv nx (dnM es m sfx p k0 c) (m + 1)) (hr : c ≤ r) (hall : ∀ j, c ≤ j → j < r → dnM es m sfx p k0 c j = true) : Mid w es m gv bv gn bn Bs Bx ends L sfx p k0 W0 r W' := by
  obtain ⟨d1, d2, d3, d4, d5, d6⟩ := hd
  refine ⟨?_, ⟨nx, hM, hI.congr (fun j _ => (skip_dn hr hall j).symm)⟩, hO.cell (p := ⟨w.heap.size, 0, none⟩) d2 h.cE, hO.cell (p := ⟨bv, 0, none⟩) d3 h.cV, hO.cell (p := ⟨bn, 0, none⟩) d4 h.cN, h.below.trans (hO.below.mono gB), by have := hO.size; have := h.big; omega, ?_, h.keeps.trans hO.keeps, h.kb.trans ⟨hO.below.mono gB, hO.other _ d6⟩⟩
  · rw [skip_vals hr hall]
    exact hO.mine d1 h.vals
  · have := h.hat
    unfold At at this ⊢
    rw [hO.other _ d5]
    exact this
theorem Mid.paint (hd : gv ≠ gn ∧ w.heap.size ≠ gn ∧ bv ≠ gn ∧ bn ≠ gn ∧ Bx ≠ gn ∧ Bs ≠ gn) (hd2 : w.heap.size ≠ gv ∧ bv ≠ gv ∧ bn ≠ gv ∧ Bx ≠ gv ∧ Bs ≠ gv) (gB : w.heap.size ≤ gn) (gB2 : w.heap.size ≤ gv)
    (h : Mid w es m gv bv gn bn Bs Bx ends L sfx p k0 W0 c W) (h1 : k0 ≤ c) (h2 : c < m) (ht : eAt es c < p.t) (hu : dnM es m sfx p k0 c c = false) :
    Mid w es m gv bv gn bn Bs Bx ends L sfx p k0 W0 (c + 1) ((W.setCell ⟨gv, c, none⟩ (.int .i64 p.v)).setCell ⟨gn, c, none⟩ (.int .i64 ((c + 1 : Nat) : Int))) := by
  obtain ⟨d1, d2, d3, d4, d5, d6⟩ := hd
  obtain ⟨f1, f2, f3, f4, f5⟩ := hd2
  obtain ⟨nx, hM, hI⟩ := h.next
  have o1 : Only gv W (W.setCell ⟨gv, c, none⟩ (.int .i64 p.v)) := (Only.refl _ _).setCell _ _
  have o2 : Only gn (W.setCell ⟨gv, c, none⟩ (.int .i64 p.v)) ((W.setCell ⟨gv, c, none⟩ (.int .i64 p.v)).setCell ⟨gn, c, none⟩ (.int .i64 ((c + 1 : Nat) : Int))) := (Only.refl _ _).setCell _ _
  have hv := h.vals.set c (by rw [valsM_length]; exact h2) p.v
  rw [paint_vals h1 h2 ht hu] at hv
  have hn := (o1.mine (Ne.symm d1) hM).set c (by rw [hI.1]; omega) ((c + 1 : Nat) : Int)
  refine ⟨o2.mine d1 hv, ⟨_, hn, (hI.paint (c := c) (by omega)).congr (fun j _ => paint_dn h1 h2 ht j)⟩, ?_, ?_, ?_, ?_, ?_, ?_, ?_, ?_⟩
  · exact o2.cell (p := ⟨w.heap.size, 0, none⟩) d2 (o1.cell (p := ⟨w.heap.size, 0, none⟩) f1 h.cE)
  · exact o2.cell (p := ⟨bv, 0, none⟩) d3 (o1.cell (p := ⟨bv, 0, none⟩) f2 h.cV)
  · exact o2.cell (p := ⟨bn, 0, none⟩) d4 (o1.cell (p := ⟨bn, 0, none⟩) f3 h.cN)
  · exact (h.below.trans (o1.below.mono gB2)).trans (o2.below.mono gB)
  · have := o1.size; have := o2.size; have := h.big; omega
  · have := h.hat
    unfold At at this ⊢
    rw [o2.other _ d5, o1.other _ f4]
    exact this
  · exact (h.keeps.trans o1.keeps).trans o2.keeps
  · exact (h.kb.trans ⟨o1.below.mono gB2, o1.other _ f5⟩).trans ⟨o2.below.mono gB, o2.other _ d6⟩
theorem setCell_comm (W : World) (p q : Addr) (u v : Value) (h : p.block ≠ q.block) : (W.setCell p u).setCell q v = (W.setCell q v).setCell p u := by
  have e : ∀ (H : Array Obj) (f g : Obj → Obj), (H.modify p.block f).modify q.block g = (H.modify q.block g).modify p.block f := fun H f g => by
    apply Array.ext
    · simp
    · intro i h1 h2
      simp only [Array.getElem_modify]
      by_cases h3 : q.block = i
      · by_cases h4 : p.block = i
        · exact absurd (h4.trans h3.symm) h
        · simp [h3, h4]
      · simp [h3]
  unfold World.setCell
  simp only [e]
theorem Mid.done (hcnt : ∀ j, j ≤ m → (k0 ≤ j ↔ p.f ≤ eAt es j)) (hmono : ∀ i j, i < j → j ≤ m → eAt es i < eAt es j) (h : Mid w es m gv bv gn bn Bs Bx ends L sfx p k0 W0 c W) (hc : c ≤ m) (ht : p.t ≤ eAt es c) : St w es m gv bv gn bn ends L (p :: sfx) W := by
  obtain ⟨nx, hM, hI⟩ := h.next
  exact ⟨by rw [← end_vals hcnt hmono hc ht]; exact h.vals, ⟨nx, hM, hI.congr (fun j _ => end_dn hcnt hmono hc ht j)⟩, h.cE, h.cV, h.cN, h.below, h.big⟩
end

set_option maxRecDepth 100000 in
set_option maxHeartbeats 4000000 in
theorem paint_ok (A : Option Addr) (c n : Nat) (l : List Sp) (be oe ce m : Nat) (es : List Int) (w : World) (hnl : n = l.length) (hn : n ≤ 10000) (hm : m + 1 = es.length) (hm2 : m ≤ 10000) (hh : HasS w w.heap.size A l)
    (hes : es.Pairwise (· < ·)) (hmem : ∀ s ∈ l, s.f ∈ es ∧ s.t ∈ es) (hbe : be < w.heap.size) (hends : ∀ j, j < es.length → w.cell? ⟨be, oe + j, none⟩ = some (.int .i64 (es.getD j 0))) :
    Calls Tryz.prog 35 #[.slice A n c, .slice (some ⟨be, oe, none⟩) (m + 1) ce] w fun e w' => MineOf w w' e (VL es m l) := by
  obtain ⟨i0, hi', hz0, hz1, hz2⟩ := info_parts full3
  have HM := Lib.hid hm
  have HES := Lib.hid hes
  have HMEM := Lib.hid hmem
  have HENDS := Lib.hid hends
  clear hm hes hmem hends
  have HL := Lib.hid hnl
  clear hnl
  refine callsIn_wide.1 (callsIn_of_wp_marks (F := Fence.wide) (n := 10) Tryz.func35 rfl trivial (wpIn_wide.2 ?_) rfl)
  simp only [Tryz.ntmps35, List.size_toArray, List.length_cons, List.length_nil, Nat.reduceAdd, Nat.reduceSub, Array.replicate_succ, Array.replicate_zero, List.push_toArray, List.append_toArray, List.nil_append, List.cons_append]
  have hb0 : Below w.heap.size w (w.alloc (.cells #[.slice (some ⟨be, oe, none⟩) (m + 1) ce] 33)) := (Below.refl _ _).alloc (Nat.le_refl _) _
  have hc0 := (box_at w (.slice (some ⟨be, oe, none⟩) (m + 1) ce) 33).1
  go_wp2_with (first
    | (refine wpList_make_full _ rfl _ _ 33 rfl w.heap.size 3 i0 (.int .i64 0) 1 Tryz.underlying33 hi' hz0 hz1 .i64 .i64 m m m rfl rfl rfl rfl (by rw [hz2]; omega) (by unfold maxLen; omega) (by simp) ?_; intro w1 hown1 hgr1;
        have hx1 : Below (w.heap.size + 1) (w.alloc (.cells #[.slice (some ⟨be, oe, none⟩) (m + 1) ce] 33)) w1 := (Below.refl _ _).grown hgr1 (by simp) (fun k hk => by cases hk);
        have hc1 := (hx1.cell (p := ⟨w.heap.size, 0, none⟩) (by simp)).trans hc0;
        have hb1 := below_trans hb0 (hx1.mono (by simp)) hb0.size;
        have hs1 : w.heap.size + 1 ≤ w1.heap.size := (by have := hx1.size; simpa using this);
        have hs1' : w.heap.size < w1.heap.size := (by omega);
        have hM1 := mine_made hown1)
    | (refine wpList_make_full _ rfl _ _ 33 rfl w.heap.size 3 i0 (.int .i64 0) 1 Tryz.underlying33 hi' hz0 hz1 .i64 .i64 _ _ (m + 1) rfl rfl (by simp) (by simp) (by rw [hz2]; omega) (by unfold maxLen; omega) (by simp; omega) ?_; intro w2 hown2 hgr2;
        have hx2 : Below (w1.heap.size + 1) (w1.alloc (.cells #[.slice (some ⟨w.heap.size + 1, 0, none⟩) m m] 33)) w2 := (Below.refl _ _).grown hgr2 (by simp) (fun k hk => by cases hk);
        have hc2 := (hx2.cell (p := ⟨w.heap.size, 0, none⟩) (by simp; omega)).trans ((((Below.refl w1.heap.size w1).alloc (Nat.le_refl _) _).cell (p := ⟨w.heap.size, 0, none⟩) (by simp; omega)).trans hc1);
        have hv2 := (hx2.cell (p := ⟨w1.heap.size, 0, none⟩) (by simp)).trans (box_at w1 (.slice (some ⟨w.heap.size + 1, 0, none⟩) m m) 33).1;
        have hb2 := below_trans (hb1.alloc hb1.size (.cells #[.slice (some ⟨w.heap.size + 1, 0, none⟩) m m] 33)) (hx2.mono (by simp)) (by simp; have := hb1.size; omega);
        have hs2 : w1.heap.size + 1 ≤ w2.heap.size := (by have := hx2.size; simpa using this);
        have hs2' : w1.heap.size < w2.heap.size := (by omega);
        have hs3' : w.heap.size < w2.heap.size := (by omega);
        have hM2 := mine_made hown2))
  obtain ⟨W3, hW3⟩ : ∃ W3, w2.alloc (.cells #[.slice (some ⟨w1.heap.size + 1, 0, none⟩) (m + 1) (m + 1)] 33) = W3 := ⟨_, rfl⟩
  have cE : W3.cell? ⟨w.heap.size, 0, none⟩ = some (.slice (some ⟨be, oe, none⟩) (m + 1) ce) := by
    rw [← hW3]; exact (((Below.refl w2.heap.size w2).alloc (Nat.le_refl _) _).cell (p := ⟨w.heap.size, 0, none⟩) (by simp; omega)).trans hc2
  have cV : W3.cell? ⟨w1.heap.size, 0, none⟩ = some (.slice (some ⟨w.heap.size + 1, 0, none⟩) m m) := by
    rw [← hW3]; exact (((Below.refl w2.heap.size w2).alloc (Nat.le_refl _) _).cell (p := ⟨w1.heap.size, 0, none⟩) (by simp; omega)).trans hv2
  have cN : W3.cell? ⟨w2.heap.size, 0, none⟩ = some (.slice (some ⟨w1.heap.size + 1, 0, none⟩) (m + 1) (m + 1)) := by
    rw [← hW3]; exact (box_at w2 _ 33).1
  have mV : Mine .i64 3 W3 w.heap.size (.slice (some ⟨w.heap.size + 1, 0, none⟩) m m) (List.replicate m 0) := by
    rw [World.size_alloc] at hM1
    rw [← hW3]; exact (((hM1.alloc _).carry (hx2.mono (by simp))).alloc _)
  have mN : Mine .i64 3 W3 w.heap.size (.slice (some ⟨w1.heap.size + 1, 0, none⟩) (m + 1) (m + 1)) (numK (m + 1) 0) := by
    rw [← hW3, numK_zero]
    have h := hM2.alloc (.cells #[.slice (some ⟨w1.heap.size + 1, 0, none⟩) (m + 1) (m + 1)] 33)
    rw [World.size_alloc] at h
    exact h
  have hb3 : Below w.heap.size w W3 := by rw [← hW3]; exact hb2.alloc hb2.size _
  have hz3 : w2.heap.size + 1 = W3.heap.size := by rw [← hW3]; simp
  have hg2 : w1.heap.size + 1 ≠ w2.heap.size := by
    intro e
    rcases hM2.2 with ⟨a, _⟩ | ⟨g', cap, cur, a, _, hg, _⟩
    · cases a
    · injection a with a1 a2 a3
      injection a1 with a1
      injection a1 with a1
      rw [← a1, World.size_alloc, e, Array.getElem?_eq_none (Nat.le_refl _)] at hg
      cases hg
  have hg1' : w.heap.size + 1 < w1.heap.size := by
    have := (World.ownsRow.lt hown1 _ rfl).2
    simpa using this
  rw [hW3]
  clear hc0 hc1 hc2 hv2 hM1 hM2 hown1 hown2 hgr1 hgr2 hx1 hx2 hb0 hb1 hb2 hi' hz0 hz1 hz2 hW3
  go_loopw [7, 22] (fun _ j wr => ∃ k : Nat, k ≤ m + 1 ∧ j = .int .i64 k ∧ Mine .i64 3 wr w.heap.size (.slice (some ⟨w1.heap.size + 1, 0, none⟩) (m + 1) (m + 1)) (numK (m + 1) k) ∧ Only (w1.heap.size + 1) W3 wr) (fun _ j _ => m + 1 - (intOf j).toNat)
  case atStart => exact ⟨0, by omega, rfl, mN, Only.refl _ _⟩
  case round =>
    clear mN
    obtain ⟨k, hk, rfl, hown, hO⟩ := hrel
    have cN' := hO.cell (p := ⟨w2.heap.size, 0, none⟩) (by simp; omega) cN
    by_cases hlt : k < m + 1
    · have hlen := numK_length (m + 1) k hk
      have hset := hown.set k (by rw [hlen]; exact hlt) k
      rw [numK_set _ _ hlt] at hset
      replace hset := Lib.hid hset
      have hfz := hown.free k
      obtain ⟨X, hX⟩ : ∃ X, (numK (m + 1) k)[k]? = some X := ⟨_, List.getElem?_eq_getElem (by rw [hlen]; exact hlt)⟩
      obtain ⟨g', c', hv, hg1, hg2', hcell⟩ := hown.form (by intro h; rw [h] at hlen; simp at hlen)
      injection hv with hv1 hv2 hv3
      injection hv1 with hv1
      injection hv1 with hv1
      subst hv1
      have hck := hcell k X hX
      have hO2 := Lib.hid (hO.setCell k (.int .i64 k))
      clear hX hcell hown hv2 hv3 hlen hO
      go_wp2
      go_roundw
      case rel => exact ⟨k + 1, by omega, by go_num, hset.out, hO2.out⟩
      case measure => simp [intOf]; omega
    · obtain rfl : k = m + 1 := by omega
      rw [numK_end] at hown
      have mV' := hO.mine (by omega) mV
      have cE' := hO.cell (p := ⟨w.heap.size, 0, none⟩) (by simp; omega) cE
      have cV' := hO.cell (p := ⟨w1.heap.size, 0, none⟩) (by simp) cV
      have hb4 := hb3.trans (hO.below.mono (by omega))
      have hz4 : wr.heap.size = W3.heap.size := hO.size
      clear cE cV cN mV hb3 hO hlt
      go_wp2_with (go_at_call 57; refine (callsIn_wide.1 (back_in Fence.wide 8 trivial rfl A n c _)).mono ?_; rintro e w' ⟨rfl, rfl⟩)
      have hst0 : St w es m (w.heap.size + 1) w1.heap.size (w1.heap.size + 1) w2.heap.size (.slice (some ⟨be, oe, none⟩) (m + 1) ce) (W3.heap.size + 1) [] (wr.alloc (.cells #[.slice A n c] 24)) := by
        refine ⟨by rw [VL_nil]; exact mV'.alloc _, ⟨_, hown.alloc _, (inv_start (m + 1)).congr (fun j _ => by rw [DN_nil])⟩, ?_, ?_, ?_, hb4.alloc hb4.size _, by simp [hz4]⟩
        · exact ((Below.refl wr.heap.size wr).alloc (Nat.le_refl _) _).cell (p := ⟨w.heap.size, 0, none⟩) (by simp; omega) |>.trans cE'
        · exact ((Below.refl wr.heap.size wr).alloc (Nat.le_refl _) _).cell (p := ⟨w1.heap.size, 0, none⟩) (by simp; omega) |>.trans cV'
        · exact ((Below.refl wr.heap.size wr).alloc (Nat.le_refl _) _).cell (p := ⟨w2.heap.size, 0, none⟩) (by simp; omega) |>.trans cN'
      have hbox := (box_at wr (.slice A n c) 24).1
      rw [hz4] at hbox
      have hsz4 : (wr.alloc (.cells #[.slice A n c] 24)).heap.size = W3.heap.size + 1 := by simp [hz4]
      have hb5 : Below w.heap.size w (wr.alloc (.cells #[.slice A n c] 24)) := hb4.alloc hb4.size _
      obtain ⟨W4, hW4⟩ : ∃ W4, wr.alloc (.cells #[.slice A n c] 24) = W4 := ⟨_, rfl⟩
      rw [hW4] at hst0 hbox hsz4 hb5 ⊢
      clear hW4 hown mV' cE' cV' cN' hb4 hz4
      refine (wpIn_wide (n := 8)).1 ?_
      refine wpIn_rangeFunc_ownH (F := Fence.wide) (n := 8) rfl (by omega) (gf := 78) (lb := #[.pointer (some ⟨W3.heap.size, 0, none⟩)]) rfl trivial (enters_of Tryz.func78 (by kernel_rfl) rfl)
        (back_stops Fence.wide 7 trivial rfl (by omega) W3.heap.size w.heap.size n c A l HL.out (by omega) W4 (by omega) (by omega) hbox (hh.below hb5)) KB.trans (fun W l' o o' a b d e => KB.b (N := W4.heap.size) (by omega) (by omega) W l' o o' a b d e) (Below.refl _ _) (fun _ => rfl)
        (fun pre W => St w es m (w.heap.size + 1) w1.heap.size (w1.heap.size + 1) w2.heap.size (.slice (some ⟨be, oe, none⟩) (m + 1) ce) (W3.heap.size + 1) (spansOf pre).reverse W)
        (fun _ _ _ => False)
        (fun pre X Y row hs hg hr => hs.kept (B := W4.heap.size) (by omega) hg hr)
        (fun _ _ _ _ _ hs _ _ => hs)
        hst0
        (fun x a' W => ∃ Bx, W3.heap.size < Bx ∧ At W Bx 32 #[.int .i64 x.1.2.f, .int .i64 x.1.2.t, .int .i64 x.1.2.v] ∧ a' = { tmps := #[Value.slice A n c, Value.slice (some { block := be, off := oe }) (m + 1) ce, undef, Value.pointer (some { block := w.heap.size, off := 0 }), Value.slice none 0 0, Value.pointer (some { block := w1.heap.size, off := 0 }), Value.pointer (some { block := w2.heap.size, off := 0 }), u7, undef, Value.pointer (some { block := Bx, off := 0 }), undef, undef, undef, Value.slice (some { block := be, off := oe }) (m + 1) ce, Value.int IntKind.i64 (↑m + 1), Value.int IntKind.i64 ↑m, Value.slice (some { block := w.heap.size + 1, off := 0 }) m m, Value.slice (some { block := be, off := oe }) (m + 1) ce, Value.int IntKind.i64 (↑m + 1), Value.slice (some { block := w1.heap.size + 1, off := 0 }) (m + 1) (m + 1), Value.slice (some { block := w1.heap.size + 1, off := 0 }) (m + 1) (m + 1), Value.int IntKind.i64 (↑m + 1), Value.int IntKind.i64 (↑m + 1), Value.bool false, u24, u25, u26, u27, u28, u29, Value.slice A n c, Value.func (Fn.func 78) #[] #[Value.pointer (some { block := W3.heap.size, off := 0 })], Value.int IntKind.i64 ↑x.val.fst, Value.agg #[Value.int IntKind.i64 x.val.snd.f, Value.int IntKind.i64 x.val.snd.t, Value.int IntKind.i64 x.val.snd.v], undef, undef, undef, undef, undef, undef, undef, undef, undef, undef, undef, undef, undef, undef, undef, undef, undef, undef, undef, undef, undef, undef, undef, undef, undef, undef, undef, undef, undef, undef, undef], defers := [] })
        (fun x a' _ X Y row hs hg hr => by obtain ⟨Bx, h1, h2, h3⟩ := hs; exact ⟨Bx, h1, at_kept h2 hg (fun r e => (hr r e).2), h3⟩)
        ?assign ?body ?done ?stop
      case assign =>
        rintro lp pre x W K hst hK
        have hWB := hst.below.size
        have hsW4 : W3.heap.size < W.heap.size := hst.big
        gi_wp2
        exact hK _ _ ((KeepsOthers.alloc _ _).from _) ⟨(Below.refl _ W).alloc hWB _, Below.heap_alloc _ _ _ hsW4⟩ (hst.kept (B := W4.heap.size) (by omega) (World.grownBy_alloc W _ none) (fun r e => by cases e)) ⟨W.heap.size, hsW4, at_new _ _ _, rfl⟩
      case body =>
        rintro lp pre ⟨⟨ix, p⟩, hpl⟩ a' W hlp ⟨rr, hrr⟩ hst ⟨Bx, hBx, hAt, rfl⟩ hlen
        obtain ⟨hpf, hpt⟩ := HMEM.out p hpl
        have hsf : (spansOf (pre ++ [(⟨(ix, p), hpl⟩ : El l)])).reverse = p :: (spansOf pre).reverse := by rw [spansOf_snoc, List.reverse_append]; rfl
        replace hsf := Lib.hid hsf
        generalize (spansOf pre).reverse = sfx at hst hsf
        obtain ⟨k0, hk0⟩ : ∃ k0, es.countP (· < p.f) = k0 := ⟨_, rfl⟩
        obtain ⟨C, hC⟩ : ∃ C, es.contains p.f = C := ⟨_, rfl⟩
        have hcnt : ∀ j, j ≤ m → (k0 ≤ j ↔ p.f ≤ eAt es j) := fun j hj => by
          have hj2 : j < es.length := by have := HM.out; omega
          have := count_lt es HES.out p.f j hj2
          rw [hk0] at this
          have e : eAt es j = es[j] := by unfold eAt; simp [List.getD, List.getElem?_eq_getElem hj2]
          rw [e]
          omega
        have hmono : ∀ i j, i < j → j ≤ m → eAt es i < eAt es j := fun i j hij hj => by
          have hj2 : j < es.length := by have := HM.out; omega
          have e1 : eAt es j = es[j] := by unfold eAt; simp [List.getD, List.getElem?_eq_getElem hj2]
          have e2 : eAt es i = es[i] := by unfold eAt; simp [List.getD, List.getElem?_eq_getElem (show i < es.length by omega)]
          rw [e1, e2]
          exact List.pairwise_iff_getElem.1 HES.out i j (by omega) hj2 hij
        have hk0m : k0 ≤ m := by
          obtain ⟨j, hj, hje⟩ := List.getElem_of_mem hpf
          have := count_lt es HES.out p.f j hj
          rw [hk0, hje] at this
          have := HM.out
          omega
        have hlast : p.t ≤ eAt es m := by
          obtain ⟨j, hj, hje⟩ := List.getElem_of_mem hpt
          have e1 : eAt es j = p.t := by unfold eAt; simp [List.getD, List.getElem?_eq_getElem hj, hje]
          rcases Nat.lt_or_ge j m with h | h
          · have := hmono j m h (Nat.le_refl _)
            omega
          · have : j = m := by have := HM.out; omega
            subst this
            omega
        have H44 := Lib.hid (fun W' (hb : Below w.heap.size w W') => (show Calls Tryz.prog 58 #[.slice (some ⟨be, oe, none⟩) (m + 1) ce, .int .i64 p.f] W' fun e w' => e = .returned (.tuple #[.int .i64 k0, .bool C]) ∧ ∃ q, w' = W'.drewN q from by
          have h := Tryz.slices_BinarySearch_int be oe (m + 1) ce es p.f W' (by have := HM.out; omega) (by omega) (fun j hj => (hb.cell (p := ⟨be, oe + j, none⟩) hbe).trans (HENDS.out j hj)) (by rw [List.take_of_length_le (by have := HM.out; omega)]; exact HES.out.imp (fun h => by omega))
          rw [List.take_of_length_le (by have := HM.out; omega), hk0, hC] at h
          exact h))
        have H45 := Lib.hid (fun (c : Nat) (hc : c ≤ m) nx (dn : Nat → Bool) W' (hm1 : Mine .i64 3 W' w.heap.size (.slice (some ⟨w1.heap.size + 1, 0, none⟩) (m + 1) (m + 1)) nx) (hI : Inv nx dn (m + 1)) (hl : ∀ j, j < m + 1 → dn j = true → j + 1 < m + 1) =>
          bare_ok w.heap.size (w1.heap.size + 1) (m + 1) (m + 1) nx dn c W' hm1 hI hl (by omega) (by omega))
        have hcE := hst.cE
        have hcN := hst.cN
        have x0 := hAt.cell 0 _ rfl
        have hbel := hst.below
        obtain ⟨nx0, hnx0, hInv0⟩ := hst.next
        have hdl0 : ∀ j, j < m + 1 → DN es m sfx j = true → j + 1 < m + 1 := fun j _ h => by
          unfold DN at h
          have := (Bool.and_eq_true _ _).mp h |>.1
          simp at this
          omega
        replace hInv0 := Lib.hid hInv0
        replace hdl0 := Lib.hid hdl0
        replace hcnt := Lib.hid hcnt
        replace hmono := Lib.hid hmono
        replace hst := Lib.hid hst
        clear hk0 hC hpf hpt
        gi_wp2_with (first
          | (refine ⟨trivial, ?_⟩; gi_at_call 58; refine (CallsIn.inRound lp (callsIn_wide.2 (H44.out _ hbel))).mono ?_; rintro e w5 ⟨rfl, q5, rfl⟩)
          | (refine ⟨trivial, ?_⟩; gi_at_call 59; refine (CallsIn.inRound lp (callsIn_wide.2 (H45.out k0 hk0m nx0 _ _ (hnx0.drewN q5) hInv0.out hdl0.out))).mono ?_; rintro e w6 ⟨r, nx6, rfl, hr1, hr2, hr3, hr4, hM6, hI6, hO6⟩))
        have hsz3 : w2.heap.size + 1 = W3.heap.size := hz3
        have hd : w.heap.size + 1 ≠ w1.heap.size + 1 ∧ w.heap.size ≠ w1.heap.size + 1 ∧ w1.heap.size ≠ w1.heap.size + 1 ∧ w2.heap.size ≠ w1.heap.size + 1 ∧ Bx ≠ w1.heap.size + 1 ∧ W3.heap.size ≠ w1.heap.size + 1 := by omega
        have hd2 : w.heap.size ≠ w.heap.size + 1 ∧ w1.heap.size ≠ w.heap.size + 1 ∧ w2.heap.size ≠ w.heap.size + 1 ∧ Bx ≠ w.heap.size + 1 ∧ W3.heap.size ≠ w.heap.size + 1 := by omega
        have hmid0 : Mid w es m (w.heap.size + 1) w1.heap.size (w1.heap.size + 1) w2.heap.size W3.heap.size Bx (.slice (some ⟨be, oe, none⟩) (m + 1) ce) (W3.heap.size + 1) sfx p k0 W k0 W :=
          ⟨by rw [start_vals]; exact hst.out.vals, by obtain ⟨nx, a, b⟩ := hst.out.next; exact ⟨nx, a, b.congr (fun j _ => (start_dn j).symm)⟩, hst.out.cE, hst.out.cV, hst.out.cN, hst.out.below, hst.out.big, hAt, KeepsOthers.refl _, KB.refl _ _ _⟩
        have hmid1 := (hmid0.drewN q5).bare (gB := by omega) hd hO6 hM6 (hI6.congr (fun j _ => (start_dn j).symm)) hr1 (fun j a b => by rw [start_dn]; exact hr4 j a b)
        have hund : dnM es m sfx p k0 r r = false := by rw [skip_dn hr1 (fun j a b => by rw [start_dn]; exact hr4 j a b), start_dn]; exact hr3
        have hrm : r ≤ m := by omega
        clear hmid0 hM6 hI6 hO6 hr3 hr4 hnx0 hcE hcN x0 hbel hAt hInv0 hdl0 hr2
        gi_loopw [12] (fun v wr => ∃ c : Nat, v = .int .i64 c ∧ k0 ≤ c ∧ c ≤ m ∧ dnM es m sfx p k0 c c = false ∧ Mid w es m (w.heap.size + 1) w1.heap.size (w1.heap.size + 1) w2.heap.size W3.heap.size Bx (.slice (some ⟨be, oe, none⟩) (m + 1) ce) (W3.heap.size + 1) sfx p k0 W c wr) (fun v _ => m + 1 - (intOf v).toNat)
        case atStart => exact ⟨r, rfl, hr1, hrm, hund, hmid1⟩
        case round =>
          clear hmid1 hund hrm hr1
          obtain ⟨k, rfl, hk1, hk2, hu, hmid⟩ := hrel
          have cE := hmid.cE
          have cV := hmid.cV
          have cN := hmid.cN
          have x1 := hmid.hat.cell 1 _ rfl
          have x2 := hmid.hat.cell 2 _ rfl
          have cC := (hmid.below.cell (p := ⟨be, oe + k, none⟩) hbe).trans (HENDS.out k (by have := HM.out; omega))
          have eC : es.getD k 0 = eAt es k := rfl
          rw [eC] at cC
          obtain ⟨E, hE⟩ : ∃ E, eAt es k = E := ⟨_, rfl⟩
          rw [hE] at cC
          by_cases hEt : E < p.t
          · have hkm : k < m := by
              rcases Nat.lt_or_ge k m with h | h
              · exact h
              · have : k = m := by omega
                subst this
                omega
            gi_wp2
            refine regionIn_quiet_lit (by kernel_rfl) (by kernel_rfl) (by kernel_rfl) (by rintro ⟨_, _, h⟩; exact h) ?_
            repeat (go_big_quiet_step (fail))
            refine wpQuiet_nil ?_
            rintro _ ⟨nq, rfl⟩
            gi_wp2
            have hmd := (hmid.drewN nq).drew
            have cV2 := hmd.cV
            have cN2 := hmd.cN
            have x3 := hmd.hat.cell 2 _ rfl
            have kn : (0 : Int) ≤ (k : Int) := by omega
            have kl : (k : Int) < (m : Int) := by omega
            have kl2 : (k : Int) < (m : Int) + 1 := by omega
            refine regionIn_held (S := fun w' => w'.cell? ⟨w1.heap.size, 0, none⟩ = some (.slice (some ⟨w.heap.size + 1, 0, none⟩) m m) ∧ w'.cell? ⟨w2.heap.size, 0, none⟩ = some (.slice (some ⟨w1.heap.size + 1, 0, none⟩) (m + 1) (m + 1)) ∧ w'.cell? ⟨Bx, 2, none⟩ = some (.int .i64 p.v)) (by kernel_rfl) (by kernel_rfl) (by rintro ⟨_, _, h⟩; exact h) ?_
            obtain ⟨Wd, hWd⟩ : ∃ Wd, (wr.drewN nq).drew = Wd := ⟨_, rfl⟩
            rw [hWd] at hmd cV2 cN2 x3 ⊢
            have hS : Wd.cell? ⟨w1.heap.size, 0, none⟩ = some (.slice (some ⟨w.heap.size + 1, 0, none⟩) m m) ∧ Wd.cell? ⟨w2.heap.size, 0, none⟩ = some (.slice (some ⟨w1.heap.size + 1, 0, none⟩) (m + 1) (m + 1)) ∧ Wd.cell? ⟨Bx, 2, none⟩ = some (.int .i64 p.v) := ⟨cV2, cN2, x3⟩
            refine wpAnyH_take (i := 0) (v := (.slice (some ⟨w.heap.size + 1, 0, none⟩) m m)) rfl (by kernel_rfl) (by kernel_rfl) (by kernel_rfl) (fun _ _ _ h => h) (Or.inl ⟨by rfl, fun w' hw' => by (obtain ⟨s1, s2, s3⟩ := hw'; go_simp; try exact IntWalk.i64_in _ (by omega))⟩) hS ?_
            try simp only [Act.put, List.setIfInBounds_toArray, List.set_cons_zero, List.set_cons_succ]
            refine wpAnyH_take (i := 1) (v := (.int .i64 k)) rfl (by kernel_rfl) (by kernel_rfl) (by kernel_rfl) (fun _ _ _ h => h) (Or.inl ⟨by rfl, fun w' hw' => by (obtain ⟨s1, s2, s3⟩ := hw'; go_simp; try exact IntWalk.i64_in _ (by omega))⟩) hS ?_
            try simp only [Act.put, List.setIfInBounds_toArray, List.set_cons_zero, List.set_cons_succ]
            refine wpAnyH_take (i := 2) (v := (.slice (some ⟨w1.heap.size + 1, 0, none⟩) (m + 1) (m + 1))) rfl (by kernel_rfl) (by kernel_rfl) (by kernel_rfl) (fun _ _ _ h => h) (Or.inl ⟨by rfl, fun w' hw' => by (obtain ⟨s1, s2, s3⟩ := hw'; go_simp; try exact IntWalk.i64_in _ (by omega))⟩) hS ?_
            try simp only [Act.put, List.setIfInBounds_toArray, List.set_cons_zero, List.set_cons_succ]
            refine wpAnyH_take (i := 3) (v := (.int .i64 k)) rfl (by kernel_rfl) (by kernel_rfl) (by kernel_rfl) (fun _ _ _ h => h) (Or.inl ⟨by rfl, fun w' hw' => by (obtain ⟨s1, s2, s3⟩ := hw'; go_simp; try exact IntWalk.i64_in _ (by omega))⟩) hS ?_
            try simp only [Act.put, List.setIfInBounds_toArray, List.set_cons_zero, List.set_cons_succ]
            refine wpAnyH_take (i := 4) (v := (.pointer (some ⟨Bx, 2, none⟩))) rfl (by kernel_rfl) (by kernel_rfl) (by kernel_rfl) (fun _ _ _ h => h) (Or.inl ⟨by rfl, fun w' hw' => by (obtain ⟨s1, s2, s3⟩ := hw'; go_simp; try exact IntWalk.i64_in _ (by omega))⟩) hS ?_
            try simp only [Act.put, List.setIfInBounds_toArray, List.set_cons_zero, List.set_cons_succ]
            refine wpAnyH_take (i := 5) (v := (.int .i64 p.v)) rfl (by kernel_rfl) (by kernel_rfl) (by kernel_rfl) (fun _ _ _ h => h) (Or.inl ⟨by rfl, fun w' hw' => by (obtain ⟨s1, s2, s3⟩ := hw'; go_simp; try exact IntWalk.i64_in _ (by omega))⟩) hS ?_
            try simp only [Act.put, List.setIfInBounds_toArray, List.set_cons_zero, List.set_cons_succ]
            refine wpAnyH_take (i := 6) (v := (.int .i64 k)) rfl (by kernel_rfl) (by kernel_rfl) (by kernel_rfl) (fun _ _ _ h => h) (Or.inl ⟨by rfl, fun w' hw' => by (obtain ⟨s1, s2, s3⟩ := hw'; go_simp; try exact IntWalk.i64_in _ (by omega))⟩) hS ?_
            try simp only [Act.put, List.setIfInBounds_toArray, List.set_cons_zero, List.set_cons_succ]
            refine wpAnyH_take (i := 7) (v := (.int .i64 (k + 1))) rfl (by kernel_rfl) (by kernel_rfl) (by kernel_rfl) (fun _ _ _ h => h) (Or.inl ⟨by rfl, fun w' hw' => by (obtain ⟨s1, s2, s3⟩ := hw'; go_simp; try exact IntWalk.i64_in _ (by omega))⟩) hS ?_
            try simp only [Act.put, List.setIfInBounds_toArray, List.set_cons_zero, List.set_cons_succ]
            refine wpAnyH_take (i := 8) (v := (.pointer (some ⟨w.heap.size + 1, k, none⟩))) rfl (by kernel_rfl) (by kernel_rfl) (by kernel_rfl) (fun _ _ _ h => h) (Or.inl ⟨by rfl, fun w' hw' => by (obtain ⟨s1, s2, s3⟩ := hw'; go_simp; try exact IntWalk.i64_in _ (by omega))⟩) hS ?_
            try simp only [Act.put, List.setIfInBounds_toArray, List.set_cons_zero, List.set_cons_succ]
            have hvl := valsM_length (es := es) (m := m) (sfx := sfx) (p := p) (k0 := k0) k
            obtain ⟨X, hX⟩ : ∃ X, (valsM es m sfx p k0 k)[k]? = some X := ⟨_, List.getElem?_eq_getElem (by rw [hvl]; exact hkm)⟩
            have fV : Wd.frozen? ⟨w.heap.size + 1, k, none⟩ = false := hmd.vals.free k
            have yV : Wd.cell? ⟨w.heap.size + 1, k, none⟩ = some (.int .i64 X) := by
              obtain ⟨g', c', hv, _, _, hcell⟩ := hmd.vals.form (by intro h; rw [h] at hvl; simp at hvl; omega)
              injection hv with hv1 hv2 hv3
              injection hv1 with hv1
              injection hv1 with hv1
              subst hv1
              exact hcell k X hX
            obtain ⟨nxm, hnm, hIm⟩ := hmd.next
            obtain ⟨Y, hY⟩ : ∃ Y, nxm[k]? = some Y := ⟨_, List.getElem?_eq_getElem (by rw [hIm.1]; omega)⟩
            have fN : Wd.frozen? ⟨w1.heap.size + 1, k, none⟩ = false := hnm.free k
            have yN : Wd.cell? ⟨w1.heap.size + 1, k, none⟩ = some (.int .i64 Y) := by
              obtain ⟨g', c', hv, _, _, hcell⟩ := hnm.form (by intro h; have := hIm.1; rw [h] at this; simp at this)
              injection hv with hv1 hv2 hv3
              injection hv1 with hv1
              injection hv1 with hv1
              subst hv1
              exact hcell k Y hY
            have hmp := hmd.paint hd hd2 (by omega) (by omega) hk1 hkm (by rw [hE]; exact hEt) hu
            have W2c : (Wd.setCell ⟨w.heap.size + 1, k, none⟩ (.int .i64 p.v)).cell? ⟨w1.heap.size + 1, k, none⟩ = some (.int .i64 Y) := (((Only.refl (w.heap.size + 1) Wd).setCell k (.int .i64 p.v)).cell (p := ⟨w1.heap.size + 1, k, none⟩) (by simp; omega)) yN
            have W2f : (Wd.setCell ⟨w.heap.size + 1, k, none⟩ (.int .i64 p.v)).frozen? ⟨w1.heap.size + 1, k, none⟩ = false := by rw [World.frozen?_setCell]; exact fN
            have hS2 : (Wd.setCell ⟨w.heap.size + 1, k, none⟩ (.int .i64 p.v)).cell? ⟨w1.heap.size, 0, none⟩ = some (.slice (some ⟨w.heap.size + 1, 0, none⟩) m m) ∧ (Wd.setCell ⟨w.heap.size + 1, k, none⟩ (.int .i64 p.v)).cell? ⟨w2.heap.size, 0, none⟩ = some (.slice (some ⟨w1.heap.size + 1, 0, none⟩) (m + 1) (m + 1)) ∧ (Wd.setCell ⟨w.heap.size + 1, k, none⟩ (.int .i64 p.v)).cell? ⟨Bx, 2, none⟩ = some (.int .i64 p.v) :=
              ⟨(((Only.refl (w.heap.size + 1) Wd).setCell k (.int .i64 p.v)).cell (p := ⟨w1.heap.size, 0, none⟩) (by simp; omega)) cV2, (((Only.refl (w.heap.size + 1) Wd).setCell k (.int .i64 p.v)).cell (p := ⟨w2.heap.size, 0, none⟩) (by simp; omega)) cN2, (((Only.refl (w.heap.size + 1) Wd).setCell k (.int .i64 p.v)).cell (p := ⟨Bx, 2, none⟩) (by simp; omega)) x3⟩
            have hS3 : ((Wd.setCell ⟨w.heap.size + 1, k, none⟩ (.int .i64 p.v)).setCell ⟨w1.heap.size + 1, k, none⟩ (.int .i64 (k + 1))).cell? ⟨w1.heap.size, 0, none⟩ = some (.slice (some ⟨w.heap.size + 1, 0, none⟩) m m) ∧ ((Wd.setCell ⟨w.heap.size + 1, k, none⟩ (.int .i64 p.v)).setCell ⟨w1.heap.size + 1, k, none⟩ (.int .i64 (k + 1))).cell? ⟨w2.heap.size, 0, none⟩ = some (.slice (some ⟨w1.heap.size + 1, 0, none⟩) (m + 1) (m + 1)) ∧ ((Wd.setCell ⟨w.heap.size + 1, k, none⟩ (.int .i64 p.v)).setCell ⟨w1.heap.size + 1, k, none⟩ (.int .i64 (k + 1))).cell? ⟨Bx, 2, none⟩ = some (.int .i64 p.v) :=
              ⟨hmp.cV, hmp.cN, hmp.hat.cell 2 _ rfl⟩
            refine wpAnyH_all (rs := [9]) (by kernel_rfl) (by simp) ?_
            intro i hi
            obtain rfl : i = 9 := by simpa using hi
            refine wpOp_of rfl rfl (fun K' hK' => ?_)
            go_simp
            refine hK' _ _ ⟨hS2, ?_⟩
            clear hK' K'
            try simp only [Act.put, List.setIfInBounds_toArray, List.set_cons_zero, List.set_cons_succ]
            refine wpAnyH_take (i := 10) (v := (.pointer (some ⟨w1.heap.size + 1, k, none⟩))) rfl (by kernel_rfl) (by kernel_rfl) (by kernel_rfl) (fun _ _ _ h => h) (Or.inl ⟨by rfl, fun w' hw' => by (obtain ⟨s1, s2, s3⟩ := hw'; go_simp; try exact IntWalk.i64_in _ (by omega))⟩) hS2 ?_
            try simp only [Act.put, List.setIfInBounds_toArray, List.set_cons_zero, List.set_cons_succ]
            refine wpAnyH_all (rs := [11]) (by kernel_rfl) (by simp) ?_
            intro i hi
            obtain rfl : i = 11 := by simpa using hi
            refine wpOp_of rfl rfl (fun K' hK' => ?_)
            go_simp
            refine hK' _ _ ⟨hS3, ?_⟩
            clear hK' K'
            refine wpAnyH_done (by kernel_rfl) ?_ _
            have ek : ((k + 1 : Nat) : Int) = (k : Int) + 1 := by omega
            rw [ek] at hmp
            have hself : dnM es m sfx p k0 (k + 1) k = true := dnM_self hk1 hkm (by rw [hE]; exact hEt)
            obtain ⟨Wp, hWp⟩ : ∃ Wp, (Wd.setCell ⟨w.heap.size + 1, k, none⟩ (.int .i64 p.v)).setCell ⟨w1.heap.size + 1, k, none⟩ (.int .i64 ((k : Int) + 1)) = Wp := ⟨_, rfl⟩
            rw [hWp] at hmp ⊢
            have cN9 := hmp.cN
            obtain ⟨nx9, hn9, hI9⟩ := hmp.next
            replace hmp := Lib.hid hmp
            replace hI9 := Lib.hid hI9
            replace hself := Lib.hid hself
            clear hS hS2 hS3 W2c W2f hWp yN yV fN fV hX hY hnm hIm hvl hmid hmd cE cV cN cV2 cN2 x1 x2 x3 hWd kn kl kl2 hi
            gi_wp2_with (first
              | (refine ⟨trivial, ?_⟩; gi_at_call 59; refine (CallsIn.inRound lp (callsIn_wide.2 (H45.out k hk2 nx9 _ _ hn9 hI9.out (fun j hj hd => by have := dnM_lt hd; omega)))).mono ?_; rintro e w7 ⟨r', nx7, rfl, hr1, hr2, hr3, hr4, hM7, hI7, hO7⟩))
            have hrk : k + 1 ≤ r' := by
              rcases Nat.lt_or_ge k r' with h | h
              · exact h
              · have : r' = k := by omega
                subst this
                rw [hself.out] at hr3
                cases hr3
            have hskip : ∀ j, k + 1 ≤ j → j < r' → dnM es m sfx p k0 (k + 1) j = true := fun j a b => hr4 j (by omega) b
            have hmid9 := hmp.out.bare (gB := by omega) hd hO7 hM7 hI7 hrk hskip
            have hund9 : dnM es m sfx p k0 r' r' = false := by rw [skip_dn hrk hskip]; exact hr3
            go_roundw
            case rel => exact ⟨r', rfl, by omega, by omega, hund9, hmid9⟩
            case measure => simp [intOf]; omega
          · have hEt2 : p.t ≤ E := by omega
            gi_wp2
            refine regionIn_quiet_lit (by kernel_rfl) (by kernel_rfl) (by kernel_rfl) (by rintro ⟨_, _, h⟩; exact h) ?_
            repeat (go_big_quiet_step (fail))
            refine wpQuiet_nil ?_
            rintro _ ⟨nq, rfl⟩
            have hfin := hmid.drewN nq
            gi_wp2
            exact ⟨hfin.keeps.from _, hfin.kb, by show St _ _ _ _ _ _ _ _ _ _ _; rw [hsf.out]; exact hfin.done hcnt.out hmono.out hk2 (by rw [hE]; exact hEt2)⟩
      case done =>
        rintro D ys W hD hys hst hK
        have hsf : (spansOf ys).reverse = l := by rw [hys, List.reverse_reverse]
        rw [hsf] at hst
        have cV := hst.cV
        have hput := grownBy_putObj' W D (.deferred none)
        have hrow : ∀ r, some D = some r → W4.heap.size ≤ r ∧ ∃ o : Obj, W.heap[r]? = some o ∧ o.isCells = false := fun r e => by cases e; exact ⟨hD, _, hK, rfl⟩
        have hst2 := Lib.hid (hst.kept (B := W4.heap.size) (by omega) hput hrow)
        clear hput hrow
        go_wp2
        refine ⟨by simp, .inl ⟨_, _, rfl, run_takeDeferred hK, ?_⟩⟩
        exact ⟨_, results_tmp Tryz.results35 _ _ _, _, rfl, hst2.out.vals, hst2.out.below⟩
      case stop =>
        rintro D cc pre W hD _ h _
        exact h.elim
end Go.Proofs.YtnpcakeagpbgiaaGreat.S5

/-
  Contract of the program's Norm: any spans. No condition but bounds on lengths and numbers.
-/
set_option linter.unusedVariables false
set_option linter.unusedSimpArgs false
namespace Go.Proofs.YtnpcakeagpbgiaaGreat.S5
open Go.ChangeShapes Go.WideShapes Go.ChangeAt Go.RowKit

set_option maxHeartbeats 4000000 in
theorem norm_ok (A : Option Addr) (c n : Nat) (l : List Sp) (N : Int) (w : World) (hnl : n = l.length) (hn : n ≤ 4000) (hN : N ≤ 10000) (hh : HasS w w.heap.size A l) :
    Calls Tryz.prog 19 #[.slice A n c, .int .i64 N] w fun e w' => MineSOf w w' e (of (vals l N)) := by
  by_cases hN0 : N ≤ 0
  · rw [vals_neg _ _ hN0, of_nil]
    go_enter Tryz.func19, Tryz.ntmps19
    go_wp2
    go_ret
    exact ⟨_, rfl, MineS.nil_ _ _, Below.refl _ _⟩
  have H34 := Lib.hid (fun w1 (h : HasS w1 w1.heap.size A l) => clip_ok A c n l N w1 hnl (by omega) h)
  have hcl := length_clip N l
  have H35 := Lib.hid (fun A1 c1 w1 (h : HasS w1 w1.heap.size A1 (clipP N l)) => cellEnds_ok A1 c1 (clipP N l).length (clipP N l) N w1 rfl (by omega) h)
  obtain ⟨m, hm, hm0⟩ := ends_two (N := N) (l := l) (by omega)
  have hml : m ≤ 10000 := by have := length_endsP N (clipP N l); omega
  have H36 := Lib.hid (fun A1 c1 be ce w1 h hbe hends => paint_ok A1 c1 (clipP N l).length (clipP N l) be 0 ce m (endsP N (clipP N l)) w1 rfl (by omega) hm hml h (endsP_spec N (clipP N l)).1
    (fun s hs => ⟨((endsP_spec N (clipP N l)).2 _).2 (by unfold ends0; exact List.mem_append_right _ (List.mem_flatMap.2 ⟨s, hs, by simp⟩)), ((endsP_spec N (clipP N l)).2 _).2 (by unfold ends0; exact List.mem_append_right _ (List.mem_flatMap.2 ⟨s, hs, by simp⟩))⟩) hbe hends)
  have HS := Lib.hid (fun k hk => norm_step (N := N) (l := l) (by omega) hm (k := k) hk)
  have HE := Lib.hid (norm_end (N := N) (l := l) (by omega) hm)
  have HZ := Lib.hid (ends_zero (N := N) (l := l) (by omega) hm)
  have HVL : Hid (∀ k, k < m → (VL (endsP N (clipP N l)) m (clipP N l))[k]? = some (lastVal (clipP N l) (eAt (endsP N (clipP N l)) k))) := Lib.hid (fun k hk => by unfold VL; simp [hk])
  have HVN : Hid ((VL (endsP N (clipP N l)) m (clipP N l)).length = m) := Lib.hid (by simp [VL])
  have HLN : Hid (∀ k : Nat, (of ((vals l N).take k)).length ≤ 100000) := Lib.hid (fun k => by
    have := length_of ((vals l N).take k)
    rw [List.length_take, length_vals] at this
    omega)
  generalize VL (endsP N (clipP N l)) m (clipP N l) = vs at H36 HVL HVN
  obtain ⟨n1, hn1⟩ : ∃ n1, (clipP N l).length = n1 := ⟨_, rfl⟩
  rw [hn1] at H35 H36
  generalize endsP N (clipP N l) = E at H35 hm H36 HS HE HZ HVL
  have HM := Lib.hid hm
  have hEne : E ≠ [] := fun h => by rw [h] at hm; simp at hm
  generalize vals l N = xs at HS HE HLN ⊢
  generalize clipP N l = parts at H34 H35 H36 HS HVL hn1
  have hml2 : E.length = m + 1 := hm.symm
  clear hm hnl hcl
  go_enter Tryz.func19, Tryz.ntmps19
  go_wp2_with (first
    | (go_at_call 33; refine (H34.out _ hh).mono ?_; rintro e w1 ⟨v1, rfl, hown1, hb1⟩; obtain ⟨A1, c1, hv1, hc1, _, hs1⟩ := hown1.has; rw [hn1] at hv1; subst hv1; clear hown1)
    | (go_at_call 34; refine (H35.out A1 c1 _ hs1).mono ?_; rintro e w2 ⟨v2, rfl, hown2, hb2⟩; obtain ⟨g, c2, hv2, hg1, hg2, hcell2⟩ := hown2.form hEne; rw [hml2] at hv2; subst hv2; have hs2 := hs1.carry hb2; have hb12 := below_trans hb1 hb2 hb1.size; clear hown2)
    | (go_at_call 35; refine (H36.out A1 c1 g c2 _ hs2 hg2 (fun j hj => by rw [Nat.zero_add]; have h := hcell2 j _ (List.getElem?_eq_getElem hj); rw [h]; simp [List.getD, List.getElem?_eq_getElem hj])).mono ?_; rintro e w3 ⟨v3, rfl, hown3, hb3⟩; obtain ⟨A3, c3, hv3, hs3⟩ := hown3.reads; rw [HVN.out] at hv3; subst hv3; have hb13 := below_trans hb12 hb3 hb12.size; clear hown3))
  have hg3 : g < w3.heap.size := by have := hb3.size; omega
  have HEN : Hid (∀ j, j ≤ m → w3.cell? ⟨g, j, none⟩ = some (.int .i64 (eAt E j))) := Lib.hid (fun j hj => by
    have hj2 : j < E.length := by omega
    have h := hcell2 j _ (List.getElem?_eq_getElem hj2)
    refine (hb3.cell (p := ⟨g, j, none⟩) hg2).trans (h.trans ?_)
    unfold eAt
    simp [List.getD, List.getElem?_eq_getElem hj2])
  clear hcell2 hs1 hs2 hb1 hb2 hb12 hb3 hg1 hg2
  go_loopw [7, 22] (fun v j wr => ∃ k : Nat, k ≤ m ∧ j = .int .i64 k ∧ MineS wr w3.heap.size v (of (xs.take (eAt E k).toNat)) ∧ Below w3.heap.size w3 wr) (fun _ j _ => m - (intOf j).toNat)
  case atStart => exact ⟨0, by omega, rfl, by rw [HZ.out]; exact MineS.nil_ _ _, Below.refl _ _⟩
  case round =>
    obtain ⟨k, hk, rfl, hown, hbl⟩ := hrel
    by_cases hlt : k < m
    · have hsz := hbl.size
      have hvk : k < vs.length := by rw [HVN.out]; exact hlt
      obtain ⟨b3, o3, rfl, hb3, hc3⟩ := hs3.at_int hvk
      have hvv := HVL.out k hlt
      rw [List.getElem?_eq_getElem hvk] at hvv
      injection hvv with hvv
      have hstep := HS.out k hlt
      rw [← hvv] at hstep
      obtain ⟨V, hV⟩ : ∃ V, vs[k] = V := ⟨_, rfl⟩
      rw [hV] at hc3 hstep
      have hce := (hbl.cell (p := ⟨g, k + 1, none⟩) hg3).trans (HEN.out (k + 1) (by omega))
      have hcv := (hbl.cell (p := ⟨b3, o3 + k, none⟩) hb3).trans hc3
      obtain ⟨T, hT⟩ : ∃ T, eAt E (k + 1) = T := ⟨_, rfl⟩
      have hT2 : eAt E (k + 1) = T := hT
      rw [hT] at hce hstep
      have hlen := HLN.out (eAt E k).toNat
      generalize of (xs.take (eAt E k).toNat) = acc at hown hstep hlen
      have HX := Lib.hid (ext_ok w3.heap.size u7 acc T V wr hown hsz hlen)
      replace hstep := Lib.hid hstep
      replace hT2 := Lib.hid hT2
      have kl : (k : Int) + 1 < (m : Int) + 1 := by omega
      have kn : (0 : Int) ≤ (k : Int) + 1 := by omega
      have kt : ((k : Int) + 1).toNat = k + 1 := by omega
      clear hvv hV hT hown hc3 hlen
      go_wp2_with (go_at_call 36; refine HX.out.mono ?_; rintro e w5 ⟨v', rfl, hown', hb'⟩)
      go_roundw
      case rel => exact ⟨k + 1, by omega, by go_num, by rw [hT2.out, ← hstep.out]; exact hown', hbl.trans hb'⟩
      case measure => simp [intOf]; omega
    · obtain rfl : k = m := by omega
      rw [HE.out] at hown
      go_wp2
      go_ret
      exact ⟨_, rfl, hown.low hb13.size, below_trans hb13 hbl hb13.size⟩
end Go.Proofs.YtnpcakeagpbgiaaGreat.S5
