/-
  The program's stockOf of layer 23: for each font a map that tells which of a text's code points the font has. Condition: at most 1000000 fonts, mappings, code points.
-/
import Derived.Test.YtnpcakeagpbgiaaGreatFyc
set_option linter.unusedVariables false
set_option linter.unusedSimpArgs false
namespace Go.Proofs.YtnpcakeagpbgiaaGreat
open Go.ChangeShapes Go.WideShapes Go.ChangeAt Go.RowKit Go.Sort

/-- of the blocks that were there g alone has turned -/
structure Ofb (g : Nat) (w w' : World) : Prop where
  os : w'.os = w.os
  tape : w'.tape = w.tape
  output : w'.output = w.output
  size : w.heap.size ≤ w'.heap.size
  block : ∀ b, b < w.heap.size → b ≠ g → w'.heap[b]? = w.heap[b]?
section
variable {g : Nat} {a b c : World}
theorem Ofb.refl (g : Nat) (w : World) : Ofb g w w := ⟨rfl, rfl, rfl, Nat.le_refl _, fun _ _ _ => rfl⟩
theorem Ofb.trans (h : Ofb g a b) (k : Ofb g b c) : Ofb g a c := ⟨k.os.trans h.os, k.tape.trans h.tape, k.output.trans h.output, Nat.le_trans h.size k.size, fun x hx hne => (k.block x (Nat.lt_of_lt_of_le hx h.size) hne).trans (h.block x hx hne)⟩
theorem Ofb.of_below (h : Below a.heap.size a b) : Ofb g a b := ⟨h.os, h.tape, h.output, h.size, fun x hx _ => h.block x hx⟩
theorem Ofb.set (h : Ofb g a b) (j : Nat) (v : Value) : Ofb g a (b.setCell ⟨g, j, none⟩ v) := ⟨h.os, h.tape, h.output, by simpa using h.size, fun x hx hne => by rw [Below.heap_setCell _ _ _ _ hne]; exact h.block x hx hne⟩
theorem Ofb.below (h : Ofb g a b) {B : Nat} (hB : B ≤ g) (hs : B ≤ a.heap.size) : Below B a b := ⟨h.os, h.tape, h.output, h.size, fun x hx => h.block x (by omega) (by omega)⟩
theorem Ofb.grown (h : Ofb g a b) (hg : b.grownBy c (some g)) : Ofb g a c := h.trans ⟨hg.os, hg.tape, hg.output, hg.size, fun x hx hne => hg.block x hx (fun e => hne (by injection e))⟩
theorem Ofb.drew (h : Ofb g a b) : Ofb g a b.drew := ⟨h.os, h.tape, h.output, h.size, h.block⟩
/-- a block that was new to a: to a nothing has turned -/
theorem Ofb.fresh (h : Ofb g a b) {d : World} (k : Below d.heap.size d a) (hg : d.heap.size ≤ g) : Below d.heap.size d b := k.trans (h.below hg k.size)
end
theorem Mine.off {k : IntKind} {e : TypeId} {g : Nat} {w w' : World} {B : Nat} {v : Value} {xs : List Int} (h : Mine k e w B v xs) (ho : Ofb g w w') (hne : v.ownBlock ≠ some g) : Mine k e w' B v xs :=
  h.stays fun b hb hlt => ho.block b hlt (fun e => hne (by rw [hb, e]))
/-- what stands between two fonts -/
def StW (w : World) (B gs n p cc : Nat) (Ac : Option Addr) (F : List (List mapS.Dat)) (t cs : List Int) (i : Nat) (W : World) : Prop :=
  ∃ l, StkI W gs n F t l i ∧ MineB W B (.slice (some ⟨gs, 0, none⟩) n n) l ∧ Mine .i32 21 W B (.slice Ac p cc) cs ∧ (∀ b, (Value.slice Ac p cc).ownBlock = some b → b < gs) ∧ Below B w W
theorem font_at2 {w : World} {B : Nat} {A : Option Addr} {c : Nat} {F : List fontS.Dat} (h : Lies w B (.sl fontS) ⟨A, c, F⟩) (k : Nat) (hk : k < F.length) :
    ∃ (b off : Nat) (z : Int) (A1 A' A3 A4 A5 : Option Addr) (n1 n3 n4 n5 c1 c' c3 c4 c5 : Nat), A = some ⟨b, off, none⟩ ∧ b < B ∧
      (w.cell? ⟨b, off + k * 6, none⟩ = some (.int .i64 z) ∧ w.cell? ⟨b, off + k * 6 + 1, none⟩ = some (.slice A1 n1 c1) ∧ w.cell? ⟨b, off + k * 6 + 2, none⟩ = some (.slice A' (mapsOf F[k]).length c') ∧ w.cell? ⟨b, off + k * 6 + 3, none⟩ = some (.slice A3 n3 c3) ∧ w.cell? ⟨b, off + k * 6 + 4, none⟩ = some (.slice A4 n4 c4) ∧ w.cell? ⟨b, off + k * 6 + 5, none⟩ = some (.slice A5 n5 c5)) ∧ HasN mapS.lay w B A' (mapsOf F[k]) := by
  obtain ⟨_, h2, h3⟩ := h
  obtain ⟨b, off, e, hb, hc⟩ := HasN.at_ h2 hk
  have hL := h3 _ (List.getElem_mem hk)
  exact ⟨b, off, _, _, _, _, _, _, _, _, _, _, _, _, _, _, _, e, hb, ⟨hc 0 _ rfl, hc 1 _ rfl, hc 2 _ rfl, hc 3 _ rfl, hc 4 _ rfl, hc 5 _ rfl⟩, hL.2.2.1.2.1⟩
section
variable {w wr : World} {B gs n p cc : Nat} {Ac : Option Addr} {F : List (List mapS.Dat)} {t cs : List Int} {i : Nat}
/-- the font's map is laid -/
def StM (w : World) (B gs n p cc : Nat) (Ac : Option Addr) (F : List (List mapS.Dat)) (t cs : List Int) (i bm : Nat) (W : World) : Prop :=
  ∃ l, (StkI W gs n F t l i ∧ l[i]? = some (some bm) ∧ (∀ j b, j < i → l[j]? = some (some b) → b < bm)) ∧ MineB W B (.slice (some ⟨gs, 0, none⟩) n n) l ∧ Mine .i32 21 W B (.slice Ac p cc) cs ∧ (∀ b, (Value.slice Ac p cc).ownBlock = some b → b < gs) ∧ Below B w W ∧ gs < bm
theorem StW.laid (h : StW w B gs n p cc Ac F t cs i wr) (hi : i < n) (hnF : n = F.length) {W0 : World} (hu : Up wr W0) (hB : B ≤ wr.heap.size) :
    (∃ y, (W0.alloc (.map #[] 0)).cell? ⟨gs, i, none⟩ = some (.map y)) ∧ (W0.alloc (.map #[] 0)).frozen? ⟨gs, i, none⟩ = false ∧ B ≤ gs ∧ gs < wr.heap.size ∧ Below B wr ((W0.alloc (.map #[] 0)).setCell ⟨gs, i, none⟩ (.map (some W0.heap.size))) ∧
    StM w B gs n p cc Ac F t cs i W0.heap.size ((W0.alloc (.map #[] 0)).setCell ⟨gs, i, none⟩ (.map (some W0.heap.size))) ∧ MapB Tryz.prog 21 .i32 ((W0.alloc (.map #[] 0)).setCell ⟨gs, i, none⟩ (.map (some W0.heap.size))) W0.heap.size 0 (fun _ => false) := by
  obtain ⟨l, hS, hM, hC, hlt, hb⟩ := h
  have hg := hM.own_lt gs rfl
  have hM0 := (hM.up hu).alloc (.map #[] 0)
  have hil : i < l.length := by rw [hS.len]; exact hi
  have hx : l[i]? = some l[i] := List.getElem?_eq_getElem hil
  have hs := hu.1.size
  have hne : W0.heap.size ≠ gs := by omega
  have hset := MineN.set (R := LMp) (q := 0) (y := some W0.heap.size) (u := .map (some W0.heap.size)) hM0 hx (by decide) rfl
  rw [show i * LMp.C + 0 = i from by show i * 1 + 0 = i; omega] at hset
  have hc := MineN.cellAt (R := LMp) (q := 0) hM0 hx rfl
  rw [show i * LMp.C + 0 = i from by show i * 1 + 0 = i; omega] at hc
  refine ⟨⟨_, hc⟩, hM0.free i, hg.1, hg.2, ((hu.1.mono hB).alloc (by omega) _).setCell (p := ⟨gs, i, none⟩) hg.1 _, ⟨l.set i (some W0.heap.size), ⟨⟨by rw [List.length_set]; exact hS.len, fun j hj hji => ?_⟩, List.getElem?_set_self hil, fun j b hj hb2 => ?_⟩, hset, ?_, hlt, ?_, by omega⟩, ?_⟩
  · obtain ⟨b, k, f, h1, h2, h3, h4⟩ := hS.maps j hj hji
    refine ⟨b, k, f, by rw [List.getElem?_set_ne (by omega)]; exact h1, ?_, h3, h4⟩
    have hbl := h2.lt
    refine h2.block ?_
    rw [Below.heap_setCell _ _ _ _ h3, Below.heap_alloc _ _ _ (by omega)]
    exact hu.1.block b hbl
  · rw [List.getElem?_set_ne (by omega)] at hb2
    obtain ⟨b', k, f, h1, h2, h3, h4⟩ := hS.maps j (by rw [← hnF]; omega) hj
    rw [h1] at hb2
    injection hb2 with hb2
    injection hb2 with hb2
    have := h2.lt
    omega
  · exact ((hC.up hu).alloc _).stays fun b hb2 _ => Below.heap_setCell _ _ _ _ (show b ≠ gs by have := hlt b hb2; omega)
  · exact ((hb.trans (hu.1.mono hB)).alloc (by omega) _).setCell (p := ⟨gs, i, none⟩) hg.1 _
  · refine (MapB.made W0 Tryz.prog 21 .i32).block ?_
    rw [Below.heap_setCell _ _ _ _ hne]
theorem StM.text {bm : Nat} {W : World} (h : StM w B gs n p cc Ac F t cs i bm W) : Has W W.heap.size Ac (cs.map (Value.int .i32)) ∧ Below B w W ∧ gs < bm := by
  obtain ⟨l, _, _, hC, _, hb, hg⟩ := h
  obtain ⟨A, c, e, _, _, hx⟩ := hC.size
  injection e with e1
  subst e1
  exact ⟨hx, hb, hg⟩
theorem StM.now {bm : Nat} {W W3 wq : World} (h : StM w B gs n p cc Ac F t cs i bm W) (hb : Below W.heap.size W W3) (hbm : bm < W.heap.size) (ho : Ofb bm W3 wq) (hi : i < n) :
    wq.cell? ⟨gs, i, none⟩ = some (.map (some bm)) ∧ Has wq wq.heap.size Ac (cs.map (Value.int .i32)) := by
  obtain ⟨l, ⟨hS, hl, hlo⟩, hM, hC, hlt, hbw, hgb⟩ := h
  have hsz := hb.size
  have hg := hM.own_lt gs rfl
  have hil : i < l.length := by rw [hS.len]; exact hi
  have hc := MineN.cellAt (R := LMp) (q := 0) hM hl rfl
  rw [show i * LMp.C + 0 = i from by show i * 1 + 0 = i; omega] at hc
  refine ⟨?_, ?_⟩
  · have h1 : W3.cell? ⟨gs, i, none⟩ = some (.map (some bm)) := (hb.cell (p := ⟨gs, i, none⟩) hg.2).trans hc
    rw [← h1]
    exact World.cell?_of_block (a := ⟨gs, i, none⟩) (ho.block gs (by omega) (by omega))
  · have h2 := (hC.below hb).off ho (fun e => by have := hlt bm e; omega)
    obtain ⟨A, c, e, _, _, hx⟩ := h2.size
    injection e with e1
    subst e1
    exact hx
/-- what cover.Text handed back, later -/
theorem told_now {bm g0 pv cv : Nat} {Ag : Option Addr} {W3 wq : World} {L : List Int} (hM : Mine .i64 3 W3 g0 (.slice Ag pv cv) L) (hbm : bm < g0) (ho : Ofb bm W3 wq) : Has wq wq.heap.size Ag (L.map (Value.int .i64)) := by
  have h2 := hM.off ho (fun e => by have := (hM.own_lt bm e).1; omega)
  obtain ⟨A, c, e, _, _, hx⟩ := h2.size
  injection e with e1
  subst e1
  exact hx
/-- and filled -/
theorem StM.done {bm nn : Nat} {f : Int → Bool} {W W3 wq : World} {M : List mapS.Dat} (h : StM w B gs n p cc Ac F t cs i bm W) (hb : Below W.heap.size W W3) (hbm : bm < W.heap.size) (ho : Ofb bm W3 wq) (hm : MapB Tryz.prog 21 .i32 wq bm nn f) (hF : ∀ (hi : i < F.length), F[i] = M) (hf : ∀ r ∈ t, f r = hadB M r) (hBm : B ≤ bm) :
    StW w B gs n p cc Ac F t cs (i + 1) wq := by
  obtain ⟨l, ⟨hS, hl, hlo⟩, hM, hC, hlt, hbw, hgb⟩ := h
  have hBW := hbw.size
  have hsz := hb.size
  refine ⟨l, ⟨hS.len, fun j hj hji => ?_⟩, ?_, ?_, hlt, ?_⟩
  · by_cases e : j = i
    · subst e
      exact ⟨bm, nn, f, hl, hm, by omega, fun r hr => by rw [hf r hr, hF hj]⟩
    · obtain ⟨b, k, f', h1, h2, h3, h4⟩ := hS.maps j hj (by omega)
      have h5 := hlo j b (by omega) h1
      have h6 := h2.lt
      exact ⟨b, k, f', h1, h2.block ((ho.block b (by omega) (by omega)).trans (hb.block b h6)), h3, h4⟩
  · exact (hM.below hb).stays fun b hb2 hlt2 => ho.block b hlt2 (by have e : some gs = some b := hb2; injection e with e; omega)
  · exact (hC.below hb).off ho (fun e => by have := hlt bm e; omega)
  · have h1 : Below B w W3 := hbw.trans (hb.mono (by have := hM.own_lt gs rfl; omega))
    exact h1.trans (ho.below hBm (by have := hM.own_lt gs rfl; omega))
end
theorem font_info : (Tryz.prog.info? 43).map (·.size) = some 6 := by kernel_rfl
theorem slice_one' (A : Option Addr) (n c : Nat) : (Value.slice A n c).oneCell' = true := rfl
set_option maxRecDepth 20000 in
set_option maxHeartbeats 8000000 in
theorem stockOf_ok (A T : Option Addr) (c n d m : Nat) (F : List fontS.Dat) (t : List Int) (w : World) (hnl : n = F.length) (hn : n ≤ 1000000) (hML : ∀ x ∈ F, (mapsOf x).length ≤ 1000000) (hml : m = t.length) (hm : m ≤ 1000000) (hwf : ∀ z ∈ t, (Lit.int .i32 z).wf = true)
    (h : Lies w w.heap.size (.sl fontS) ⟨A, c, F⟩) (ht : Has w w.heap.size T (t.map (Value.int .i32))) :
    Calls Tryz.prog 16 #[.slice A n c, .slice T m d] w fun e w' => ∃ g, e = .returned (.slice (some ⟨g, 0, none⟩) n n) ∧ Stk w' g n (allMaps F) t ∧ Below w.heap.size w w' ∧ w.heap.size ≤ g := by
  have HNL := Lib.hid hnl
  have HF := Lib.hid (fun (W : World) (hb : Below w.heap.size w W) => h.below hb)
  have HWF := Lib.hid hwf
  have hb1 : Below w.heap.size w (w.alloc (.cells #[.slice T m d] 23)) := (Below.refl _ _).alloc (Nat.le_refl _) _
  have HS := Lib.hid (sorted_ok w.heap.size d m T t (w.alloc (.cells #[.slice T m d] 23)) hml hm (Boxed.new w _ _) (ht.carry hb1))
  have HML := Lib.hid hml
  have HB1 := Lib.hid hb1
  have HMK := fun W => run_mkB n hn W
  have hmm := @run_makeMap Tryz.prog
  have HMX := Lib.hid hML
  clear h ht hb1 hml hnl hwf hML
  go_enter Tryz.func16, Tryz.ntmps16
  go_wp2_with (first
    | (go_at_call 29; (refine (values_ok T m d _).mono ?_); rintro e u ⟨rfl, rfl⟩)
    | (go_at_call 28; (with_reducible refine HS.out.mono ?_); rintro e u1 ⟨v1, L1, rfl, hp1, hM1, hbl1⟩; (have HC := Lib.hid (compact_any v1 _ L1 u1 hM1 (by rw [hp1.length_eq, ← HML.out]; exact hm))))
    | (go_at_call 27; (with_reducible refine HC.out.mono ?_); rintro e u2 ⟨v2, cs, rfl, ⟨hcs, hcl⟩, hM2, hbl2⟩; clear HC HS))
  have hb12 := hbl1.trans hbl2
  have hbw : Below w.heap.size w u2 := below_trans HB1.out hb12 (by simp)
  have hM3 := hM2.low (show w.heap.size ≤ _ by simp)
  obtain ⟨Ac, cc, rfl, hcc, _, _⟩ := hM3.size
  have hlt : ∀ b, (Value.slice Ac cs.length cc).ownBlock = some b → b < u2.heap.size := fun b hb => (hM3.own_lt b hb).2
  have HCS : Hid ((∀ x, x ∈ t → x ∈ cs) ∧ (∀ z ∈ cs, (Lit.int .i32 z).wf = true) ∧ cs.length ≤ 1000000) := Lib.hid ⟨fun x hx => (hcs x).2 (hp1.mem_iff.2 hx), fun z hz => HWF.out z (hp1.mem_iff.1 ((hcs z).1 hz)), by have := hp1.length_eq; have := HML.out; omega⟩
  have hmk : MineB (u2.alloc (.cells (madeCells #[Value.map none] n) 62)) u2.heap.size (.slice (some ⟨u2.heap.size, 0, none⟩) n n) (List.replicate n none) := mineB_mk hn
  have hst : StW w w.heap.size u2.heap.size n cs.length cc Ac (allMaps F) t cs 0 (u2.alloc (.cells (madeCells #[Value.map none] n) 62)) :=
    ⟨_, ⟨by simp, fun j hj hji => absurd hji (by omega)⟩, MineN.low hmk hbw.size, hM3.alloc _, hlt, hbw.alloc hbw.size _⟩
  have hgw := hbw.size
  obtain ⟨gs, hgs⟩ : ∃ gs, u2.heap.size = gs := ⟨_, rfl⟩
  rw [hgs] at hst hgw
  rw [hgs]
  obtain ⟨p, hpl⟩ : ∃ p, cs.length = p := ⟨_, rfl⟩
  rw [hpl] at hst
  rw [hpl]
  have HPL := Lib.hid hpl
  have HST := Lib.hid hst
  have HGW := Lib.hid hgw
  generalize u2.alloc (.cells (madeCells #[Value.map none] n) 62) = W1 at *
  clear hst hmk hlt hcc hM3 hM2 hbw hb12 hbl1 hbl2 hcs hcl hp1 hM1 HMK HB1 hgs hpl hgw
  go_loopw [20] (fun v wr => ∃ i : Nat, i ≤ n ∧ v = .int .i64 i ∧ Hid (StW w w.heap.size gs n p cc Ac (allMaps F) t cs i wr)) (fun v _ => n - (intOf v).toNat)
  case atStart => exact ⟨0, by omega, rfl, HST⟩
  case round =>
    clear HST
    obtain ⟨i, hin, rfl, HS⟩ := hrel
    by_cases hlt : i < n
    · have hiF : i < F.length := by rw [← HNL.out]; exact hlt
      have hbwr : Below w.heap.size w wr := by
        obtain ⟨l, _, _, _, _, hb⟩ := HS.out
        exact hb
      obtain ⟨b, off, z, A1, A', A3, A4, A5, n1, n3, n4, n5, c1, c', c3, c4, c5, hA, hb, ⟨k0, k1, k2, k3, k4, k5⟩, hHN⟩ := font_at2 (HF.out wr hbwr) i hiF
      subst hA
      have hmx := HMX.out _ (List.getElem_mem hiF)
      obtain ⟨M, hM⟩ : ∃ M, mapsOf F[i] = M := ⟨_, rfl⟩
      rw [hM] at k2 hHN hmx
      obtain ⟨q, hq⟩ : ∃ q, M.length = q := ⟨_, rfl⟩
      rw [hq] at k2 hmx
      have hFM : Hid (∀ hi : i < (allMaps F).length, (allMaps F)[i] = M) := Lib.hid (fun hi => by rw [allMaps_get F i hiF]; exact hM)
      have HL := Lib.hid (fun (W0 : World) (hu : Up wr W0) => HS.out.laid hlt (by rw [allMaps_len]; exact HNL.out) hu hbwr.size)
      have HHN := Lib.hid (fun (W : World) (hb : Below w.heap.size wr W) => ((hHN.below hb).more (Nat.le_trans hbwr.size hb.size) : HasN mapS.lay W W.heap.size A' M))
      have HQ := Lib.hid hq
      clear hHN hM hq hb hiF hbwr HS
      go_wp2_with (first
        | (refine wpList_store_at rfl 43 _ _ rfl wr.heap.size #[.int .i64 z, .slice A1 n1 c1, .slice A' q c', .slice A3 n3 c3, .slice A4 n4 c4, .slice A5 n5 c5] rfl rfl 43 _ (at_new wr _ _) (by exact font_info) (by rfl) (by simp [slice_one', Value.oneCell']) wr ((Up.refl _).alloc _) (Nat.le_refl _) ?_; intro W0 hbx _ hsz0 hu0; (obtain ⟨⟨y, hcy⟩, hfy, hBg, hgl, hb9, hSt, hMp⟩ := HL.out W0 hu0); (have e0 := hbx.cell 0 _ rfl); (have e1 := hbx.cell 1 _ rfl); (have e2 := hbx.cell 2 _ rfl); (have e3 := hbx.cell 3 _ rfl); (have e4 := hbx.cell 4 _ rfl); (have e5 := hbx.cell 5 _ rfl); (have hne : wr.heap.size ≠ gs := by omega); (have hsz1 : W0.heap.size = wr.heap.size + 1 := by rw [hsz0]; simp); (have hw2 : (W0.alloc (.map #[] 0)).setCell ⟨gs, i, none⟩ (.map (some W0.heap.size)) = (W0.setCell ⟨gs, i, none⟩ (.map (some (wr.heap.size + 1)))).alloc (.map #[] 0) := by rw [World.setCell_alloc_past _ _ _ _ (by omega), hsz1]); rw [hw2] at hb9 hSt hMp; (have HTX := Lib.hid (ptext_ok (.int .i64 z) (.slice A1 n1 c1) (.slice A3 n3 c3) (.slice A4 n4 c4) (.slice A5 n5 c5) A' Ac c' q cc p M cs _ HQ.out.symm hmx HPL.out.symm (by rw [← HPL.out]; exact HCS.out.2.2) (HHN.out _ hb9) hSt.text.1 rfl rfl rfl rfl rfl)); (have HST := Lib.hid hSt); (have HMP := Lib.hid hMp); clear hSt hMp hb9 hw2)
        | (go_at_call 30; (with_reducible refine HTX.out.mono ?_); rintro e W3 ⟨vg, rfl, hMg, hb3⟩; (have hlg : (cs.map (gF M)).length = p := by rw [List.length_map]; exact HPL.out); (obtain ⟨Ag, cg, hvg, _, _, _⟩ := hMg.size); rw [hlg] at hvg; subst hvg))
      obtain ⟨bm, hbm⟩ : ∃ bm, W0.heap.size = bm := ⟨_, rfl⟩
      rw [hbm] at HST HMP
      generalize (W0.setCell ⟨gs, i, none⟩ (.map (some (wr.heap.size + 1)))).alloc (.map #[] 0) = W2 at *
      have HMG := Lib.hid hMg
      have HB3 := Lib.hid hb3
      have HBM := Lib.hid HMP.out.lt
      have HMQ : Hid (∃ f nn, nn ≤ 0 ∧ MapB Tryz.prog 21 .i32 W3 bm nn f ∧ (∀ r, f r = toldB (gF M) cs 0 r) ∧ Ofb bm W3 W3) := Lib.hid ⟨_, 0, Nat.le_refl _, HMP.out.below HB3.out HBM.out, fun r => (toldB_zero _ _ r).symm, Ofb.refl _ _⟩
      clear hMg hb3 hlg HTX HMP HHN HL HF hbx e0 e1 e2 e3 e4 e5 k0 k1 k2 k3 k4 k5 hcy hfy hsz0 hsz1 hu0 hmm hbm hne hmx
      go_loopw [33] (fun v wq => ∃ k : Nat, k ≤ p ∧ v = .int .i64 k ∧ Hid (∃ f nn, nn ≤ k ∧ MapB Tryz.prog 21 .i32 wq bm nn f ∧ (∀ r, f r = toldB (gF M) cs k r) ∧ Ofb bm W3 wq)) (fun v _ => p - (intOf v).toNat)
      case atStart => exact ⟨0, by omega, rfl, HMQ⟩
      case round =>
        clear HMQ
        obtain ⟨k, hkp, rfl, HMQ⟩ := hrel
        by_cases hlt2 : k < p
        · have hk1 : k < cs.length := by rw [HPL.out]; exact hlt2
          obtain ⟨f, nn, hnn, hmq, hf, ho⟩ := HMQ.out
          obtain ⟨bg, og, hAg, hbg, hcg⟩ := (told_now HMG.out HBM.out ho).at_int (k := k) (by rw [List.length_map]; exact hk1)
          rw [List.getElem_map] at hcg
          obtain ⟨hcm, hhc⟩ := HST.out.now HB3.out HBM.out ho hlt
          obtain ⟨bc, oc, hAc, hbc, hcc⟩ := hhc.at_int hk1
          subst hAg hAc
          have hwf := HCS.out.2.1 cs[k] (List.getElem_mem hk1)
          have hstep := fun r => toldB_succ (gF M) cs k hk1 r
          obtain ⟨r, hr⟩ : ∃ r, cs[k] = r := ⟨_, rfl⟩
          rw [hr] at hcg hcc hwf
          simp only [hr] at hstep
          have hp1 : p ≤ 1000000 := by rw [← HPL.out]; exact HCS.out.2.2
          have HMB := Lib.hid hmq
          have HO := Lib.hid ho
          by_cases hz : gF M r = 0
          · rw [hz] at hcg
            have HNX : Hid (∃ f nn, nn ≤ k + 1 ∧ MapB Tryz.prog 21 .i32 wr bm nn f ∧ (∀ r, f r = toldB (gF M) cs (k + 1) r) ∧ Ofb bm W3 wr) := Lib.hid ⟨f, nn, by omega, hmq, fun x => by rw [hf, hstep x, hz]; simp, ho⟩
            clear HMQ hhc hmq hf ho hstep hr hz hk1
            go_wp2
            go_roundw
            case rel => exact ⟨k + 1, by omega, by go_num, HNX⟩
            case measure => simp [intOf] <;> omega
          · have HFN : Hid (∀ x, (if x = r then true else f x) = toldB (gF M) cs (k + 1) x) := Lib.hid (fun x => by
              rw [hstep x]
              by_cases e : x = r
              · subst e
                simp [hz]
              · rw [if_neg e, hf]
                simp [show ¬ r = x from fun h => e h.symm])
            obtain ⟨y, hy⟩ : ∃ y, gF M r = y := ⟨_, rfl⟩
            rw [hy] at hcg hz
            clear HMQ hhc hmq hf ho hstep hr hk1 hy
            go_wp2
            go_still_tail 8, (by kernel_rfl)
            change wpList _ _ _ _ _ wr.drew
            have HMD := Lib.hid (HMB.out.block (w' := wr.drew) rfl)
            have HOD := Lib.hid HO.out.drew
            clear HMB HO
            generalize wr.drew = wd at *
            go_wp2_with (at_mapUpdate; refine wpList_store_bool _ rfl _ _ _ 62 rfl 21 4 .i32 Tryz.underlying21 Tryz.underlying62 bm _ _ rfl HMD.out (by unfold maxLen; omega) r rfl hwf _ rfl ?_; intro w5 hM5 hg5)
            have HNX : Hid (∃ f nn, nn ≤ k + 1 ∧ MapB Tryz.prog 21 .i32 w5 bm nn f ∧ (∀ r, f r = toldB (gF M) cs (k + 1) r) ∧ Ofb bm W3 w5) := Lib.hid ⟨_, nn + 1, by omega, hM5, HFN.out, HOD.out.grown hg5⟩
            clear hM5 hg5
            go_roundw
            case rel => exact ⟨k + 1, by omega, by go_num, HNX⟩
            case measure => simp [intOf] <;> omega
        · have HZ : Hid (StW w w.heap.size gs n p cc Ac (allMaps F) t cs (i + 1) wr) := Lib.hid (by
            obtain ⟨f, nn, hnn, hmq, hf, ho⟩ := HMQ.out
            refine HST.out.done HB3.out HBM.out ho hmq hFM.out (fun r hr => ?_) (by have := HST.out.text.2.2; have := HGW.out; omega)
            rw [hf, show k = cs.length by have := HPL.out; omega, toldB_end _ _ _ (HCS.out.1 r hr)]
            rfl)
          clear HMQ HST HMG HB3
          go_wp2
          go_roundw
          case rel => exact ⟨i + 1, by omega, by go_num, HZ⟩
          case measure => simp [intOf] <;> omega
    · have HZ : Hid (Stk wr gs n (allMaps F) t ∧ Below w.heap.size w wr) := Lib.hid (by
        obtain ⟨l, hS, hM, hC, _, hb⟩ := HS.out
        have hg := hM.own_lt gs rfl
        refine ⟨⟨by rw [allMaps_len]; exact HNL.out, hg.2, fun j hj => ?_⟩, hb⟩
        obtain ⟨b, k, f, h1, h2, h3, h4⟩ := hS.maps j hj (by have := HNL.out; rw [allMaps_len] at hj; omega)
        have hc := MineN.cellAt (R := LMp) (q := 0) hM h1 rfl
        rw [show j * LMp.C + 0 = j from by show j * 1 + 0 = j; omega] at hc
        exact ⟨b, k, f, h2.lt, hc, h2, h4⟩)
      clear HS
      go_wp2
      go_ret
      exact ⟨gs, rfl, HZ.out.1, HZ.out.2, HGW.out⟩
end Go.Proofs.YtnpcakeagpbgiaaGreat
