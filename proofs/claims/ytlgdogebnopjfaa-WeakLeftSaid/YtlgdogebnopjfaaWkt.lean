/-
  Contract of terminators (W5): a scan from the left, then a range over slices.Backward that writes into the slice that it reads. Condition: at most 1000 classes, in a slice of the call's own.
-/
import Derived.Test.YtlgdogebnopjfaaWkr
set_option linter.unusedVariables false
set_option linter.unusedSimpArgs false
namespace Go.Proofs.Ytlgdogebnopjfaa
open Go.ChangeShapes Go.WideShapes Go.ChangeAt Go.RowKit Go.Shelf
attribute [local go_sem] Oper.semAt_some

theorem At.free {w : World} {g : Nat} {t : TypeId} {cs : Array Value} (h : At w g t cs) (j : Nat) : w.frozen? ⟨g, j, none⟩ = false := by
  unfold At at h
  simp [World.frozen?, h]
theorem At.cell0 {w : World} {g : Nat} {t : TypeId} {v : Value} (h : At w g t #[v]) : w.cell? ⟨g, 0, none⟩ = some v := h.cell 0 v rfl
theorem At.other {w : World} {g b j : Nat} {t : TypeId} {cs : Array Value} (h : At w g t cs) (hne : g ≠ b) (v : Value) : At (w.setCell ⟨b, j, none⟩ v) g t cs := by
  unfold At
  rw [Below.heap_setCell _ _ _ _ hne]; exact h
theorem At.set0 {w : World} {g : Nat} {t : TypeId} {v : Value} (h : At w g t #[v]) (u : Value) : At (w.setCell ⟨g, 0, none⟩ u) g t #[u] := by
  unfold At at *
  have hlt := (Array.getElem?_eq_some_iff.1 h).1
  have h' : w.heap[g] = .cells #[v] t (0, 0) := by simpa [Array.getElem?_eq_getElem hlt] using h
  show (w.heap.modify g _)[g]? = _
  rw [Array.getElem?_eq_getElem (by simpa using hlt), Array.getElem_modify_self, h']
  rfl
theorem At.kept {W W' : World} {row : Option Nat} {g : Nat} {t : TypeId} {cs : Array Value} (h : At W g t cs) (hg : W.grownBy W' row) (hr : ∀ r, row = some r → ∃ o : Obj, W.heap[r]? = some o ∧ o.isCells = false) : At W' g t cs := by
  unfold At at *
  rw [hg.block g (Array.getElem?_eq_some_iff.1 h).1 (fun e => by
    obtain ⟨o, ho, hc⟩ := hr g e.symm
    rw [h] at ho
    injection ho with ho
    rw [← ho] at hc
    cases hc)]
  exact h
theorem Mine.kept {k : IntKind} {e : TypeId} {W W' : World} {row : Option Nat} {B : Nat} {v : Value} {xs : List Int} (h : Mine k e W B v xs) (hg : W.grownBy W' row) (hr : ∀ r, row = some r → ∃ o : Obj, W.heap[r]? = some o ∧ o.isCells = false) : Mine k e W' B v xs := by
  refine ⟨h.1, ?_⟩
  rcases h.2 with ⟨a, b⟩ | ⟨g, cap, cur, a, b, hgc, r⟩
  · exact .inl ⟨a, b⟩
  · refine .inr ⟨g, cap, cur, a, b, ?_, r⟩
    rw [hg.block g (Array.getElem?_eq_some_iff.1 hgc).1 (fun e => by
      obtain ⟨o, ho, hc⟩ := hr g e.symm
      rw [hgc] at ho
      injection ho with ho
      rw [← ho] at hc
      cases hc)]
    exact hgc

/-- what the second loop of terminators holds when k rounds have run -/
def Tm (w : World) (B b0 n c : Nat) (A : Option Addr) (m : List Int) (k : Nat) (W : World) : Prop :=
  (Mine .i64 3 W B (.slice A n c) (midB m (n - k)) ∧ At W b0 25 #[.slice A n c] ∧ At W (b0 + 1) 3 #[.int .i64 ((bwd m).getD (n - k) 0)] ∧ At W (b0 + 2) 25 #[.slice A n c]) ∧ Below B w W
theorem tm_own (w : World) (B b0 n c : Nat) (A : Option Addr) (m : List Int) (N : Nat) (hB : B ≤ w.heap.size) (hN : B ≤ N) : OwnFrom N (Tm w B b0 n c A m) :=
  OwnFrom.and (Own.from (fun s W W' row hs hg hr => ⟨hs.1.kept hg hr, hs.2.1.kept hg hr, hs.2.2.1.kept hg hr, hs.2.2.2.kept hg hr⟩) _) (ownFrom_below hB hN)

set_option maxRecDepth 100000 in
set_option maxHeartbeats 4000000 in
theorem terminators_ok (v : Value) (l : List Int) (w : World) (B : Nat) (hown : Mine .i64 3 w B v l) (hmax : l.length ≤ 1000) (hB : B ≤ w.heap.size) :
    Calls Try.prog 19 #[v] w fun e w' => e = .returned (.tuple #[]) ∧ Mine .i64 3 w' B v (w5 false l) ∧ Below B w w' := by
  obtain ⟨A, c, rfl, hlc, _, _⟩ := hown.size
  obtain ⟨n, hn⟩ : ∃ n, n = l.length := ⟨_, rfl⟩
  rw [← hn] at hmax hlc hown ⊢
  obtain ⟨g, hgA⟩ : ∃ g, 0 < n → A = some ⟨g, 0, none⟩ := by
    by_cases h : 0 < n
    · obtain ⟨g, c', hv, _⟩ := hown.formB (by omega)
      injection hv with e1
      exact ⟨g, fun _ => e1⟩
    · exact ⟨0, fun h2 => absurd h2 h⟩
  have hgw : ∀ b, (Value.slice A n c).ownBlock = some b → b < w.heap.size := fun b hb => (hown.own_lt b hb).2
  have HGW := Lib.hid hgw
  have HGA := Lib.hid hgA
  have HN := Lib.hid hn
  have HBB := Lib.hid hB
  have HE : Hid (midL E5 E5 0 l n = scn E5 E5 0 l) := Lib.hid (by rw [hn, mid_end])
  have HE2 : Hid (bwd (scn E5 E5 0 l) = w5 false l) := Lib.hid (w5_two l).symm
  have h0 := (scan_start E5 E5 0 hown).alloc (.cells #[.slice A n c] 25)
  have hb0 : Below B w (w.alloc (.cells #[.slice A n c] 25)) := (Below.refl _ _).alloc hB _
  have ha0 : At (w.alloc (.cells #[.slice A n c] 25)) w.heap.size 25 #[.slice A n c] := at_new _ _ _
  have hs0 : (w.alloc (.cells #[.slice A n c] 25)).heap.size = w.heap.size + 1 := by simp
  clear hn hown hgw hgA hB
  refine callsIn_wide.1 (callsIn_of_wp_marks (F := Fence.wide) (n := 10) Try.func19 rfl trivial (wpIn_wide.2 ?_) rfl)
  simp only [Try.ntmps19, List.size_toArray, List.length_cons, List.length_nil, Nat.reduceAdd, Nat.reduceSub, Array.replicate_succ, Array.replicate_zero, List.push_toArray, List.append_toArray, List.nil_append, List.cons_append]
  have c0 := ha0.cell0
  go_wp2
  clear c0
  obtain ⟨W0, hW0⟩ : ∃ W0, w.alloc (.cells #[.slice A n c] 25) = W0 := ⟨_, rfl⟩
  rw [hW0] at h0 hb0 ha0 hs0
  obtain ⟨b0, hb⟩ : ∃ b0, b0 = w.heap.size := ⟨_, rfl⟩
  rw [← hb] at ha0 hs0 ⊢
  rw [hW0]
  have HB0 := Lib.hid hb
  clear hb
  go_loopw [2, 10] (fun b v wr => ∃ (k : Nat) (s : Int), k ≤ n ∧ v = .int .i64 k ∧ b = .int .i64 s ∧ Hid (s = stA E5 0 l k ∧ Mine .i64 3 wr B (.slice A n c) (midL E5 E5 0 l k) ∧ At wr b0 25 #[.slice A n c] ∧ Below B w wr ∧ wr.heap.size = b0 + 1)) (fun _ v _ => n - (intOf v).toNat)
  case atStart => exact ⟨0, 0, by omega, rfl, rfl, Lib.hid ⟨(stA_zero _ _ _).symm, h0, ha0, hb0, hs0⟩⟩
  case round =>
    clear h0 ha0 hb0 hs0 hW0
    obtain ⟨k, s, hkn, rfl, rfl, HM⟩ := hrel
    by_cases hlt : k < n
    · obtain ⟨y, hy⟩ : ∃ y, l[k]? = some y := ⟨_, List.getElem?_eq_getElem (by have := HN.out; omega)⟩
      have HST := Lib.hid (stA_succ E5 0 l k y hy)
      have hAA := HGA.out (by omega)
      obtain ⟨g', hg', hc, hf, hset, hkeep⟩ := HM.out.2.1.scan HM.out.2.2.2.1 hy
      subst hAA
      injection hg' with hg'
      injection hg' with hg'
      subst hg'
      have hne : b0 ≠ g := by have := HGW.out g rfl; have := HB0.out; omega
      have hbx := HM.out.2.2.1
      have hcx := hbx.cell0
      have hbx2 := hbx.other (j := k) hne (.int .i64 4)
      have hcx2 := hbx2.cell0
      have hsz := HM.out.2.2.2.2
      rw [← HM.out.1] at hset hkeep HST
      clear hy HM
      by_cases h6 : y = 6
      · by_cases h4 : s = 4
        · subst h4
          have hd : E5 4 y (l.getD (k + 1) 0) = 4 := if_pos ⟨h6, rfl⟩
          obtain ⟨q1, q2, q3⟩ := hset 4 hd
          rw [hd] at HST
          subst h6
          have HS := Lib.hid (And.intro q1 q2)
          have HX := Lib.hid (And.intro hbx2 hsz)
          clear hset hkeep q1 q2 hd hbx hbx2 hsz
          go_wp2
          go_roundw
          case rel => exact ⟨k + 1, 4, by omega, by go_num, rfl, Lib.hid ⟨HST.out.symm, HS.out.1, HX.out.1, HS.out.2, by simpa using HX.out.2⟩⟩
          case measure => simp [intOf] <;> omega
        · have hd : E5 s y (l.getD (k + 1) 0) = y := if_neg fun h => h4 h.2
          have HS := Lib.hid (hkeep hd)
          rw [hd] at HST
          have hs4 : (s == 4) = false := by simpa using h4
          have HX := Lib.hid (And.intro hbx hsz)
          subst h6
          clear hset hkeep hd hbx hbx2 hcx2 hsz h4
          go_wp2
          go_roundw
          case rel => exact ⟨k + 1, 6, by omega, by go_num, rfl, Lib.hid ⟨HST.out.symm, HS.out.1, HX.out.1, HS.out.2, HX.out.2⟩⟩
          case measure => simp [intOf] <;> omega
      · have hd : E5 s y (l.getD (k + 1) 0) = y := if_neg fun h => h6 h.1
        have HS := Lib.hid (hkeep hd)
        rw [hd] at HST
        have hs6 : (y == 6) = false := by simpa using h6
        have HX := Lib.hid (And.intro hbx hsz)
        clear hset hkeep hd hbx hbx2 hcx2 hsz h6
        go_wp2
        go_roundw
        case rel => exact ⟨k + 1, y, by omega, by go_num, rfl, Lib.hid ⟨HST.out.symm, HS.out.1, HX.out.1, HS.out.2, HX.out.2⟩⟩
        case measure => simp [intOf] <;> omega
    · obtain rfl : k = n := by omega
      have hbx := HM.out.2.2.1
      have hcx := hbx.cell0
      have hsz := HM.out.2.2.2.2
      obtain ⟨m, hm⟩ : ∃ m, scn E5 E5 0 l = m := ⟨_, rfl⟩
      have HMl : Hid (m.length = k) := Lib.hid (by rw [← hm, scn_len]; exact HN.out.symm)
      have hM0 : Mine .i64 3 wr B (.slice A k c) m := by rw [← hm, ← HE.out]; exact HM.out.2.1
      have hBw := HM.out.2.2.2.1
      rw [hm] at HE2
      clear HM HE hm HN
      -- the boxes of the second loop
      have x1 := at_new wr #[.int .i64 0] 3
      rw [hsz] at x1
      have hs1 : (wr.alloc (.cells #[.int .i64 0] 3)).heap.size = b0 + 2 := by simp [hsz]
      have y0 := (hbx.alloc (.cells #[.int .i64 0] 3)).cell0
      have x2 := at_new (wr.alloc (.cells #[.int .i64 0] 3)) #[.slice A k c] 25
      rw [hs1] at x2
      go_wp2_with (go_at_call 23; refine (callsIn_wide.1 (backward_in Fence.wide 8 trivial rfl A k c _)).mono ?_; rintro e w' ⟨rfl, rfl⟩)
      refine (wpIn_wide (n := 8)).1 ?_
      obtain ⟨W1, hW1⟩ : ∃ W1, (wr.alloc (.cells #[.int .i64 0] 3)).alloc (.cells #[.slice A k c] 25) = W1 := ⟨_, rfl⟩
      have t0 : Tm w B b0 k c A m 0 W1 := by
        rw [← hW1]
        have e1 : midB m (k - 0) = m := by rw [Nat.sub_zero, ← HMl.out]; exact midB_all m
        have e2 : (bwd m).getD (k - 0) 0 = 0 := by rw [List.getD_eq_getElem?_getD, List.getElem?_eq_none (by rw [bwd_len, HMl.out]; omega)]; rfl
        refine ⟨⟨by rw [e1]; exact (hM0.alloc _).alloc _, (hbx.alloc _).alloc _, by rw [e2]; exact x1.alloc _, x2⟩, (hBw.alloc ?_ _).alloc ?_ _⟩
        · exact Nat.le_trans HBB.out hBw.size
        · exact Nat.le_trans (Nat.le_trans HBB.out hBw.size) (by simp)
      have hsz1 : W1.heap.size = b0 + 3 := by rw [← hW1]; simp [hsz]
      rw [hW1]
      clear hM0 hbx hcx x1 x2 y0 hs1 hsz hBw hW1
      refine range_counted (F := Fence.wide) (n := 8) rfl (by omega) (gf := 24) (lb := #[.pointer (some ⟨b0 + 2, 0, none⟩)]) rfl trivial (enters_of Try.func24 (by kernel_rfl) rfl)
        k (fun j => #[.int .i64 ((k - 1 - j : Nat) : Int), .int .i64 (m.getD (k - 1 - j) 0)]) (fun _ => rfl) (Tm w B b0 k c A m) (tm_own w B b0 k c A m _ HBB.out (by have := HBB.out; have := HB0.out; omega)) t0 ?_ ?seq ?assign ?body ?done
      case assign =>
        intro lp j W K hK
        gi_wp2
        exact hK
      case seq =>
        intro lp J W hJ hY h0
        refine backward_counted Fence.wide 7 trivial rfl (by omega) lp (b0 + 2) k c g A (by omega) (fun j => m.getD (k - 1 - j) 0) J (fun j W1 hj hJ1 => ?_) (fun W1 hJ1 => (hJ _ _ hJ1).1.2.2.2.cell0) hY W (hJ _ _ h0).1.2.2.2.cell0 h0
        have hT := hJ _ _ hJ1
        have hx : m[k - 1 - j]? = some (m.getD (k - 1 - j) 0) := by
          rw [List.getD_eq_getElem?_getD, List.getElem?_eq_getElem (by have := HMl.out; omega)]; rfl
        have hAA := HGA.out (by omega)
        obtain ⟨g', e1, _, _, hc, _⟩ := hT.1.1.spot ((midB_at m (k - j) (k - 1 - j) (by omega)).trans hx)
        rw [hAA] at e1
        injection e1 with e1
        injection e1 with e1
        subst e1
        exact ⟨hT.1.2.2.2.cell0, hAA, hc⟩
      case body =>
        intro lp j W hj hT
        obtain ⟨q, hq⟩ : ∃ q, k - 1 - j = q := ⟨_, rfl⟩
        have hqk : k - j = q + 1 := by omega
        have hqk2 : k - (j + 1) = q := by omega
        have hqk3 : q < k := by omega
        obtain ⟨y, hy⟩ : ∃ y, m[q]? = some y := ⟨_, List.getElem?_eq_getElem (by have := HMl.out; omega)⟩
        have hAA := HGA.out (by omega)
        subst hAA
        have hgb : g < b0 := by have := HGW.out g rfl; have := HB0.out; omega
        rw [hq]
        simp only [List.getD_eq_getElem?_getD, hy, Option.getD_some]
        obtain ⟨⟨h1, h2, h3, h4⟩, h5⟩ := hT
        rw [hqk] at h1 h3
        obtain ⟨g', e1, hBg, _, hc, hf, hset⟩ := h1.spot ((midB_at m (q + 1) q (by omega)).trans hy)
        injection e1 with e1
        injection e1 with e1
        subst e1
        have hst := midB_step m q y hy
        have hbw := bwd_at m q y hy
        obtain ⟨s', hs'⟩ : ∃ s', (bwd m).getD (q + 1) 0 = s' := ⟨_, rfl⟩
        have hkp := midB_keep m q y hy
        rw [hs'] at hst hbw h3 hkp
        obtain ⟨z, hz⟩ : ∃ z, (if y = 6 ∧ s' = 4 then 4 else y) = z := ⟨_, rfl⟩
        rw [hz] at hst hbw
        have n1 : b0 ≠ g := by omega
        have n2 : b0 + 1 ≠ g := by omega
        have n3 : b0 + 2 ≠ g := by omega
        have hB1 : B ≤ b0 + 1 := by have := HBB.out; have := HB0.out; omega
        have FIN : ∀ W2 : World, Mine .i64 3 W2 B (.slice (some ⟨g, 0, none⟩) k c) (midB m q) → At W2 b0 25 #[.slice (some ⟨g, 0, none⟩) k c] → At W2 (b0 + 1) 3 #[.int .i64 s'] → At W2 (b0 + 2) 25 #[.slice (some ⟨g, 0, none⟩) k c] → Below B w W2 →
            Tm w B b0 k c (some ⟨g, 0, none⟩) m (j + 1) (W2.setCell ⟨b0 + 1, 0, none⟩ (.int .i64 z)) := fun W2 a1 a2 a3 a4 a5 => by
          unfold Tm
          rw [hqk2]
          have e2 : (bwd m).getD q 0 = z := by rw [List.getD_eq_getElem?_getD, hbw]; rfl
          rw [e2]
          exact ⟨⟨a1.stays fun b hb _ => Below.heap_setCell _ _ _ _ (by
            injection hb with hb
            rw [← hb]; exact n2.symm), a2.other (by omega) _, a3.set0 _, a4.other (by omega) _⟩, a5.setCell (p := ⟨b0 + 1, 0, none⟩) hB1 _⟩
        have c2 := h2.cell0
        have c3 := h3.cell0
        have f3 := h3.free 0
        have HFIN := Lib.hid FIN
        have HH := Lib.hid (show _ ∧ _ ∧ _ ∧ _ from ⟨h2, h3, h4, h5⟩)
        clear FIN hqk hqk2 hq hbw hs' hB1
        by_cases h64 : y = 6 ∧ s' = 4
        · obtain ⟨rfl, rfl⟩ := h64
          rw [if_pos ⟨rfl, rfl⟩] at hz
          subst hz
          have k1 := hset 4
          rw [hst] at k1
          have k2 := h2.other (j := q) n1 (.int .i64 4)
          have k3 := h3.other (j := q) n2 (.int .i64 4)
          have k4 := h4.other (j := q) n3 (.int .i64 4)
          have k5 := h5.setCell (p := ⟨g, q, none⟩) hBg (.int .i64 4)
          have HF := Lib.hid (HFIN.out _ k1 k2 k3 k4 k5)
          have d2 := k2.cell0
          have d3 := k3.cell0
          have g3 := k3.free 0
          have dg : (W.setCell ⟨g, q, none⟩ (.int .i64 4)).cell? ⟨g, q, none⟩ = some (.int .i64 4) := World.cell?_setCell_same' _ _ _ (by rw [hc]; rfl)
          clear hset hst k1 k2 k3 k4 k5 h1 h2 h3 h4 h5 HFIN HH hy hj
          gi_wp2
          exact ⟨(KeepsOthers.setCell _ _ _).trans (KeepsOthers.setCell _ _ _), HF.out⟩
        · rw [if_neg h64] at hz
          subst hz
          have h1' := h1
          rw [← hkp (if_neg h64)] at h1'
          have HF := Lib.hid (HFIN.out _ h1' h2 h3 h4 h5)
          by_cases h6 : y = 6
          · subst h6
            have hs4 : (s' == 4) = false := by simpa using fun e => h64 ⟨rfl, e⟩
            clear hset hst hkp h1 h1' h2 h3 h4 h5 HFIN HH hy hj h64
            gi_wp2
            exact ⟨KeepsOthers.setCell _ _ _, HF.out⟩
          · have hs6 : (y == 6) = false := by simpa using h6
            clear hset hst hkp h1 h1' h2 h3 h4 h5 HFIN HH hy hj h64 h6
            gi_wp2
            exact ⟨KeepsOthers.setCell _ _ _, HF.out⟩
      case done =>
        intro D W hD hT hK
        unfold Tm at hT
        rw [Nat.sub_self, midB_zero, HE2.out] at hT
        have HT := Lib.hid hT
        clear hT
        show LeavesInM _ _ _ _ _ _ _ _ _
        refine ⟨by simp, .inl ⟨_, _, rfl, run_takeDeferred hK, ?_⟩⟩
        have hK2 := HT.out.1.1.kept (grownBy_putObj' W D (.deferred none)) (fun r e => by cases e; exact ⟨_, hK, rfl⟩)
        refine ⟨.tuple #[], ?_, rfl, hK2, HT.out.2.trans (belowK_b (w := w) (n₀ := B) HBB.out W D _ _ (by have := HB0.out; omega) hK rfl rfl)⟩
        simp [results, Try.results19, go_sem]
end Go.Proofs.Ytlgdogebnopjfaa
