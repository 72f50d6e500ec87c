/-
  Contract of the document's Pairs. Condition: at most 1000 characters.
-/
import Derived.Test.YtlopddiplmjpfaaBsc
import Derived.Test.YtlopddiplmjpfaaBsw
set_option linter.unusedVariables false
set_option linter.unusedSimpArgs false
namespace Go.Proofs.Ytlopddiplmjpfaa
open Go.ChangeShapes Go.WideShapes Go.ChangeAt Go.RowKit Go.Sort

/-- what the document's scan has found and what stands on its stack, between two rounds -/
structure DocAt (ts cs : List Int) (w : World) (k : Nat) (v5 v6 : Value) (m : Nat) (W : World) : Prop where
  halt : (scanS ts cs k).halt = false
  len : (scanS ts cs k).stk.length = m
  out : MineP W w.heap.size v5 (scanS ts cs k).out
  stk : MineO W w.heap.size v6 (scanS ts cs k).stk
  apart : Apart v5 v6
  below : Below w.heap.size w W
section
variable {ts cs : List Int} {w : World} {k : Nat} {v5 v6 : Value} {m : Nat} {W W' : World}
theorem DocAt.go (h : DocAt ts cs w k v5 v6 m W) (hb : Below W.heap.size W W') : DocAt ts cs w k v5 v6 m W' :=
  ⟨h.halt, h.len, h.out.stays (fun b _ hl => hb.block b hl), h.stk.stays (fun b _ hl => hb.block b hl), h.apart, below_trans h.below hb h.below.size⟩
theorem DocAt.next (h : DocAt ts cs w k v5 v6 m W) (e : stepS ts cs (scanS ts cs k) k = scanS ts cs k) : DocAt ts cs w (k + 1) v5 v6 m W := by
  have e2 : scanS ts cs (k + 1) = scanS ts cs k := e
  exact ⟨by rw [e2]; exact h.halt, by rw [e2]; exact h.len, by rw [e2]; exact h.out, by rw [e2]; exact h.stk, h.apart, h.below⟩
theorem DocAt.waitA (h : DocAt ts cs w k v5 v6 m W) : ∃ A c, v6 = .slice A m c ∧ HasO W W.heap.size A (scanS ts cs k).stk := by
  obtain ⟨A, c, h1, _, _, h2⟩ := h.stk.has
  exact ⟨A, c, by rw [h1, h.len], h2⟩
theorem DocAt.waitB (h : DocAt ts cs w k v5 v6 m W) (hm : 0 < m) : ∃ g c, v6 = .slice (some ⟨g, 0, none⟩) m c ∧ m ≤ c ∧ (∀ (j : Nat) x, (scanS ts cs k).stk[j]? = some x → W.cell? ⟨g, j * 2, none⟩ = some (.int .i64 (x.1 : Int))) := by
  obtain ⟨g, c, h1, h2, _, _, h4⟩ := h.stk.form (by intro e; have := h.len; rw [e] at this; simp at this; omega)
  rw [h.len] at h1 h2
  exact ⟨g, c, h1, h2, fun j x hx => by have := (h4 j x hx).1; rwa [Nat.zero_add] at this⟩
/-- a pair is found -/
theorem DocAt.close {g c j : Nat} {x : Nat × Int} {v' : Value} (h : DocAt ts cs w k v5 (.slice (some ⟨g, 0, none⟩) m c) m W) (hx : (scanS ts cs k).stk[j]? = some x) (he : stepS ts cs (scanS ts cs k) k = ⟨(scanS ts cs k).out ++ [(x.1, k)], (scanS ts cs k).stk.take j, false⟩)
    (hM : MineP W' w.heap.size v' ((scanS ts cs k).out ++ [(x.1, k)])) (hb : Below w.heap.size W W') (hfar : ∀ b, b < W.heap.size → v5.ownBlock ≠ some b → v'.ownBlock ≠ some b ∧ W'.heap[b]? = W.heap[b]?) : DocAt ts cs w (k + 1) v' (.slice (some ⟨g, 0, none⟩) j c) j W' := by
  have e2 : scanS ts cs (k + 1) = ⟨(scanS ts cs k).out ++ [(x.1, k)], (scanS ts cs k).stk.take j, false⟩ := he
  have hj := (List.getElem?_eq_some_iff.1 hx).1
  have hg := h.stk.own_lt g rfl
  have hne : v5.ownBlock ≠ some g := fun e => h.apart g e rfl
  obtain ⟨f1, f2⟩ := hfar g hg.2 hne
  refine ⟨by rw [e2], by rw [e2]; simp; omega, by rw [e2]; exact hM, ?_, fun b hb' e => ?_, h.below.trans hb⟩
  · rw [e2]
    show MineO _ _ _ ((scanS ts cs k).stk.take j)
    refine MineR.cut (n := m) (h.stk.stays fun b hb' hl => ?_) (by omega)
    have hb2 : some g = some b := hb'
    injection hb2 with hb2
    subst hb2
    exact f2
  · have hb2 : some g = some b := e
    injection hb2 with hb2
    subst hb2
    exact f1 hb'
/-- one more waits -/
theorem DocAt.push {v' : Value} (h : DocAt ts cs w k v5 v6 m W) (he : stepS ts cs (scanS ts cs k) k = ⟨(scanS ts cs k).out, (scanS ts cs k).stk ++ [(k, ts.getD k 0)], false⟩)
    (hM : MineO W' w.heap.size v' ((scanS ts cs k).stk ++ [(k, ts.getD k 0)])) (hb : Below w.heap.size W W') (hfar : ∀ b, b < W.heap.size → v6.ownBlock ≠ some b → v'.ownBlock ≠ some b ∧ W'.heap[b]? = W.heap[b]?) : DocAt ts cs w (k + 1) v5 v' (m + 1) W' := by
  have e2 : scanS ts cs (k + 1) = ⟨(scanS ts cs k).out, (scanS ts cs k).stk ++ [(k, ts.getD k 0)], false⟩ := he
  refine ⟨by rw [e2], by rw [e2]; simp [h.len], ?_, by rw [e2]; exact hM, fun b hb' => ?_, h.below.trans hb⟩
  · rw [e2]
    exact h.out.stays fun b hb' hl => (hfar b hl (h.apart b hb')).2
  · exact (hfar b (h.out.own_lt b hb').2 (h.apart b hb')).1
end
theorem open_one (x : Nat × Int) : ∀ u ∈ row2 oc0 oc1 x, u.oneCell' = true := by
  intro u hu
  simp [row2, oc0, oc1] at hu
  rcases hu with rfl | rfl <;> rfl

set_option maxRecDepth 20000 in
set_option maxHeartbeats 8000000 in
theorem rpairs_ok (A C : Option Addr) (ca cc n nc : Nat) (ts cs : List Int) (w : World) (hn : n = ts.length) (hnc : nc = cs.length) (hmax : n ≤ 1000)
    (ht : Has w w.heap.size A (ts.map (Value.int .i32))) (hk : Has w w.heap.size C (cs.map (Value.int .i64))) :
    Calls Try.prog 11 #[.slice A n ca, .slice C nc cc] w fun e w' => ∃ l, PairsOf w w' e l ∧ PairsV ts cs l := by
  by_cases hne : n = nc
  rotate_left
  · have hd : ((n : Int) != (nc : Int)) = true := by simp; omega
    have HP : Hid (PairsV ts cs []) := Lib.hid ⟨fun _ => rfl, fun e => absurd (by omega) hne⟩
    clear hn hnc ht hk hne
    go_enter Try.func11, Try.ntmps11
    go_wp2
    go_ret
    exact ⟨[], ⟨_, rfl, MineR.nil_ _ _ _, Below.refl _ _⟩, HP.out⟩
  subst hne
  have HN := Lib.hid hn
  have HC := Lib.hid hnc
  have HT := Lib.hid (fun (w' : World) (hu : Below w.heap.size w w') => (ht.below hu).more hu.size)
  have HK := Lib.hid (fun (w' : World) (hu : Below w.heap.size w w') => (hk.below hu).more hu.size)
  have HSO := Lib.hid (fun A' c' u (hb : Below w.heap.size w u) (h : MineP u w.heap.size (.slice A' (scanS ts cs n).out.length c') (scanS ts cs n).out) => sorted_ok w.heap.size A' (scanS ts cs n).out.length c' (scanS ts cs n).out u h rfl (by have := out_le ts cs n; omega) hb.size (out_dist ts cs n))
  have HF : Hid (∀ l', (∀ x, x ∈ l' ↔ x ∈ (scanS ts cs n).out) → l'.Pairwise (fun p q => p.1 < q.1) → PairsV ts cs l') := Lib.hid (fun l' h1 h2 => ⟨fun h => absurd (by omega) h, fun _ => ⟨h2, fun p => by rw [h1, ← hn]⟩⟩)
  clear hn hnc ht hk
  go_enter Try.func11, Try.ntmps11
  go_wp2
  go_loopw [5, 6, 7] (fun v5 v6 v7 wr => ∃ (k m : Nat), k ≤ n ∧ m ≤ 63 ∧ v7 = .int .i64 k ∧ Hid (DocAt ts cs w k v5 v6 m wr)) (fun _ _ v7 _ => n - (intOf v7).toNat)
  case atStart => exact ⟨0, 0, by omega, by omega, rfl, Lib.hid ⟨rfl, rfl, MineR.nil_ _ _ _, MineR.nil_ _ _ _, apart_nil _, Below.refl _ _⟩⟩
  case round =>
    obtain ⟨k, m, hkn, hm, rfl, HS⟩ := hrel
    by_cases hlt : k < n
    · have hlt1 : k < ts.length := by have := HN.out; omega
      have hlt2 : k < cs.length := by have := HC.out; omega
      obtain ⟨b1, o1, hA, hb1, hcc1⟩ := (HT.out _ HS.out.below).at_int hlt1
      subst hA
      obtain ⟨b2, o2, hA, hb2, hcc2⟩ := (HK.out _ HS.out.below).at_int hlt2
      subst hA
      have hx1 : ts[k]? = some ts[k] := List.getElem?_eq_getElem hlt1
      have hx2 : cs[k]? = some cs[k] := List.getElem?_eq_getElem hlt2
      generalize ts[k] = X at hcc1 hx1
      generalize cs[k] = Y at hcc2 hx2
      obtain ⟨p, hp⟩ : ∃ p, ofP X = p := ⟨_, rfl⟩
      have ho : opnB ts cs k = (Y == 14 && p.pa != 0 && p.op) := by unfold opnB; rw [getD_of hx1, getD_of hx2, hp]
      have hc : clsB ts cs k = (Y == 14 && p.pa != 0 && !p.op) := by unfold clsB; rw [getD_of hx1, getD_of hx2, hp]
      have hgx : ts.getD k 0 = X := getD_of hx1
      have hgp : (ofP (ts.getD k 0)).pa = p.pa := by rw [hgx, hp]
      have hof := fun w => rof_y X p hp w
      obtain ⟨pb, p1, p2, p3, p4, p5, p6, pa, op⟩ := p
      dsimp only at hof ho hc hgp
      have HOF := Lib.hid hof
      have HGP := Lib.hid hgp
      have HGX := Lib.hid hgx
      have HC2 : Hid (∀ u, Up wr u → u.cell? ⟨b2, o2 + k, none⟩ = some (.int .i64 Y) ∧ u.cell? ⟨b1, o1 + k, none⟩ = some (.int .i32 X)) := Lib.hid (fun u hu => ⟨hu.cell hcc2, hu.cell hcc1⟩)
      have HHALT := Lib.hid HS.out.halt
      clear hof hx1 hx2 hp hgp hgx hcc2 hlt1 hlt2
      by_cases hY : Y = 14
      · subst hY
        by_cases hpa : pa = 0
        · subst hpa
          have HS2 := Lib.hid (HS.out.next (step_skip HHALT.out (by rw [ho]; rfl) (by rw [hc]; rfl)))
          clear ho hc HS
          go_wp2_with (first
            | (go_at_call 23; refine (HOF.out _).mono ?_; rintro e u ⟨rfl, hu⟩)
            | (refine wpList_store_at rfl 37 _ _ rfl u.heap.size _ rfl rfl 37 _ (at_new _ _ _) (by exact Try.infoProp) (by rfl) (by simp [Value.oneCell']) wr (hu.alloc _) hu.1.size ?_; intro w1 hat hoth hsz hU1; have q7 := hat.cell 7 _ rfl; have q8 := hat.cell 8 _ rfl; obtain ⟨hcy, hcx⟩ := HC2.out _ hU1; clear hoth hsz))
          go_roundw
          case rel => exact ⟨k + 1, m, by omega, hm, by go_num, Lib.hid (HS2.out.go hU1.1)⟩
          case measure => simp [intOf] <;> omega
        · have hpz : (pa == 0) = false := by simpa using hpa
          have hpn : (pa != 0) = true := by simpa using hpa
          have HPA := Lib.hid hpa
          clear hpa
          have hlen := HS.out.len
          cases op with
          | false =>
            have ho2 : opnB ts cs k = false := by rw [ho, hpn]; rfl
            have hc2 : clsB ts cs k = true := by rw [hc, hpn]; rfl
            have htop := fun A6 c6 W (hb : Below wr.heap.size wr W) (hh : HasO wr wr.heap.size A6 (scanS ts cs k).stk) => found_ok A6 m c6 pa (scanS ts cs k).stk W hlen.symm (by omega) (hh.carry hb)
            rcases hf : fndN (scanS ts cs k).stk pa m with _ | j
            · obtain ⟨A6, c6, rfl, hh6⟩ := HS.out.waitA
              have HTOP := Lib.hid (fun W (hb : Below wr.heap.size wr W) => by have := htop A6 c6 W hb hh6; rw [topV_none _ _ _ hf] at this; exact this)
              have HS2 := Lib.hid (HS.out.next (step_none HHALT.out ho2 hc2 (by rw [HGP.out, hlen]; exact hf)))
              clear htop hf ho hc ho2 hc2 HS hh6 hlen
              go_wp2_with (first
                | (go_at_call 23; refine (HOF.out _).mono ?_; rintro e u ⟨rfl, hu⟩)
                | (go_at_call 24; refine (HTOP.out _ hU1.1).mono ?_; rintro e u2 ⟨rfl, rfl⟩)
                | (refine wpList_store_at rfl 37 _ _ rfl u.heap.size _ rfl rfl 37 _ (at_new _ _ _) (by exact Try.infoProp) (by rfl) (by simp [Value.oneCell']) wr (hu.alloc _) hu.1.size ?_; intro w1 hat hoth hsz hU1; have q7 := hat.cell 7 _ rfl; have q8 := hat.cell 8 _ rfl; obtain ⟨hcy, hcx⟩ := HC2.out _ hU1; clear hoth hsz))
              go_roundw
              case rel => exact ⟨k + 1, m, by omega, hm, by go_num, Lib.hid (HS2.out.go hU1.1)⟩
              case measure => simp [intOf] <;> omega
            · obtain ⟨hjm, _, _⟩ := fndN_lt _ _ _ _ hf
              have hxj : (scanS ts cs k).stk[j]? = some ((scanS ts cs k).stk[j]'(by omega)) := List.getElem?_eq_getElem (by omega)
              generalize (scanS ts cs k).stk[j]'(by omega) = x at hxj
              obtain ⟨g, c6, rfl, hmc, hgc⟩ := HS.out.waitB (by omega)
              have hstep := step_close HHALT.out ho2 hc2 (by rw [HGP.out, hlen]; exact hf)
              have hgd : (scanS ts cs k).stk.getD j (0, 0) = x := by rw [List.getD_eq_getElem?_getD, hxj]; rfl
              rw [hgd] at hstep
              obtain ⟨A6, c6', hv6, hh6⟩ := HS.out.waitA
              injection hv6 with e1 e2 e3
              subst e1; subst e3
              have HTOP := Lib.hid (fun W (hb : Below wr.heap.size wr W) => by have := htop _ c6 W hb hh6; rw [topV_some _ _ _ _ hf] at this; exact this)
              have HGC := Lib.hid (fun W (hb : Below wr.heap.size wr W) => (hb.cell (p := ⟨g, j * 2, none⟩) (HS.out.stk.own_lt g rfl).2).trans (hgc j x hxj))
              have HM5 := Lib.hid (fun W (hb : Below wr.heap.size wr W) => (HS.out.go hb).out)
              have hBw := HS.out.below.size
              have hol : (scanS ts cs k).out.length ≤ k := out_le ts cs k
              have hjc : j ≤ c6 := by omega
              have HCL := Lib.hid (fun W (hb : Below wr.heap.size wr W) v' w' h1 h2 h3 => ((HS.out.go hb).close (W' := w') (v' := v') hxj hstep h1 h2 h3))
              obtain ⟨xa, xs⟩ := x
              clear htop hf ho hc ho2 hc2 HS hh6 hlen hgc hgd hstep hxj e2
              generalize (scanS ts cs k).out = O5 at *
              go_wp2_with (first
                | (go_at_call 23; refine (HOF.out _).mono ?_; rintro e u ⟨rfl, hu⟩)
                | (go_at_call 24; refine (HTOP.out _ hU1.1).mono ?_; rintro e u2 ⟨rfl, rfl⟩; have hgj := HGC.out _ hU1.1; have hm5 := HM5.out _ hU1.1; have hsz2 := hU1.1.size)
                | (at_builtin; refine wpList_push2 (c0 := pc0) (c1 := pc1) rfl _ _ 26 rfl (.agg #[.int .i64 0, .int .i64 0]) Try.underlying26 full2 rfl (by decide) w.heap.size u5 O5 (xa, k) _ _ rfl (pair_one _) hm5 rfl rfl (by omega) (by omega) ?_; intro v5' w3 hM5 hb4 hfar)
                | (refine wpList_store_at rfl 37 _ _ rfl u.heap.size _ rfl rfl 37 _ (at_new _ _ _) (by exact Try.infoProp) (by rfl) (by simp [Value.oneCell']) wr (hu.alloc _) hu.1.size ?_; intro w1 hat hoth hsz hU1; have q7 := hat.cell 7 _ rfl; have q8 := hat.cell 8 _ rfl; obtain ⟨hcy, hcx⟩ := HC2.out _ hU1; clear hoth hsz))
              go_roundw
              case rel => exact ⟨k + 1, j, by omega, by omega, by go_num, Lib.hid (HCL.out _ hU1.1 _ _ hM5 hb4 hfar)⟩
              case measure => simp [intOf] <;> omega
          | true =>
            have ho2 : opnB ts cs k = true := by rw [ho, hpn]; rfl
            obtain ⟨A6, c6, rfl, hh6⟩ := HS.out.waitA
            by_cases h63 : m = 63
            · subst h63
              obtain ⟨f1, f2⟩ := step_full HHALT.out ho2 hlen
              have e2 : (scanS ts cs n).out = (scanS ts cs k).out := by
                rw [scan_halt (k + 1) n (by omega) f1]
                exact f2
              have HM5 : Hid (∀ W (hb : Below wr.heap.size wr W), MineP W w.heap.size u5 (scanS ts cs n).out ∧ Below w.heap.size w W) := Lib.hid (fun W hb => ⟨by rw [e2]; exact (HS.out.go hb).out, (HS.out.go hb).below⟩)
              clear ho hc ho2 HS hh6 hlen f1 f2 e2
              generalize (scanS ts cs n).out = O at *
              go_wp2_with (first
                | (go_at_call 23; refine (HOF.out _).mono ?_; rintro e u ⟨rfl, hu⟩)
                | (go_at_call 25; obtain ⟨hv5, hb5⟩ := HM5.out _ hU1.1; obtain ⟨A', c', rfl, hlc, hfr, hh⟩ := hv5.has; refine (HSO.out _ _ _ hb5 hv5).mono ?_; rintro e u2 ⟨rfl, ⟨l', hp1, hp2, hv2⟩, hb2⟩)
                | (refine wpList_store_at rfl 37 _ _ rfl u.heap.size _ rfl rfl 37 _ (at_new _ _ _) (by exact Try.infoProp) (by rfl) (by simp [Value.oneCell']) wr (hu.alloc _) hu.1.size ?_; intro w1 hat hoth hsz hU1; have q7 := hat.cell 7 _ rfl; have q8 := hat.cell 8 _ rfl; obtain ⟨hcy, hcx⟩ := HC2.out _ hU1; clear hoth hsz))
              go_ret
              exact ⟨l', ⟨_, rfl, hv2, hb5.trans hb2⟩, HF.out l' hp1 hp2⟩
            · have hstep := step_open HHALT.out ho2 (by rw [hlen]; exact h63)
              have HM6 := Lib.hid (fun W (hb : Below wr.heap.size wr W) => (HS.out.go hb).stk)
              have HPU := Lib.hid (fun W (hb : Below wr.heap.size wr W) v' w' h1 h2 h3 => ((HS.out.go hb).push (W' := w') (v' := v') hstep h1 h2 h3))
              rw [HGX.out] at HPU
              have hBw := HS.out.below.size
              have hm63 : m < 63 := by omega
              have hmz : ((m : Int) == 63) = false := by simp; omega
              have HPL : Hid ((scanS ts cs k).stk.length ≤ 1000) := Lib.hid (by omega)
              clear ho hc ho2 HS hh6 hlen hstep h63
              generalize (scanS ts cs k).stk = P6 at *
              go_wp2_with (first
                | (go_at_call 23; refine (HOF.out _).mono ?_; rintro e u ⟨rfl, hu⟩)
                | (at_builtin; refine wpList_push2 (c0 := oc0) (c1 := oc1) rfl _ _ 43 rfl (.agg #[.int .i64 0, .int .i32 0]) Try.underlying43 fullO rfl (by decide) w.heap.size (.slice A6 m c6) P6 (k, X) _ _ rfl (open_one _) hm6 rfl rfl (by omega) (by have := HPL.out; omega) ?_; intro v6' w3 hM6 hb4 hfar)
                | (refine wpList_store_at rfl 37 _ _ rfl u.heap.size _ rfl rfl 37 _ (at_new _ _ _) (by exact Try.infoProp) (by rfl) (by simp [Value.oneCell']) wr (hu.alloc _) hu.1.size ?_; intro w1 hat hoth hsz hU1; have q7 := hat.cell 7 _ rfl; have q8 := hat.cell 8 _ rfl; obtain ⟨hcy, hcx⟩ := HC2.out _ hU1; have hm6 := HM6.out _ hU1.1; have hsz2 := hU1.1.size; clear hoth hsz))
              go_roundw
              case rel => exact ⟨k + 1, m + 1, by omega, by omega, by go_num, Lib.hid (HPU.out _ hU1.1 _ _ hM6 hb4 hfar)⟩
              case measure => simp [intOf] <;> omega
      · have hYz : (Y == 14) = false := by simpa using hY
        have HS2 := Lib.hid (HS.out.next (step_skip HHALT.out (by rw [ho, hYz]; rfl) (by rw [hc, hYz]; rfl)))
        have hYn : (Y != 14) = true := by simpa using hY
        clear ho hc HS hY
        go_wp2_with (first
          | (go_at_call 23; refine (HOF.out _).mono ?_; rintro e u ⟨rfl, hu⟩)
          | (refine wpList_store_at rfl 37 _ _ rfl u.heap.size _ rfl rfl 37 _ (at_new _ _ _) (by exact Try.infoProp) (by rfl) (by simp [Value.oneCell']) wr (hu.alloc _) hu.1.size ?_; intro w1 hat hoth hsz hU1; have q7 := hat.cell 7 _ rfl; have q8 := hat.cell 8 _ rfl; obtain ⟨hcy, hcx⟩ := HC2.out _ hU1; clear hoth hsz))
        go_roundw
        case rel => exact ⟨k + 1, m, by omega, hm, by go_num, Lib.hid (HS2.out.go hU1.1)⟩
        case measure => simp [intOf] <;> omega
    · obtain rfl : k = n := by omega
      have hv5 := HS.out.out
      have hb5 := HS.out.below
      clear HS
      generalize (scanS ts cs k).out = O at *
      go_wp2_with (first
        | (go_at_call 25; obtain ⟨A', c', rfl, hlc, hfr, hh⟩ := hv5.has; refine (HSO.out _ _ _ hb5 hv5).mono ?_; rintro e u2 ⟨rfl, ⟨l', hp1, hp2, hv2⟩, hb2⟩))
      go_ret
      exact ⟨l', ⟨_, rfl, hv2, hb5.trans hb2⟩, HF.out l' hp1 hp2⟩
end Go.Proofs.Ytlopddiplmjpfaa
