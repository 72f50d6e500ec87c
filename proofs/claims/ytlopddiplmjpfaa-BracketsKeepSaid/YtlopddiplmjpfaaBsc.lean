/-
  Contract of the program's scan: the pairs in the order of the closing brackets. Condition: at most 1000 characters.
-/
import Derived.Test.YtlopddiplmjpfaaBto
set_option linter.unusedVariables false
set_option linter.unusedSimpArgs false
namespace Go.Proofs.Ytlopddiplmjpfaa
open Go.ChangeShapes Go.WideShapes Go.ChangeAt Go.RowKit Go.Sort

theorem Try.infoProp : (Try.prog.info? 37).map (·.size) = some 9 := by kernel_rfl
section
variable {t cs : List Int} {s : Sc} {i : Nat}
theorem step_skip (h : s.halt = false) (h1 : opnB t cs i = false) (h2 : clsB t cs i = false) : stepS t cs s i = s := by
  unfold stepS; simp [h, h1, h2]
theorem step_full (h : s.halt = false) (h1 : opnB t cs i = true) (h2 : s.stk.length = 63) : (stepS t cs s i).halt = true ∧ (stepS t cs s i).out = s.out := by
  unfold stepS; simp [h, h1, h2]
theorem step_open (h : s.halt = false) (h1 : opnB t cs i = true) (h2 : s.stk.length ≠ 63) : stepS t cs s i = ⟨s.out, s.stk ++ [(i, t.getD i 0)], false⟩ := by
  unfold stepS; simp [h, h1, h2]
theorem step_none (h : s.halt = false) (h1 : opnB t cs i = false) (h2 : clsB t cs i = true) (h3 : fndN s.stk (ofP (t.getD i 0)).pa s.stk.length = none) : stepS t cs s i = s := by
  unfold stepS
  rw [if_neg (by simp [h]), if_neg (by simp [h1]), if_pos h2, h3]
theorem step_close {k : Nat} (h : s.halt = false) (h1 : opnB t cs i = false) (h2 : clsB t cs i = true) (h3 : fndN s.stk (ofP (t.getD i 0)).pa s.stk.length = some k) : stepS t cs s i = ⟨s.out ++ [((s.stk.getD k (0, 0)).1, i)], s.stk.take k, false⟩ := by
  unfold stepS
  rw [if_neg (by simp [h]), if_neg (by simp [h1]), if_pos h2, h3, ← h]
theorem scan_halt (k : Nat) : ∀ n, k ≤ n → (scanS t cs k).halt = true → scanS t cs n = scanS t cs k
  | 0, h, _ => by obtain rfl : k = 0 := by omega
                  rfl
  | n + 1, h, hh => by
    by_cases e : k = n + 1
    · subst e; rfl
    · have ih := scan_halt k n (by omega) hh
      show stepS t cs (scanS t cs n) n = _
      rw [ih]
      unfold stepS
      rw [if_pos hh]
theorem topV_none (l : List (Nat × Int)) (pair : Int) (n : Nat) (h : fndN l pair n = none) : topV l pair n = -1 := by unfold topV; rw [h]
theorem topV_some (l : List (Nat × Int)) (pair : Int) (n k : Nat) (h : fndN l pair n = some k) : topV l pair n = k := by unfold topV; rw [h]
end
theorem getD_of {l : List Int} {k : Nat} {x : Int} (h : l[k]? = some x) : l.getD k 0 = x := by rw [List.getD_eq_getElem?_getD, h]; rfl
theorem posOf_take (l : List (Nat × Int)) (k : Nat) : posOf (l.take k) = (posOf l).take k := by unfold posOf; rw [List.map_take]
theorem posOf_snoc (l : List (Nat × Int)) (x : Nat × Int) : posOf (l ++ [x]) = posOf l ++ [(x.1 : Int)] := by simp [posOf]
/-- the two slices lie apart -/
def Apart (v u : Value) : Prop := ∀ b, v.ownBlock = some b → u.ownBlock ≠ some b
theorem Apart.symm {v u : Value} (h : Apart v u) : Apart u v := fun b hb e => h b e hb
theorem apart_nil (u : Value) : Apart (.slice none 0 0) u := fun b hb => by cases hb

/-- what the scan has found and what waits, between two rounds -/
structure ScanAt (ts cs : List Int) (w : World) (k : Nat) (v5 v6 : Value) (m : Nat) (W : World) : Prop where
  halt : (scanS ts cs k).halt = false
  len : (scanS ts cs k).stk.length = m
  out : MineP W w.heap.size v5 (scanS ts cs k).out
  stk : Mine .i64 3 W w.heap.size v6 (posOf (scanS ts cs k).stk)
  apart : Apart v5 v6
  below : Below w.heap.size w W
section
variable {ts cs : List Int} {w : World} {k : Nat} {v5 v6 : Value} {m : Nat} {W W' : World}
theorem ScanAt.go (h : ScanAt ts cs w k v5 v6 m W) (hb : Below W.heap.size W W') : ScanAt ts cs w k v5 v6 m W' :=
  ⟨h.halt, h.len, h.out.stays (fun b _ hl => hb.block b hl), h.stk.stays (fun b _ hl => hb.block b hl), h.apart, below_trans h.below hb h.below.size⟩
theorem ScanAt.next (h : ScanAt ts cs w k v5 v6 m W) (e : stepS ts cs (scanS ts cs k) k = scanS ts cs k) : ScanAt ts cs w (k + 1) v5 v6 m W := by
  have e2 : scanS ts cs (k + 1) = scanS ts cs k := e
  exact ⟨by rw [e2]; exact h.halt, by rw [e2]; exact h.len, by rw [e2]; exact h.out, by rw [e2]; exact h.stk, h.apart, h.below⟩
theorem ScanAt.waitA (h : ScanAt ts cs w k v5 v6 m W) : ∃ A c, v6 = .slice A m c ∧ Has W W.heap.size A ((posOf (scanS ts cs k).stk).map (Value.int .i64)) := by
  obtain ⟨A, c, h1, h2⟩ := h.stk.reads
  exact ⟨A, c, by rw [h1, posOf_length, h.len], h2⟩
theorem ScanAt.waitB (h : ScanAt ts cs w k v5 v6 m W) (hm : 0 < m) : ∃ g c, v6 = .slice (some ⟨g, 0, none⟩) m c ∧ m ≤ c ∧ (∀ (j : Nat) x, (scanS ts cs k).stk[j]? = some x → W.cell? ⟨g, j, none⟩ = some (.int .i64 (x.1 : Int))) := by
  have hl : (posOf (scanS ts cs k).stk).length = m := by rw [posOf_length, h.len]
  have h' := h.stk
  obtain ⟨g, c, h1, h2, h3, h4⟩ := h'.form (by intro e; rw [e] at hl; simp at hl; omega)
  rw [hl] at h1
  refine ⟨g, c, h1, ?_, fun j x hx => h4 j _ (by unfold posOf; rw [List.getElem?_map, hx]; rfl)⟩
  rcases h'.2 with ⟨e, _⟩ | ⟨g', cap, cur, e, _, _, hc, _⟩
  · rw [h1] at e; cases e
  · rw [h1] at e
    injection e with e1 e2 e3
    rw [e3]; omega
theorem ScanAt.signs (h : ScanAt ts cs w k v5 v6 m W) (hk : k ≤ ts.length) : ∀ x ∈ (scanS ts cs k).stk, x.1 < ts.length ∧ x.2 = ts.getD x.1 0 := fun x hx => by
  obtain ⟨h1, _, h3⟩ := (inv_scan ts cs k).stk_lt x hx
  exact ⟨by omega, h3⟩
theorem ScanAt.outLen (h : ScanAt ts cs w k v5 v6 m W) : (scanS ts cs k).out.length ≤ k := out_le ts cs k
/-- a pair is found -/
theorem ScanAt.close {g c j : Nat} {x : Nat × Int} {v' : Value} (h : ScanAt ts cs w k v5 (.slice (some ⟨g, 0, none⟩) m c) m W) (hx : (scanS ts cs k).stk[j]? = some x) (he : stepS ts cs (scanS ts cs k) k = ⟨(scanS ts cs k).out ++ [(x.1, k)], (scanS ts cs k).stk.take j, false⟩)
    (hM : MineP W' w.heap.size v' ((scanS ts cs k).out ++ [(x.1, k)])) (hb : Below w.heap.size W W') (hfar : ∀ b, b < W.heap.size → v5.ownBlock ≠ some b → v'.ownBlock ≠ some b ∧ W'.heap[b]? = W.heap[b]?) : ScanAt ts cs w (k + 1) v' (.slice (some ⟨g, 0, none⟩) j c) j W' := by
  have e2 : scanS ts cs (k + 1) = ⟨(scanS ts cs k).out ++ [(x.1, k)], (scanS ts cs k).stk.take j, false⟩ := he
  have hj := (List.getElem?_eq_some_iff.1 hx).1
  have hg := h.stk.own_lt g rfl
  have hne : v5.ownBlock ≠ some g := fun e => h.apart g e rfl
  obtain ⟨f1, f2⟩ := hfar g hg.2 hne
  refine ⟨by rw [e2], by rw [e2]; simp; omega, by rw [e2]; exact hM, ?_, fun b hb' e => ?_, h.below.trans hb⟩
  · rw [e2]
    show Mine _ _ _ _ _ (posOf ((scanS ts cs k).stk.take j))
    rw [posOf_take]
    refine Mine.cut (n := m) (h.stk.stays fun b hb' hl => ?_) (by rw [posOf_length]; omega)
    have hb2 : some g = some b := hb'
    injection hb2 with hb2
    subst hb2
    exact f2
  · have hb2 : some g = some b := e
    injection hb2 with hb2
    subst hb2
    exact f1 hb'
/-- one more waits -/
theorem ScanAt.push {v' : Value} (h : ScanAt ts cs w k v5 v6 m W) (he : stepS ts cs (scanS ts cs k) k = ⟨(scanS ts cs k).out, (scanS ts cs k).stk ++ [(k, ts.getD k 0)], false⟩)
    (hM : Mine .i64 3 W' w.heap.size v' (posOf (scanS ts cs k).stk ++ [(k : Int)])) (hb : Below w.heap.size W W') (hfar : ∀ b, b < W.heap.size → v6.ownBlock ≠ some b → v'.ownBlock ≠ some b ∧ W'.heap[b]? = W.heap[b]?) : ScanAt ts cs w (k + 1) v5 v' (m + 1) W' := by
  have e2 : scanS ts cs (k + 1) = ⟨(scanS ts cs k).out, (scanS ts cs k).stk ++ [(k, ts.getD k 0)], false⟩ := he
  refine ⟨by rw [e2], by rw [e2]; simp [h.len], ?_, by rw [e2, posOf_snoc]; exact hM, fun b hb' => ?_, h.below.trans hb⟩
  · rw [e2]
    exact h.out.stays fun b hb' hl => (hfar b hl (h.apart b hb')).2
  · exact (hfar b (h.out.own_lt b hb').2 (h.apart b hb')).1
end
theorem pair_one (x : Nat × Nat) : ∀ u ∈ row2 pc0 pc1 x, u.oneCell' = true := by
  intro u hu
  simp [row2, pc0, pc1] at hu
  rcases hu with rfl | rfl <;> rfl

set_option maxRecDepth 20000 in
set_option maxHeartbeats 8000000 in
theorem scan_ok (A C : Option Addr) (ca cc n : Nat) (ts cs : List Int) (w : World) (hn : n = ts.length) (hc : n = cs.length) (hmax : n ≤ 1000)
    (ht : Has w w.heap.size A (ts.map (Value.int .i32))) (hk : Has w w.heap.size C (cs.map (Value.int .i64))) :
    Calls Try.prog 19 #[.slice A n ca, .slice C n cc] w fun e w' => PairsOf w w' e (scanS ts cs n).out := by
  have HN := Lib.hid hn
  have HC := Lib.hid hc
  have HT := Lib.hid (fun (w' : World) (hu : Below w.heap.size w w') => (ht.below hu).more hu.size)
  have HK := Lib.hid (fun (w' : World) (hu : Below w.heap.size w w') => (hk.below hu).more hu.size)
  clear hn hc ht hk
  go_enter Try.func19, Try.ntmps19
  go_wp2
  go_loopw [5, 6, 13] (fun v5 v6 v13 wr => ∃ (k m : Nat), k ≤ n ∧ m ≤ 63 ∧ v13 = .int .i64 k ∧ Hid (ScanAt ts cs w k v5 v6 m wr)) (fun _ _ v13 _ => n - (intOf v13).toNat)
  case atStart => exact ⟨0, 0, by omega, by omega, rfl, Lib.hid ⟨rfl, rfl, MineR.nil_ _ _ _, Mine.nil_ _ _ _ _, apart_nil _, Below.refl _ _⟩⟩
  case round =>
    obtain ⟨k, m, hkn, hm, rfl, HS⟩ := hrel
    by_cases hlt : k < n
    · have hlt1 : k < ts.length := by have := HN.out; omega
      have hlt2 : k < cs.length := by have := HC.out; omega
      obtain ⟨b1, o1, hA, hb1, hcc1⟩ := (HT.out _ HS.out.below).at_int hlt1
      subst hA
      obtain ⟨b2, o2, hA, hb2, hcc2⟩ := (HK.out _ HS.out.below).at_int hlt2
      subst hA
      have hx1 : ts[k]? = some ts[k] := List.getElem?_eq_getElem hlt1
      have hx2 : cs[k]? = some cs[k] := List.getElem?_eq_getElem hlt2
      generalize ts[k] = X at hcc1 hx1
      generalize cs[k] = Y at hcc2 hx2
      obtain ⟨p, hp⟩ : ∃ p, ofP X = p := ⟨_, rfl⟩
      have ho : opnB ts cs k = (Y == 14 && p.pa != 0 && p.op) := by unfold opnB; rw [getD_of hx1, getD_of hx2, hp]
      have hc : clsB ts cs k = (Y == 14 && p.pa != 0 && !p.op) := by unfold clsB; rw [getD_of hx1, getD_of hx2, hp]
      have hgx : ts.getD k 0 = X := getD_of hx1
      have hgp : (ofP (ts.getD k 0)).pa = p.pa := by rw [hgx, hp]
      have hof := fun w => of_x X p hp w
      obtain ⟨pb, p1, p2, p3, p4, p5, p6, pa, op⟩ := p
      dsimp only at hof ho hc hgp
      have HOF := Lib.hid hof
      have HGP := Lib.hid hgp
      have HGX := Lib.hid hgx
      have HC2 : Hid (∀ u, Up wr u → u.cell? ⟨b2, o2 + k, none⟩ = some (.int .i64 Y)) := Lib.hid (fun u hu => hu.cell hcc2)
      have HHALT := Lib.hid HS.out.halt
      clear hof hx1 hx2 hp hgp hgx hcc2 hlt1 hlt2
      by_cases hY : Y = 14
      · subst hY
        by_cases hpa : pa = 0
        · subst hpa
          have HS2 := Lib.hid (HS.out.next (step_skip HHALT.out (by rw [ho]; rfl) (by rw [hc]; rfl)))
          clear ho hc HS
          go_wp2_with (first
            | (go_at_call 17; refine (HOF.out _).mono ?_; rintro e u ⟨rfl, hu⟩)
            | (refine wpList_store_at rfl 37 _ _ rfl u.heap.size _ rfl rfl 37 _ (at_new _ _ _) (by exact Try.infoProp) (by rfl) (by simp [Value.oneCell']) wr (hu.alloc _) hu.1.size ?_; intro w1 hat hoth hsz hU1; have q7 := hat.cell 7 _ rfl; have q8 := hat.cell 8 _ rfl; have hcy := HC2.out _ hU1; clear hoth hsz))
          go_roundw
          case rel => exact ⟨k + 1, m, by omega, hm, by go_num, Lib.hid (HS2.out.go hU1.1)⟩
          case measure => simp [intOf] <;> omega
        · have hpz : (pa == 0) = false := by simpa using hpa
          have hpn : (pa != 0) = true := by simpa using hpa
          have HPA := Lib.hid hpa
          clear hpa
          have hSg := HS.out.signs (by have := HN.out; omega)
          have hlen := HS.out.len
          have hol := HS.out.outLen
          cases op with
          | false =>
            have ho2 : opnB ts cs k = false := by rw [ho, hpn]; rfl
            have hc2 : clsB ts cs k = true := by rw [hc, hpn]; rfl
            have htop := fun A6 c6 W (hb : Below wr.heap.size wr W) (hh : Has wr wr.heap.size A6 ((posOf (scanS ts cs k).stk).map (Value.int .i64))) => topmost_ok A6 (some ⟨b1, o1, none⟩) m c6 n ca pa ts (scanS ts cs k).stk W hlen.symm (by omega) HN.out hmax hSg (hh.carry hb) (HT.out W (below_trans HS.out.below hb HS.out.below.size))
            rcases hf : fndN (scanS ts cs k).stk pa m with _ | j
            · obtain ⟨A6, c6, rfl, hh6⟩ := HS.out.waitA
              have HTOP := Lib.hid (fun W (hb : Below wr.heap.size wr W) => by have := htop A6 c6 W hb hh6; rw [topV_none _ _ _ hf] at this; exact this)
              have HS2 := Lib.hid (HS.out.next (step_none HHALT.out ho2 hc2 (by rw [HGP.out, hlen]; exact hf)))
              clear htop hf ho hc ho2 hc2 HS hh6 hSg hlen hol
              go_wp2_with (first
                | (go_at_call 17; refine (HOF.out _).mono ?_; rintro e u ⟨rfl, hu⟩)
                | (go_at_call 33; refine (HTOP.out _ hU1.1).mono ?_; rintro e u2 ⟨rfl, hb2⟩; have hb3 := below_trans hU1.1 hb2 hU1.1.size)
                | (refine wpList_store_at rfl 37 _ _ rfl u.heap.size _ rfl rfl 37 _ (at_new _ _ _) (by exact Try.infoProp) (by rfl) (by simp [Value.oneCell']) wr (hu.alloc _) hu.1.size ?_; intro w1 hat hoth hsz hU1; have q7 := hat.cell 7 _ rfl; have q8 := hat.cell 8 _ rfl; have hcy := HC2.out _ hU1; clear hoth hsz))
              go_roundw
              case rel => exact ⟨k + 1, m, by omega, hm, by go_num, Lib.hid (HS2.out.go hb3)⟩
              case measure => simp [intOf] <;> omega
            · obtain ⟨hjm, _, _⟩ := fndN_lt _ _ _ _ hf
              have hxj : (scanS ts cs k).stk[j]? = some ((scanS ts cs k).stk[j]'(by omega)) := List.getElem?_eq_getElem (by omega)
              generalize (scanS ts cs k).stk[j]'(by omega) = x at hxj
              obtain ⟨g, c6, rfl, hmc, hgc⟩ := HS.out.waitB (by omega)
              have hstep := step_close HHALT.out ho2 hc2 (by rw [HGP.out, hlen]; exact hf)
              have hgd : (scanS ts cs k).stk.getD j (0, 0) = x := by rw [List.getD_eq_getElem?_getD, hxj]; rfl
              rw [hgd] at hstep
              obtain ⟨A6, c6', hv6, hh6⟩ := HS.out.waitA
              injection hv6 with e1 e2 e3
              subst e1; subst e3
              have HTOP := Lib.hid (fun W (hb : Below wr.heap.size wr W) => by have := htop _ c6 W hb hh6; rw [topV_some _ _ _ _ hf] at this; exact this)
              have HGC := Lib.hid (fun W (hb : Below wr.heap.size wr W) => (hb.cell (p := ⟨g, j, none⟩) (HS.out.stk.own_lt g rfl).2).trans (hgc j x hxj))
              have HM5 := Lib.hid (fun W (hb : Below wr.heap.size wr W) => (HS.out.go hb).out)
              have hBw := HS.out.below.size
              have hjc : j ≤ c6 := by omega
              have HCL := Lib.hid (fun W (hb : Below wr.heap.size wr W) v' w' h1 h2 h3 => ((HS.out.go hb).close (W' := w') (v' := v') hxj hstep h1 h2 h3))
              obtain ⟨xa, xs⟩ := x
              clear htop hf ho hc ho2 hc2 HS hh6 hSg hlen hgc hgd hstep hxj e2
              generalize (scanS ts cs k).out = O5 at *
              go_wp2_with (first
                | (go_at_call 17; refine (HOF.out _).mono ?_; rintro e u ⟨rfl, hu⟩)
                | (go_at_call 33; refine (HTOP.out _ hU1.1).mono ?_; rintro e u2 ⟨rfl, hb2⟩; have hb3 := below_trans hU1.1 hb2 hU1.1.size; have hgj := HGC.out _ hb3; have hm5 := HM5.out _ hb3; have hsz2 := hb3.size)
                | (at_builtin; refine wpList_push2 (c0 := pc0) (c1 := pc1) rfl _ _ 26 rfl (.agg #[.int .i64 0, .int .i64 0]) Try.underlying26 full2 rfl (by decide) w.heap.size u5 O5 (xa, k) _ _ rfl (pair_one _) hm5 rfl rfl (by omega) (by omega) ?_; intro v5' w3 hM5 hb4 hfar)
                | (refine wpList_store_at rfl 37 _ _ rfl u.heap.size _ rfl rfl 37 _ (at_new _ _ _) (by exact Try.infoProp) (by rfl) (by simp [Value.oneCell']) wr (hu.alloc _) hu.1.size ?_; intro w1 hat hoth hsz hU1; have q7 := hat.cell 7 _ rfl; have q8 := hat.cell 8 _ rfl; have hcy := HC2.out _ hU1; clear hoth hsz))
              go_roundw
              case rel => exact ⟨k + 1, j, by omega, by omega, by go_num, Lib.hid (HCL.out _ hb3 _ _ hM5 hb4 hfar)⟩
              case measure => simp [intOf] <;> omega
          | true =>
            have ho2 : opnB ts cs k = true := by rw [ho, hpn]; rfl
            obtain ⟨A6, c6, rfl, hh6⟩ := HS.out.waitA
            by_cases h63 : m = 63
            · subst h63
              obtain ⟨f1, f2⟩ := step_full HHALT.out ho2 hlen
              have e2 : (scanS ts cs n).out = (scanS ts cs k).out := by
                rw [scan_halt (k + 1) n (by omega) f1]
                exact f2
              have HM5 : Hid (∀ W (hb : Below wr.heap.size wr W), MineP W w.heap.size u5 (scanS ts cs n).out ∧ Below w.heap.size w W) := Lib.hid (fun W hb => ⟨by rw [e2]; exact (HS.out.go hb).out, (HS.out.go hb).below⟩)
              clear ho hc ho2 HS hh6 hSg hlen f1 f2 e2
              go_wp2_with (first
                | (go_at_call 17; refine (HOF.out _).mono ?_; rintro e u ⟨rfl, hu⟩)
                | (refine wpList_store_at rfl 37 _ _ rfl u.heap.size _ rfl rfl 37 _ (at_new _ _ _) (by exact Try.infoProp) (by rfl) (by simp [Value.oneCell']) wr (hu.alloc _) hu.1.size ?_; intro w1 hat hoth hsz hU1; have q7 := hat.cell 7 _ rfl; have q8 := hat.cell 8 _ rfl; have hcy := HC2.out _ hU1; clear hoth hsz))
              go_ret
              exact ⟨_, rfl, (HM5.out _ hU1.1).1, (HM5.out _ hU1.1).2⟩
            · have hstep := step_open HHALT.out ho2 (by rw [hlen]; exact h63)
              have HM6 := Lib.hid (fun W (hb : Below wr.heap.size wr W) => (HS.out.go hb).stk)
              have HPU := Lib.hid (fun W (hb : Below wr.heap.size wr W) v' w' h1 h2 h3 => ((HS.out.go hb).push (W' := w') (v' := v') hstep h1 h2 h3))
              have hBw := HS.out.below.size
              have hpl : (posOf (scanS ts cs k).stk).length = m := by rw [posOf_length, hlen]
              have hm63 : m < 63 := by omega
              clear ho hc ho2 HS hh6 hSg hlen hstep h63
              generalize posOf (scanS ts cs k).stk = P6 at *
              have HPL : Hid (P6.length ≤ 1000) := Lib.hid (by omega)
              clear hpl
              go_wp2_with (first
                | (go_at_call 17; refine (HOF.out _).mono ?_; rintro e u ⟨rfl, hu⟩)
                | (at_builtin; (refine wpList_push_far (k := .i64) (bytes := 8) rfl _ _ 23 rfl Try.underlying23 fullI (by decide) w.heap.size (.slice A6 m c6) P6 (k : Int) _ hm6 rfl rfl (by omega) (by have := HPL.out; omega) ?_; intro v6' w3 hM6 hb4 hfar))
                | (refine wpList_store_at rfl 37 _ _ rfl u.heap.size _ rfl rfl 37 _ (at_new _ _ _) (by exact Try.infoProp) (by rfl) (by simp [Value.oneCell']) wr (hu.alloc _) hu.1.size ?_; intro w1 hat hoth hsz hU1; have q7 := hat.cell 7 _ rfl; have q8 := hat.cell 8 _ rfl; have hcy := HC2.out _ hU1; have hm6 := HM6.out _ hU1.1; have hsz2 := hU1.1.size; clear hoth hsz))
              go_roundw
              case rel => exact ⟨k + 1, m + 1, by omega, by omega, by go_num, Lib.hid (HPU.out _ hU1.1 _ _ hM6 hb4 hfar)⟩
              case measure => simp [intOf] <;> omega
      · have hYz : (Y == 14) = false := by simpa using hY
        have HS2 := Lib.hid (HS.out.next (step_skip HHALT.out (by rw [ho, hYz]; rfl) (by rw [hc, hYz]; rfl)))
        have hYn : (Y != 14) = true := by simpa using hY
        clear ho hc HS hY
        go_wp2_with (first
          | (go_at_call 17; refine (HOF.out _).mono ?_; rintro e u ⟨rfl, hu⟩)
          | (refine wpList_store_at rfl 37 _ _ rfl u.heap.size _ rfl rfl 37 _ (at_new _ _ _) (by exact Try.infoProp) (by rfl) (by simp [Value.oneCell']) wr (hu.alloc _) hu.1.size ?_; intro w1 hat hoth hsz hU1; have q7 := hat.cell 7 _ rfl; have q8 := hat.cell 8 _ rfl; have hcy := HC2.out _ hU1; clear hoth hsz))
        go_roundw
        case rel => exact ⟨k + 1, m, by omega, hm, by go_num, Lib.hid (HS2.out.go hU1.1)⟩
        case measure => simp [intOf] <;> omega
    · obtain rfl : k = n := by omega
      have ho := HS.out.out
      have hb := HS.out.below
      clear HS
      go_wp2
      go_ret
      exact ⟨_, rfl, ho, hb⟩
end Go.Proofs.Ytlopddiplmjpfaa
