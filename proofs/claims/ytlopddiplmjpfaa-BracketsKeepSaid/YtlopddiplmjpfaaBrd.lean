/-
  Contract of the document's Resolve. Conditions: at most 1000 characters; a list of classes that is nil has no room.
-/
import Derived.Test.YtlopddiplmjpfaaBdp
import Derived.Test.YtlopddiplmjpfaaBre
set_option linter.unusedVariables false
set_option linter.unusedSimpArgs false
namespace Go.Proofs.Ytlopddiplmjpfaa
open Go.ChangeShapes Go.WideShapes Go.ChangeAt Go.RowKit Go.Sort

/-- the classes before the s-th bracket of a pair is turned -/
def stgB (ts cur : List Int) (d : Int) (a b : Nat) : Nat → List Int
  | 0 => cur
  | 1 => putC ts d a cur
  | _ => putC ts d b (putC ts d a cur)
def plcB (a b : Nat) : Nat → Nat
  | 0 => a
  | _ => b
theorem stgB_step (ts cur : List Int) (d : Int) (a b s : Nat) (h : s < 2) : stgB ts cur d a b (s + 1) = putC ts d (plcB a b s) (stgB ts cur d a b s) := by
  match s, h with
  | 0, _ => rfl
  | 1, _ => rfl
theorem stgB_len (ts cur : List Int) (d : Int) (a b s : Nat) : (stgB ts cur d a b s).length = cur.length := by
  match s with
  | 0 => rfl
  | 1 => exact putC_len _ _ _ _
  | s + 2 => show (putC ts d b (putC ts d a cur)).length = _; rw [putC_len, putC_len]

set_option maxRecDepth 20000 in
set_option maxHeartbeats 8000000 in
theorem rresolve_ok (A C : Option Addr) (ca cc n nc : Nat) (level sos : Int) (ts cs : List Int) (w : World) (hn : n = ts.length) (hnc : nc = cs.length) (hmax : n ≤ 1000) (hcz : C = none → cc = 0)
    (ht : Has w w.heap.size A (ts.map (Value.int .i32))) (hk : Has w w.heap.size C (cs.map (Value.int .i64))) :
    Calls Try.prog 15 #[.slice A n ca, .slice C nc cc, .int .i64 level, .int .i64 sos] w fun e w' => ∃ l, PairsV ts cs l ∧ SliceOf .i64 w w' e (if n = nc then resL ts (ownB level) sos l cs else []) := by
  by_cases hne : n = nc
  rotate_left
  · have hd : ((n : Int) != (nc : Int)) = true := by simp; omega
    have HP : Hid (PairsV ts cs []) := Lib.hid ⟨fun _ => rfl, fun e => absurd (by omega) hne⟩
    simp only [if_neg hne]
    clear hn hnc ht hk hne
    go_enter Try.func15, Try.ntmps15
    go_wp2
    go_ret
    exact ⟨[], HP.out, _, rfl, sliceV_nil _ _ _ (Below.refl _ _)⟩
  subst hne
  simp only [if_true]
  have HN := Lib.hid hn
  have HC := Lib.hid hnc
  have HTA : Hid (∀ a, A = some a → ts ≠ [] → a.block < w.heap.size) := Lib.hid (fun a ha hne => by
    obtain ⟨b, off, e, hb, _⟩ := ht (by simpa using hne)
    rw [ha] at e
    injection e with e
    rw [e]; exact hb)
  have HT := Lib.hid (fun (w' : World) (hu : Below w.heap.size w w') => (ht.below hu).more hu.size)
  have HPA := Lib.hid (fun w' (hu : Below w.heap.size w w') => rpairs_ok A C ca cc n n ts cs w' hn hnc hmax ((ht.below hu).more hu.size) ((hk.below hu).more hu.size))
  have HK := Lib.hid hk
  have HCZ := Lib.hid hcz
  have hm0 : Mine .i64 3 w w.heap.size (.slice none 0 0) [] := Mine.nil_ _ _ _ _
  obtain ⟨own, ho⟩ : ∃ own, ownB level = own := ⟨_, rfl⟩
  have howr : (level.tmod 2 = 0 ∧ own = 1) ∨ (¬ level.tmod 2 = 0 ∧ own = 2) := by
    unfold ownB at ho
    split at ho
    · rename_i h; exact .inl ⟨h, ho.symm⟩
    · rename_i h; exact .inr ⟨h, ho.symm⟩
  rw [ho]
  clear hn hnc ht hk hcz ho
  go_enter Try.func15, Try.ntmps15
  rcases howr with ⟨hlv, rfl⟩ | ⟨hlv, rfl⟩
  all_goals
    go_wp2_with (first
      | (at_builtin; refine wpList_pushall (k := .i64) (bytes := 8) rfl _ _ 23 rfl Try.underlying23 fullI (by decide) w.heap.size _ [] cs w _ C n cc HC.out HCZ.out HK.out hm0 rfl rfl (Below.refl _ _) (Nat.le_refl _) (by simp) (by have := HC.out; omega) ?_; intro v10 u1 hv9 hb1 _; rw [List.nil_append] at hv9)
      | (go_at_call 11; refine (HPA.out _ hb1).mono ?_; rintro e u2 ⟨l, ⟨v22, rfl, hv22, hb2⟩, hl⟩; obtain ⟨A2, c2, rfl, hlc2, hfr2, hh2⟩ := hv22.has))
  all_goals
    have hown9 := fun b hb => (hv9.own_lt b hb).2
    have hM9 := hv9.stays (w' := u2) (fun b _ hl => hb2.block b hl)
    have hb3 := below_trans hb1 hb2 hb1.size
    have HL := Lib.hid hl
    have H9 : Hid (∀ b, v10.ownBlock = some b → b < u1.heap.size) := Lib.hid hown9
    have HB2 := Lib.hid hb2.size
    obtain ⟨m, hm⟩ : ∃ m, l.length = m := ⟨_, rfl⟩
    rw [hm] at hv22 hlc2 ⊢
    have HM := Lib.hid hm
    have hm1000 : m ≤ 1000 := by have := hl.len; have := HN.out; omega
    clear hlv hm0
  rotate_left
  · go_loopw [12] (fun v wr => ∃ (j : Nat), j ≤ m ∧ v = .int .i64 j ∧ Hid (Mine .i64 3 wr w.heap.size v10 (resL ts 2 sos (l.take j) cs) ∧ MineP wr u1.heap.size (.slice A2 m c2) l ∧ Below w.heap.size w wr ∧ u1.heap.size ≤ wr.heap.size)) (fun v _ => m - (intOf v).toNat)
    case atStart => exact ⟨0, by omega, rfl, Lib.hid ⟨hM9, hv22, hb3, HB2.out⟩⟩
    case round =>
      clear hM9 hv22 hb3 hb1 hb2 hv9 hl hown9 hh2 hfr2 hlc2 hm
      obtain ⟨j, hj, rfl, HS⟩ := hrel
      obtain ⟨WA, hWA⟩ : ∃ WA, WA = wr := ⟨_, rfl⟩
      subst hWA
      by_cases hlt : j < m
      · have hjl : j < l.length := by have := HM.out; omega
        have hxj : l[j]? = some l[j] := List.getElem?_eq_getElem hjl
        generalize l[j] = p at hxj
        obtain ⟨a, b⟩ := p
        obtain ⟨hee, hab, hbn, _, _⟩ := HL.out.at (a, b) (List.mem_of_getElem? hxj)
        have hstep := resL_take ts 2 sos l cs j (a, b) hxj
        have hlen : (resL ts 2 sos (l.take j) cs).length = n := by rw [resL_len]; exact HC.out.symm
        obtain ⟨g2, c2', hv2, _, hBg2, _, hcell⟩ := HS.out.2.1.form (by intro e; rw [e] at hjl; simp at hjl)
        injection hv2 with e1 e2 e3
        subst e1; subst e3
        obtain ⟨p0, p1⟩ := hcell j (a, b) hxj
        rw [Nat.zero_add] at p0 p1
        have q0 : WA.cell? ⟨g2, j * 2, none⟩ = some (.int .i64 (a : Int)) := p0
        have q1 : WA.cell? ⟨g2, j * 2 + 1, none⟩ = some (.int .i64 (b : Int)) := p1
        simp only at hab hbn
        have hbn2 : b < n := by rw [HN.out]; exact hbn
        generalize resL ts 2 sos (l.take j) cs = cur at *
        obtain ⟨g, cap, hv, hBg, hgw, _⟩ := HS.out.1.form (by intro e; rw [e] at hlen; simp at hlen; omega)
        rw [hlen] at hv
        subst hv
        have hgB := H9.out g rfl
        have hgg : g ≠ g2 := by omega
        have HLEN := Lib.hid hlen
        have HSTEP := Lib.hid hstep
        obtain ⟨d, hd⟩ : ∃ d, wayB cur (a, b) 2 sos = d := ⟨_, rfl⟩
        have HPD : Hid (∀ W, Below WA.heap.size WA W → Calls Try.prog 30 #[.slice (some ⟨g, 0, none⟩) n cap, .agg #[.int .i64 (a : Int), .int .i64 (b : Int)], .int .i64 2, .int .i64 sos] W fun e w' => e = .returned (.int .i64 d) ∧ Up W w') :=
          Lib.hid (fun W hb => by
            have hm := HS.out.1.stays (w' := W) (fun x _ hl => hb.block x hl)
            rw [← hd]
            exact way_ok (some ⟨g, 0, none⟩) cap n a b 2 sos cur W HLEN.out.symm hmax hab (by omega) hm.hasAt.2)
        have HTB : Hid (∀ ad, A = some ad → ad.block ≠ g) := Lib.hid (fun ad ha => by have := HTA.out ad ha (by intro e; rw [e] at hbn; simp at hbn); omega)
        have hBw := HS.out.2.2.1.size
        clear hxj hstep hlen hee p0 p1 hcell e2
        by_cases hd0 : d = 0
        · have HR : Hid (res1 ts 2 sos cur (a, b) = cur) := Lib.hid (by unfold res1; rw [if_pos (by rw [hd]; exact hd0)])
          clear hd
          subst hd0
          have HS2 := HS
          clear HS
          go_wp2_with (first
            | (go_at_call 30; refine (HPD.out _ (Below.refl _ _)).mono ?_; rintro e wX ⟨rfl, hU⟩))
          go_roundw
          case rel =>
            obtain ⟨s1, s2, s3, s4⟩ := HS2.out
            exact ⟨j + 1, by omega, by go_num, Lib.hid ⟨by rw [HSTEP.out, HR.out]; exact s1.up hU, s2.up hU, below_trans s3 hU.1 s3.size, Nat.le_trans s4 hU.1.size⟩⟩
          case measure => simp [intOf] <;> omega
        · have HR : Hid (res1 ts 2 sos cur (a, b) = stgB ts cur d a b 2) := Lib.hid (by unfold res1; rw [if_neg (by rw [hd]; exact hd0), hd]; rfl)
          have hdz : (d == 0) = false := by simpa using hd0
          have HD0 := Lib.hid hd0
          clear hd hd0
          have HS2 := HS
          clear HS
          go_wp2_with (first
            | (go_at_call 30; refine (HPD.out _ (Below.refl _ _)).mono ?_; rintro e wX ⟨rfl, hU⟩))
          clear hdz
          go_loopw [14] (fun v wr => ∃ (s : Nat), s ≤ 2 ∧ v = .int .i64 s ∧ Hid (Mine .i64 3 wr w.heap.size (.slice (some ⟨g, 0, none⟩) n cap) (stgB ts cur d a b s) ∧ Keeps g WA wr ∧ Below w.heap.size w wr)) (fun v _ => 2 - (intOf v).toNat)
          case atStart => exact ⟨0, by omega, rfl, Lib.hid ⟨HS2.out.1.up hU, Keeps.of_up hU, below_trans HS2.out.2.2.1 hU.1 HS2.out.2.2.1.size⟩⟩
          case round =>
            obtain ⟨s, hs2, rfl, HQ⟩ := hrel
            obtain ⟨WB, hWB⟩ : ∃ WB, WB = wr := ⟨_, rfl⟩
            subst hWB
            by_cases hlt2 : s < 2
            · have hsd : decide ((s : Int) < 2) = true := decide_eq_true (by omega)
              obtain ⟨x, hx⟩ : ∃ x, plcB a b s = x := ⟨_, rfl⟩
              have hxn : x < n := by
                rw [← hx]
                match s with
                | 0 => show a < n; omega
                | s + 1 => exact hbn2
              have hg2 : WB.cell? ⟨g2, j * 2 + s, none⟩ = some (.int .i64 (x : Int)) := by
                rw [World.cell?_of_block (a := ⟨g2, j * 2 + s, none⟩) (HQ.out.2.1.2 g2 (block_lt_of_cell q0) (Ne.symm hgg)), ← hx]
                match s, hlt2 with
                | 0, _ => exact q0
                | 1, _ => exact q1
              have hg3 : ∀ v, (WB.setCell ⟨g, x, none⟩ v).cell? ⟨g2, j * 2 + s, none⟩ = some (.int .i64 (x : Int)) := fun v =>
                (World.cell?_of_block (a := ⟨g2, j * 2 + s, none⟩) (Below.heap_setCell _ _ _ _ (Ne.symm hgg))).trans hg2
              have hst := stgB_step ts cur d a b s hlt2
              rw [hx] at hst
              have hsl := stgB_len ts cur d a b s
              have HX := Lib.hid hx
              have HST := Lib.hid hst
              clear hx hst
              generalize stgB ts cur d a b s = xs at *
              have hxl : xs.length = n := hsl.trans HLEN.out
              obtain ⟨X0, c0⟩ : ∃ X0, WB.cell? ⟨g, x, none⟩ = some (.int .i64 X0) := ⟨_, HQ.out.1.cellAt x (by omega)⟩
              have f0 := HQ.out.1.free x
              have hs := HQ.out.1.set x (by omega) d
              have HP : Hid (runSet ts d (ts.length - (x + 1)) (x + 1) (xs.set x d) = stgB ts cur d a b (s + 1)) := Lib.hid (by rw [HST.out]; rfl)
              have HY : Hid ((xs.set x d).length = n) := Lib.hid (by rw [List.length_set]; exact hxl)
              generalize xs.set x d = ys at hs HP HY
              have hk1 : Keeps g WA (WB.setCell ⟨g, x, none⟩ (.int .i64 d)) := HQ.out.2.1.trans (Keeps.setCell _ _ _ _)
              have hb1 : Below w.heap.size w (WB.setCell ⟨g, x, none⟩ (.int .i64 d)) := HQ.out.2.2.setCell (p := ⟨g, x, none⟩) hBg _
              have hg4 := hg3 (.int .i64 d)
              clear hsl hxl hg3 HQ HST
              obtain ⟨W1, hW1⟩ : ∃ W1, WB.setCell ⟨g, x, none⟩ (.int .i64 d) = W1 := ⟨_, rfl⟩
              rw [hW1] at hs hk1 hb1 hg4
              go_wp2
              clear hW1 c0 f0 hg2 hg4
              go_loopw [15] (fun v wr => ∃ (k : Nat) (zs : List Int), v = .int .i64 k ∧ x < k ∧ k ≤ n ∧ Hid (zs.length = n) ∧ Hid (runSet ts d (ts.length - k) k zs = stgB ts cur d a b (s + 1)) ∧ Mine .i64 3 wr w.heap.size (.slice (some ⟨g, 0, none⟩) n cap) zs ∧ Hid (Below w.heap.size w wr) ∧ Hid (Keeps g WA wr)) (fun v _ => n - (intOf v).toNat)
              case atStart => exact ⟨x + 1, ys, by go_num, by omega, by omega, HY, HP, hs, Lib.hid hb1, Lib.hid hk1⟩
              case round =>
                clear hs HY HP hb1 hk1
                obtain ⟨k, zs, rfl, hik, hkn, HZ, HR2, hown, HB, HK2⟩ := hrel
                by_cases hlt : k < n
                · have hlt2 : k < ts.length := by have := HN.out; omega
                  obtain ⟨b3, off, hA3, hb3', hcc⟩ := (HT.out _ HB.out).at_int hlt2
                  subst hA3
                  have hnk := nsm_at ts k hlt2
                  generalize ts[k] = X at hcc hnk
                  obtain ⟨p, hp⟩ : ∃ p, ofP X = p := ⟨_, rfl⟩
                  rw [hp] at hnk
                  have hc := fun w => rof_y X p hp w
                  have hfb := fun w => field_bd p w
                  clear hp
                  obtain ⟨pb, p1', p2, p3, p4, p5, p6, p7, p8⟩ := p
                  dsimp only at hc hfb hnk
                  have HCC := Lib.hid hc
                  clear hc
                  by_cases h9 : pb = 9
                  · have e9 : (pb == 9) = true := by simp [h9]
                    have HSX : Hid (runSet ts d (ts.length - (k + 1)) (k + 1) (zs.set k d) = stgB ts cur d a b (s + 1)) := Lib.hid (by rw [← HR2.out]; exact (runSet_go ts d k zs hlt2 (by rw [hnk]; exact e9)).symm)
                    have HZ2 : Hid ((zs.set k d).length = n) := Lib.hid (by rw [List.length_set]; exact HZ.out)
                    clear e9
                    subst h9
                    have hkz : k < zs.length := by have := HZ.out; omega
                    have HW : Hid (∀ (u : World) (hu : Up wr u), (∃ X0, u.cell? ⟨g, k, none⟩ = some (.int .i64 X0)) ∧ u.frozen? ⟨g, k, none⟩ = false ∧ Mine .i64 3 (u.setCell ⟨g, k, none⟩ (.int .i64 d)) w.heap.size (.slice (some ⟨g, 0, none⟩) n cap) (zs.set k d)) := Lib.hid (fun u hu => ⟨⟨_, (hown.up hu).cellAt k hkz⟩, (hown.up hu).free k, (hown.up hu).set k hkz d⟩)
                    have HK3 := Lib.hid (fun (u : World) (hu : Up wr u) => (⟨(below_trans HB.out hu.1 HB.out.size).setCell (p := ⟨g, k, none⟩) hBg (.int .i64 d), (HK2.out.trans (Keeps.of_up hu)).trans (Keeps.setCell u g k (.int .i64 d))⟩ : _ ∧ _))
                    generalize zs.set k d = zt at HSX HZ2 HW
                    clear hnk HR2 hown HB HK2 HZ
                    go_wp2_with (first | (go_at_call 23; refine (HCC.out _).mono ?_; rintro e u ⟨rfl, hu⟩; obtain ⟨⟨X1, k1⟩, k2, k3⟩ := HW.out _ hu; obtain ⟨k4, k5⟩ := HK3.out _ hu; clear HW HK3))
                    go_roundw
                    case rel => exact ⟨k + 1, zt, by go_num, by omega, by omega, HZ2, HSX, k3, Lib.hid k4, Lib.hid k5⟩
                    case measure => simp [intOf] <;> omega
                  · have e9 : (pb == 9) = false := by simp [h9]
                    have HSX : Hid (zs = stgB ts cur d a b (s + 1)) := Lib.hid (by rw [← HR2.out]; exact (runSet_end ts d k zs (fun _ => by rw [hnk]; exact e9)).symm)
                    have HB4 := Lib.hid (fun (u : World) (hu : Up wr u) => (⟨hown.up hu, below_trans HB.out hu.1 HB.out.size, HK2.out.trans (Keeps.of_up hu)⟩ : _ ∧ _ ∧ _))
                    clear hnk HR2 hown HB HK2 HZ h9
                    go_wp2_with (first | (go_at_call 23; refine (HCC.out _).mono ?_; rintro e u ⟨rfl, hu⟩; obtain ⟨k1, k2, k3⟩ := HB4.out _ hu; clear HB4))
                    go_roundw
                    case rel => exact ⟨s + 1, by omega, by go_num, Lib.hid ⟨by rw [← HSX.out]; exact k1, k3, k2⟩⟩
                    case measure => simp [intOf] <;> omega
                · obtain rfl : k = n := by omega
                  have HSX : Hid (zs = stgB ts cur d a b (s + 1)) := Lib.hid (by rw [← HR2.out]; exact (runSet_end ts d k zs (fun h => by have := HN.out; omega)).symm)
                  clear HR2
                  go_wp2
                  go_roundw
                  case rel => exact ⟨s + 1, by omega, by go_num, Lib.hid ⟨by rw [← HSX.out]; exact hown, HK2.out, HB.out⟩⟩
                  case measure => simp [intOf] <;> omega
            · obtain rfl : s = 2 := by omega
              go_wp2
              go_roundw
              case rel =>
                obtain ⟨s1, s2, s3, s4⟩ := HS2.out
                obtain ⟨z1, z2, z3⟩ := HQ.out
                refine ⟨j + 1, by omega, by go_num, Lib.hid ⟨by rw [HSTEP.out, HR.out]; exact z1, s2.stays (fun x hx hl => ?_), z3, Nat.le_trans s4 z2.1⟩⟩
                have hx2 : some g2 = some x := hx
                injection hx2 with hx2
                subst hx2
                exact z2.2 _ hl (Ne.symm hgg)
              case measure => simp [intOf] <;> omega
      · obtain rfl : j = m := by omega
        have hM9 := HS.out.1
        have hb := HS.out.2.2.1
        rw [show l.take j = l by rw [← HM.out]; exact List.take_length] at hM9
        clear HS
        go_wp2
        go_ret
        exact ⟨l, HL.out, _, rfl, hM9.sliceV hb⟩
  · go_loopw [12] (fun v wr => ∃ (j : Nat), j ≤ m ∧ v = .int .i64 j ∧ Hid (Mine .i64 3 wr w.heap.size v10 (resL ts 1 sos (l.take j) cs) ∧ MineP wr u1.heap.size (.slice A2 m c2) l ∧ Below w.heap.size w wr ∧ u1.heap.size ≤ wr.heap.size)) (fun v _ => m - (intOf v).toNat)
    case atStart => exact ⟨0, by omega, rfl, Lib.hid ⟨hM9, hv22, hb3, HB2.out⟩⟩
    case round =>
      clear hM9 hv22 hb3 hb1 hb2 hv9 hl hown9 hh2 hfr2 hlc2 hm
      obtain ⟨j, hj, rfl, HS⟩ := hrel
      obtain ⟨WA, hWA⟩ : ∃ WA, WA = wr := ⟨_, rfl⟩
      subst hWA
      by_cases hlt : j < m
      · have hjl : j < l.length := by have := HM.out; omega
        have hxj : l[j]? = some l[j] := List.getElem?_eq_getElem hjl
        generalize l[j] = p at hxj
        obtain ⟨a, b⟩ := p
        obtain ⟨hee, hab, hbn, _, _⟩ := HL.out.at (a, b) (List.mem_of_getElem? hxj)
        have hstep := resL_take ts 1 sos l cs j (a, b) hxj
        have hlen : (resL ts 1 sos (l.take j) cs).length = n := by rw [resL_len]; exact HC.out.symm
        obtain ⟨g2, c2', hv2, _, hBg2, _, hcell⟩ := HS.out.2.1.form (by intro e; rw [e] at hjl; simp at hjl)
        injection hv2 with e1 e2 e3
        subst e1; subst e3
        obtain ⟨p0, p1⟩ := hcell j (a, b) hxj
        rw [Nat.zero_add] at p0 p1
        have q0 : WA.cell? ⟨g2, j * 2, none⟩ = some (.int .i64 (a : Int)) := p0
        have q1 : WA.cell? ⟨g2, j * 2 + 1, none⟩ = some (.int .i64 (b : Int)) := p1
        simp only at hab hbn
        have hbn2 : b < n := by rw [HN.out]; exact hbn
        generalize resL ts 1 sos (l.take j) cs = cur at *
        obtain ⟨g, cap, hv, hBg, hgw, _⟩ := HS.out.1.form (by intro e; rw [e] at hlen; simp at hlen; omega)
        rw [hlen] at hv
        subst hv
        have hgB := H9.out g rfl
        have hgg : g ≠ g2 := by omega
        have HLEN := Lib.hid hlen
        have HSTEP := Lib.hid hstep
        obtain ⟨d, hd⟩ : ∃ d, wayB cur (a, b) 1 sos = d := ⟨_, rfl⟩
        have HPD : Hid (∀ W, Below WA.heap.size WA W → Calls Try.prog 30 #[.slice (some ⟨g, 0, none⟩) n cap, .agg #[.int .i64 (a : Int), .int .i64 (b : Int)], .int .i64 1, .int .i64 sos] W fun e w' => e = .returned (.int .i64 d) ∧ Up W w') :=
          Lib.hid (fun W hb => by
            have hm := HS.out.1.stays (w' := W) (fun x _ hl => hb.block x hl)
            rw [← hd]
            exact way_ok (some ⟨g, 0, none⟩) cap n a b 1 sos cur W HLEN.out.symm hmax hab (by omega) hm.hasAt.2)
        have HTB : Hid (∀ ad, A = some ad → ad.block ≠ g) := Lib.hid (fun ad ha => by have := HTA.out ad ha (by intro e; rw [e] at hbn; simp at hbn); omega)
        have hBw := HS.out.2.2.1.size
        clear hxj hstep hlen hee p0 p1 hcell e2
        by_cases hd0 : d = 0
        · have HR : Hid (res1 ts 1 sos cur (a, b) = cur) := Lib.hid (by unfold res1; rw [if_pos (by rw [hd]; exact hd0)])
          clear hd
          subst hd0
          have HS2 := HS
          clear HS
          go_wp2_with (first
            | (go_at_call 30; refine (HPD.out _ (Below.refl _ _)).mono ?_; rintro e wX ⟨rfl, hU⟩))
          go_roundw
          case rel =>
            obtain ⟨s1, s2, s3, s4⟩ := HS2.out
            exact ⟨j + 1, by omega, by go_num, Lib.hid ⟨by rw [HSTEP.out, HR.out]; exact s1.up hU, s2.up hU, below_trans s3 hU.1 s3.size, Nat.le_trans s4 hU.1.size⟩⟩
          case measure => simp [intOf] <;> omega
        · have HR : Hid (res1 ts 1 sos cur (a, b) = stgB ts cur d a b 2) := Lib.hid (by unfold res1; rw [if_neg (by rw [hd]; exact hd0), hd]; rfl)
          have hdz : (d == 0) = false := by simpa using hd0
          have HD0 := Lib.hid hd0
          clear hd hd0
          have HS2 := HS
          clear HS
          go_wp2_with (first
            | (go_at_call 30; refine (HPD.out _ (Below.refl _ _)).mono ?_; rintro e wX ⟨rfl, hU⟩))
          clear hdz
          go_loopw [14] (fun v wr => ∃ (s : Nat), s ≤ 2 ∧ v = .int .i64 s ∧ Hid (Mine .i64 3 wr w.heap.size (.slice (some ⟨g, 0, none⟩) n cap) (stgB ts cur d a b s) ∧ Keeps g WA wr ∧ Below w.heap.size w wr)) (fun v _ => 2 - (intOf v).toNat)
          case atStart => exact ⟨0, by omega, rfl, Lib.hid ⟨HS2.out.1.up hU, Keeps.of_up hU, below_trans HS2.out.2.2.1 hU.1 HS2.out.2.2.1.size⟩⟩
          case round =>
            obtain ⟨s, hs2, rfl, HQ⟩ := hrel
            obtain ⟨WB, hWB⟩ : ∃ WB, WB = wr := ⟨_, rfl⟩
            subst hWB
            by_cases hlt2 : s < 2
            · have hsd : decide ((s : Int) < 2) = true := decide_eq_true (by omega)
              obtain ⟨x, hx⟩ : ∃ x, plcB a b s = x := ⟨_, rfl⟩
              have hxn : x < n := by
                rw [← hx]
                match s with
                | 0 => show a < n; omega
                | s + 1 => exact hbn2
              have hg2 : WB.cell? ⟨g2, j * 2 + s, none⟩ = some (.int .i64 (x : Int)) := by
                rw [World.cell?_of_block (a := ⟨g2, j * 2 + s, none⟩) (HQ.out.2.1.2 g2 (block_lt_of_cell q0) (Ne.symm hgg)), ← hx]
                match s, hlt2 with
                | 0, _ => exact q0
                | 1, _ => exact q1
              have hg3 : ∀ v, (WB.setCell ⟨g, x, none⟩ v).cell? ⟨g2, j * 2 + s, none⟩ = some (.int .i64 (x : Int)) := fun v =>
                (World.cell?_of_block (a := ⟨g2, j * 2 + s, none⟩) (Below.heap_setCell _ _ _ _ (Ne.symm hgg))).trans hg2
              have hst := stgB_step ts cur d a b s hlt2
              rw [hx] at hst
              have hsl := stgB_len ts cur d a b s
              have HX := Lib.hid hx
              have HST := Lib.hid hst
              clear hx hst
              generalize stgB ts cur d a b s = xs at *
              have hxl : xs.length = n := hsl.trans HLEN.out
              obtain ⟨X0, c0⟩ : ∃ X0, WB.cell? ⟨g, x, none⟩ = some (.int .i64 X0) := ⟨_, HQ.out.1.cellAt x (by omega)⟩
              have f0 := HQ.out.1.free x
              have hs := HQ.out.1.set x (by omega) d
              have HP : Hid (runSet ts d (ts.length - (x + 1)) (x + 1) (xs.set x d) = stgB ts cur d a b (s + 1)) := Lib.hid (by rw [HST.out]; rfl)
              have HY : Hid ((xs.set x d).length = n) := Lib.hid (by rw [List.length_set]; exact hxl)
              generalize xs.set x d = ys at hs HP HY
              have hk1 : Keeps g WA (WB.setCell ⟨g, x, none⟩ (.int .i64 d)) := HQ.out.2.1.trans (Keeps.setCell _ _ _ _)
              have hb1 : Below w.heap.size w (WB.setCell ⟨g, x, none⟩ (.int .i64 d)) := HQ.out.2.2.setCell (p := ⟨g, x, none⟩) hBg _
              have hg4 := hg3 (.int .i64 d)
              clear hsl hxl hg3 HQ HST
              obtain ⟨W1, hW1⟩ : ∃ W1, WB.setCell ⟨g, x, none⟩ (.int .i64 d) = W1 := ⟨_, rfl⟩
              rw [hW1] at hs hk1 hb1 hg4
              go_wp2
              clear hW1 c0 f0 hg2 hg4
              go_loopw [15] (fun v wr => ∃ (k : Nat) (zs : List Int), v = .int .i64 k ∧ x < k ∧ k ≤ n ∧ Hid (zs.length = n) ∧ Hid (runSet ts d (ts.length - k) k zs = stgB ts cur d a b (s + 1)) ∧ Mine .i64 3 wr w.heap.size (.slice (some ⟨g, 0, none⟩) n cap) zs ∧ Hid (Below w.heap.size w wr) ∧ Hid (Keeps g WA wr)) (fun v _ => n - (intOf v).toNat)
              case atStart => exact ⟨x + 1, ys, by go_num, by omega, by omega, HY, HP, hs, Lib.hid hb1, Lib.hid hk1⟩
              case round =>
                clear hs HY HP hb1 hk1
                obtain ⟨k, zs, rfl, hik, hkn, HZ, HR2, hown, HB, HK2⟩ := hrel
                by_cases hlt : k < n
                · have hlt2 : k < ts.length := by have := HN.out; omega
                  obtain ⟨b3, off, hA3, hb3', hcc⟩ := (HT.out _ HB.out).at_int hlt2
                  subst hA3
                  have hnk := nsm_at ts k hlt2
                  generalize ts[k] = X at hcc hnk
                  obtain ⟨p, hp⟩ : ∃ p, ofP X = p := ⟨_, rfl⟩
                  rw [hp] at hnk
                  have hc := fun w => rof_y X p hp w
                  have hfb := fun w => field_bd p w
                  clear hp
                  obtain ⟨pb, p1', p2, p3, p4, p5, p6, p7, p8⟩ := p
                  dsimp only at hc hfb hnk
                  have HCC := Lib.hid hc
                  clear hc
                  by_cases h9 : pb = 9
                  · have e9 : (pb == 9) = true := by simp [h9]
                    have HSX : Hid (runSet ts d (ts.length - (k + 1)) (k + 1) (zs.set k d) = stgB ts cur d a b (s + 1)) := Lib.hid (by rw [← HR2.out]; exact (runSet_go ts d k zs hlt2 (by rw [hnk]; exact e9)).symm)
                    have HZ2 : Hid ((zs.set k d).length = n) := Lib.hid (by rw [List.length_set]; exact HZ.out)
                    clear e9
                    subst h9
                    have hkz : k < zs.length := by have := HZ.out; omega
                    have HW : Hid (∀ (u : World) (hu : Up wr u), (∃ X0, u.cell? ⟨g, k, none⟩ = some (.int .i64 X0)) ∧ u.frozen? ⟨g, k, none⟩ = false ∧ Mine .i64 3 (u.setCell ⟨g, k, none⟩ (.int .i64 d)) w.heap.size (.slice (some ⟨g, 0, none⟩) n cap) (zs.set k d)) := Lib.hid (fun u hu => ⟨⟨_, (hown.up hu).cellAt k hkz⟩, (hown.up hu).free k, (hown.up hu).set k hkz d⟩)
                    have HK3 := Lib.hid (fun (u : World) (hu : Up wr u) => (⟨(below_trans HB.out hu.1 HB.out.size).setCell (p := ⟨g, k, none⟩) hBg (.int .i64 d), (HK2.out.trans (Keeps.of_up hu)).trans (Keeps.setCell u g k (.int .i64 d))⟩ : _ ∧ _))
                    generalize zs.set k d = zt at HSX HZ2 HW
                    clear hnk HR2 hown HB HK2 HZ
                    go_wp2_with (first | (go_at_call 23; refine (HCC.out _).mono ?_; rintro e u ⟨rfl, hu⟩; obtain ⟨⟨X1, k1⟩, k2, k3⟩ := HW.out _ hu; obtain ⟨k4, k5⟩ := HK3.out _ hu; clear HW HK3))
                    go_roundw
                    case rel => exact ⟨k + 1, zt, by go_num, by omega, by omega, HZ2, HSX, k3, Lib.hid k4, Lib.hid k5⟩
                    case measure => simp [intOf] <;> omega
                  · have e9 : (pb == 9) = false := by simp [h9]
                    have HSX : Hid (zs = stgB ts cur d a b (s + 1)) := Lib.hid (by rw [← HR2.out]; exact (runSet_end ts d k zs (fun _ => by rw [hnk]; exact e9)).symm)
                    have HB4 := Lib.hid (fun (u : World) (hu : Up wr u) => (⟨hown.up hu, below_trans HB.out hu.1 HB.out.size, HK2.out.trans (Keeps.of_up hu)⟩ : _ ∧ _ ∧ _))
                    clear hnk HR2 hown HB HK2 HZ h9
                    go_wp2_with (first | (go_at_call 23; refine (HCC.out _).mono ?_; rintro e u ⟨rfl, hu⟩; obtain ⟨k1, k2, k3⟩ := HB4.out _ hu; clear HB4))
                    go_roundw
                    case rel => exact ⟨s + 1, by omega, by go_num, Lib.hid ⟨by rw [← HSX.out]; exact k1, k3, k2⟩⟩
                    case measure => simp [intOf] <;> omega
                · obtain rfl : k = n := by omega
                  have HSX : Hid (zs = stgB ts cur d a b (s + 1)) := Lib.hid (by rw [← HR2.out]; exact (runSet_end ts d k zs (fun h => by have := HN.out; omega)).symm)
                  clear HR2
                  go_wp2
                  go_roundw
                  case rel => exact ⟨s + 1, by omega, by go_num, Lib.hid ⟨by rw [← HSX.out]; exact hown, HK2.out, HB.out⟩⟩
                  case measure => simp [intOf] <;> omega
            · obtain rfl : s = 2 := by omega
              go_wp2
              go_roundw
              case rel =>
                obtain ⟨s1, s2, s3, s4⟩ := HS2.out
                obtain ⟨z1, z2, z3⟩ := HQ.out
                refine ⟨j + 1, by omega, by go_num, Lib.hid ⟨by rw [HSTEP.out, HR.out]; exact z1, s2.stays (fun x hx hl => ?_), z3, Nat.le_trans s4 z2.1⟩⟩
                have hx2 : some g2 = some x := hx
                injection hx2 with hx2
                subst hx2
                exact z2.2 _ hl (Ne.symm hgg)
              case measure => simp [intOf] <;> omega
      · obtain rfl : j = m := by omega
        have hM9 := HS.out.1
        have hb := HS.out.2.2.1
        rw [show l.take j = l by rw [← HM.out]; exact List.take_length] at hM9
        clear HS
        go_wp2
        go_ret
        exact ⟨l, HL.out, _, rfl, hM9.sliceV hb⟩
end Go.Proofs.Ytlopddiplmjpfaa
