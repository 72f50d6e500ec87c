/-
  Contracts: a slice's topmost bracket that goes with a pair (the document's found), turning a bracket and what follows it (the program's turn), what a pair becomes (the document's way). Condition: at most 1000 characters.
-/
import Derived.Test.YtlopddiplmjpfaaBpr
import Derived.Test.YtlopddiplmjpfaaCanon
import Derived.Test.YtlopddiplmjpfaaOf
import Derived.Test.YtlopddiplmjpfaaROf
set_option linter.unusedVariables false
set_option linter.unusedSimpArgs false
namespace Go.Proofs.Ytlopddiplmjpfaa
open Go.ChangeShapes Go.WideShapes Go.ChangeAt Go.RowKit

theorem of_x (r : Int) (p : Pr) (hp : ofP r = p) (w : World) : Calls Try.prog 17 #[.int .i32 r] w fun e w' => e = .returned (.agg #[.int .i64 p.bidi, .int .i64 p.cl, .int .i64 p.br, .int .i64 p.sc, .int .i64 p.jn, .int .i64 p.wd, .int .i32 p.mi, .int .i32 p.pa, .bool p.op]) ∧ Up w w' := by
  have := of_ok r w
  rw [hp] at this
  exact this
theorem rof_y (r : Int) (p : Pr) (hp : ofP r = p) (w : World) : Calls Try.prog 23 #[.int .i32 r] w fun e w' => e = .returned (.agg #[.int .i64 p.bidi, .int .i64 p.cl, .int .i64 p.br, .int .i64 p.sc, .int .i64 p.jn, .int .i64 p.wd, .int .i32 p.mi, .int .i32 p.pa, .bool p.op]) ∧ Up w w' := by
  have := rof_ok r w
  rw [hp] at this
  exact this
theorem field_bd (p : Pr) (w : World) : (Instr.field 37 (.agg #[.int .i64 p.bidi, .int .i64 p.cl, .int .i64 p.br, .int .i64 p.sc, .int .i64 p.jn, .int .i64 p.wd, .int .i32 p.mi, .int .i32 p.pa, .bool p.op]) 0).run Try.prog w = .ok (.int .i64 p.bidi) w := by
  simp [Instr.field, go_sem, part, asAgg, Try.isAgg37]

/-- where the topmost is, -1: nowhere -/
def topV (l : List (Nat × Int)) (pair : Int) (n : Nat) : Int := match fndN l pair n with | some k => (k : Int) | none => -1
theorem topV_zero (l : List (Nat × Int)) (pair : Int) : topV l pair 0 = -1 := rfl
theorem topV_yes (l : List (Nat × Int)) (pair : Int) (n : Nat) (x : Nat × Int) (hx : l[n]? = some x) (h : canonB x.2 = canonB pair) : topV l pair (n + 1) = n := by
  unfold topV fndN
  rw [List.getD_eq_getElem?_getD, hx]
  simp [h]
theorem topV_no (l : List (Nat × Int)) (pair : Int) (n : Nat) (x : Nat × Int) (hx : l[n]? = some x) (h : ¬ canonB x.2 = canonB pair) : topV l pair (n + 1) = topV l pair n := by
  unfold topV
  rw [fndN.eq_def]
  simp only [List.getD_eq_getElem?_getD, hx]
  simp [h]

set_option maxHeartbeats 2000000 in
theorem found_ok (A : Option Addr) (n c : Nat) (pair : Int) (l : List (Nat × Int)) (w : World) (hnl : n = l.length) (hn : n ≤ 1000) (h : HasO w w.heap.size A l) :
    Calls Try.prog 24 #[.slice A n c, .int .i32 pair] w fun e w' => e = .returned (.int .i64 (topV l pair n)) ∧ w = w' := by
  have HL := Lib.hid hnl
  clear hnl
  go_enter Try.func24, Try.ntmps24
  go_wp2
  go_loopw [5] (fun v wr => ∃ m : Nat, m ≤ n ∧ v = .int .i64 ((m : Int) - 1) ∧ Hid (topV l pair n = topV l pair m) ∧ w = wr) (fun v _ => (intOf v + 1).toNat)
  case atStart => exact ⟨n, Nat.le_refl _, rfl, Lib.hid rfl, rfl⟩
  case round =>
    obtain ⟨m, hm, rfl, HF, rfl⟩ := hrel
    cases m with
    | zero =>
      have HV : Hid (topV l pair n = -1) := Lib.hid (by rw [HF.out]; rfl)
      clear HF
      obtain ⟨z, hz⟩ : ∃ z : Int, ((0 : Nat) : Int) - 1 = z := ⟨_, rfl⟩
      have hz0 : z < 0 := by omega
      rw [hz]
      clear hz
      go_wp2
      go_ret
      exact ⟨by rw [HV.out]; rfl, rfl⟩
    | succ q =>
      have hq : q < l.length := by rw [← HL.out]; omega
      obtain ⟨b, off, rfl, hb, h0, h1⟩ := h.at_ hq
      have hx : l[q]? = some l[q] := List.getElem?_eq_getElem hq
      have hy := topV_yes l pair q _ hx
      have hno := topV_no l pair q _ hx
      generalize l[q] = X at h0 h1 hy hno
      clear hx
      obtain ⟨xa, xs⟩ := X
      unfold oc0 at h0
      unfold oc1 at h1
      simp only at h0 h1 hy hno
      have HC1 := Lib.hid (fun w => rcanon_ok xs w)
      have HC2 := Lib.hid (fun w => rcanon_ok pair w)
      have e1 : ((q + 1 : Nat) : Int) - 1 = (q : Int) := by omega
      rw [e1]
      generalize canonB xs = X1 at *
      generalize canonB pair = X2 at *
      by_cases he : X1 = X2
      · have HV : Hid (topV l pair n = q) := Lib.hid (by rw [HF.out]; exact hy he)
        have hb2 : (X1 == X2) = true := by simp [he]
        clear hy hno HF
        go_wp2_with (first | (go_at_call 40; (with_reducible refine (HC1.out _).mono ?_); rintro e u ⟨rfl, rfl⟩; clear HC1) | (go_at_call 40; (with_reducible refine (HC2.out _).mono ?_); rintro e u ⟨rfl, rfl⟩))
        go_ret
        exact ⟨by rw [HV.out]; rfl, rfl⟩
      · have HV : Hid (topV l pair n = topV l pair q) := Lib.hid (by rw [HF.out]; exact hno he)
        have hb2 : (X1 == X2) = false := by simp [he]
        clear hy hno HF
        go_wp2_with (first | (go_at_call 40; (with_reducible refine (HC1.out _).mono ?_); rintro e u ⟨rfl, rfl⟩; clear HC1) | (go_at_call 40; (with_reducible refine (HC2.out _).mono ?_); rintro e u ⟨rfl, rfl⟩))
        go_roundw
        case rel => exact ⟨q, by omega, by go_num, HV, trivial⟩
        case measure => simp [intOf] <;> omega

theorem Mine.set {w : World} {B g n c : Nat} {xs : List Int} (h : Mine .i64 3 w B (.slice (some ⟨g, 0, none⟩) n c) xs) (i : Nat) (hi : i < xs.length) (y : Int) :
    Mine .i64 3 (w.setCell ⟨g, i, none⟩ (.int .i64 y)) B (.slice (some ⟨g, 0, none⟩) n c) (xs.set i y) := by
  refine ⟨by simp, ?_⟩
  rcases h.2 with ⟨a, b⟩ | ⟨g', cap, cur, a, b, hg, hc, hm, hs, ht⟩
  · cases a
  · injection a with a1 a2 a3
    injection a1 with a1
    injection a1 with a1
    subst a1; subst a2; subst a3
    rw [List.length_set]
    refine .inr ⟨g, c, cur.setIfInBounds i (.int .i64 y), rfl, b, ?_, hc, hm, by simp [hs], ?_⟩
    · have hlt := (Array.getElem?_eq_some_iff.1 hg).1
      have h' : w.heap[g] = .cells cur 3 (0, 0) := by simpa [Array.getElem?_eq_getElem hlt] using hg
      show (w.heap.modify g _)[g]? = _
      rw [Array.getElem?_eq_getElem (by simpa using hlt), Array.getElem_modify_self, h']
      rfl
    · rw [Array.toList_setIfInBounds, List.take_set, ht, List.map_set]
theorem Mine.free {w : World} {B g n c : Nat} {xs : List Int} (h : Mine .i64 3 w B (.slice (some ⟨g, 0, none⟩) n c) xs) (j : Nat) : w.frozen? ⟨g, j, none⟩ = false := by
  rcases h.2 with ⟨hx, _⟩ | ⟨g', cap, cur, hx, _, hg, _⟩
  · cases hx
  · injection hx with hx1 hx2 hx3
    injection hx1 with hx1
    injection hx1 with hx1
    subst hx1
    simp [World.frozen?, hg]
theorem Mine.cellAt {w : World} {B g n c : Nat} {xs : List Int} (h : Mine .i64 3 w B (.slice (some ⟨g, 0, none⟩) n c) xs) (j : Nat) (hj : j < xs.length) : w.cell? ⟨g, j, none⟩ = some (.int .i64 xs[j]) := by
  obtain ⟨g', c', hv, _, _, hcell⟩ := h.form (by intro h0; rw [h0] at hj; simp at hj)
  injection hv with hv1 hv2 hv3
  injection hv1 with hv1
  injection hv1 with hv1
  subst hv1
  exact hcell j _ (List.getElem?_eq_getElem hj)

/-- of the blocks that were there only g has turned -/
def Keeps (g : Nat) (w w' : World) : Prop := w.heap.size ≤ w'.heap.size ∧ ∀ b, b < w.heap.size → b ≠ g → w'.heap[b]? = w.heap[b]?
theorem Keeps.refl (g : Nat) (w : World) : Keeps g w w := ⟨Nat.le_refl _, fun _ _ _ => rfl⟩
theorem Keeps.trans {g : Nat} {a b c : World} (h : Keeps g a b) (k : Keeps g b c) : Keeps g a c := ⟨Nat.le_trans h.1 k.1, fun x hx hne => (k.2 x (Nat.lt_of_lt_of_le hx h.1) hne).trans (h.2 x hx hne)⟩
theorem Keeps.of_up {g : Nat} {a b : World} (h : Up a b) : Keeps g a b := ⟨h.1.size, fun x hx _ => h.1.block x hx⟩
theorem Keeps.setCell (w : World) (g j : Nat) (v : Value) : Keeps g w (w.setCell ⟨g, j, none⟩ v) := ⟨by simp, fun x hx hne => Below.heap_setCell _ _ _ _ hne⟩

theorem nsm_at (ts : List Int) (k : Nat) (h : k < ts.length) : nsmB ts k = ((ofP ts[k]).bidi == 9) := by
  unfold nsmB
  rw [List.getD_eq_getElem?_getD, List.getElem?_eq_getElem h]
  simp [h]
theorem runSet_go (ts : List Int) (d : Int) (k : Nat) (cs : List Int) (h : k < ts.length) (hn : nsmB ts k = true) : runSet ts d (ts.length - k) k cs = runSet ts d (ts.length - (k + 1)) (k + 1) (cs.set k d) := by
  rw [show ts.length - k = (ts.length - (k + 1)) + 1 by omega, runSet, if_pos hn]
theorem runSet_end (ts : List Int) (d : Int) (k : Nat) (cs : List Int) (h : k < ts.length → nsmB ts k = false) : runSet ts d (ts.length - k) k cs = cs := by
  by_cases hk : k < ts.length
  · rw [show ts.length - k = (ts.length - (k + 1)) + 1 by omega, runSet, h hk]; rfl
  · rw [show ts.length - k = 0 by omega, runSet]

set_option maxHeartbeats 4000000 in
theorem turn_ok (A : Option Addr) (ct g cap n i B : Nat) (d : Int) (ts xs : List Int) (w : World) (hn : n = ts.length) (hx : n = xs.length) (hmax : n ≤ 1000) (hi : i < n) (hBt : ∀ a, A = some a → a.block ≠ g)
    (hh : Has w w.heap.size A (ts.map (Value.int .i32))) (hown : Mine .i64 3 w B (.slice (some ⟨g, 0, none⟩) n cap) xs) :
    Calls Try.prog 29 #[.slice A n ct, .slice (some ⟨g, 0, none⟩) n cap, .int .i64 i, .int .i64 d] w fun e w' => e = .returned (.tuple #[]) ∧ Mine .i64 3 w' B (.slice (some ⟨g, 0, none⟩) n cap) (putC ts d i xs) ∧ Below B w w' ∧ Keeps g w w' := by
  have HN := Lib.hid hn
  have HX := Lib.hid hx
  obtain ⟨X0, c0⟩ : ∃ X0, w.cell? ⟨g, i, none⟩ = some (.int .i64 X0) := ⟨_, hown.cellAt i (by omega)⟩
  have f0 := hown.free i
  obtain ⟨hBg, hgw⟩ := hown.own_lt g rfl
  have hs := hown.set i (by omega) d
  obtain ⟨W1, hW1⟩ : ∃ W1, w.setCell ⟨g, i, none⟩ (.int .i64 d) = W1 := ⟨_, rfl⟩
  have hk1 : Keeps g w W1 := by rw [← hW1]; exact Keeps.setCell _ _ _ _
  have hb1 : Below B w W1 := by rw [← hW1]; exact (Below.refl _ _).setCell (p := ⟨g, i, none⟩) hBg _
  rw [hW1] at hs
  have HH := Lib.hid (fun (w' : World) (hk : Keeps g w w') => Has.stays hh hk.1 (fun a ha hlt => hk.2 _ hlt (hBt a ha)))
  have HP : Hid (runSet ts d (ts.length - (i + 1)) (i + 1) (xs.set i d) = putC ts d i xs) := Lib.hid rfl
  have hlen : (xs.set i d).length = n := by rw [List.length_set]; exact hx.symm
  generalize xs.set i d = ys at hs HP hlen
  have HY := Lib.hid hlen
  clear hn hx hh hBt hlen hown
  obtain ⟨R, hR⟩ : ∃ R, putC ts d i xs = R := ⟨_, rfl⟩
  rw [hR] at HP ⊢
  clear hR
  go_enter Try.func29, Try.ntmps29
  go_wp2
  clear hW1 c0 f0
  go_loopw [2] (fun v wr => ∃ (k : Nat) (zs : List Int), v = .int .i64 k ∧ i < k ∧ k ≤ n ∧ Hid (zs.length = n) ∧ Hid (runSet ts d (ts.length - k) k zs = R) ∧ Mine .i64 3 wr B (.slice (some ⟨g, 0, none⟩) n cap) zs ∧ Hid (Below B w wr) ∧ Hid (Keeps g w wr)) (fun v _ => n - (intOf v).toNat)
  case atStart => exact ⟨i + 1, ys, by go_num, by omega, by omega, HY, HP, hs, Lib.hid hb1, Lib.hid hk1⟩
  case round =>
    clear hs HY HP hb1 hk1
    obtain ⟨k, zs, rfl, hik, hkn, HZ, HR, hown, HB, HK⟩ := hrel
    by_cases hlt : k < n
    · have hlt2 : k < ts.length := by have := HN.out; omega
      obtain ⟨b, off, rfl, hb, hcc⟩ := (HH.out _ HK.out).at_int hlt2
      have hnk := nsm_at ts k hlt2
      generalize ts[k] = X at hcc hnk
      obtain ⟨p, hp⟩ : ∃ p, ofP X = p := ⟨_, rfl⟩
      rw [hp] at hnk
      have hc := fun w => of_x X p hp w
      have hfb := fun w => field_bd p w
      clear hp
      obtain ⟨pb, p1, p2, p3, p4, p5, p6, p7, p8⟩ := p
      dsimp only at hc hfb hnk
      have HC := Lib.hid hc
      clear hc
      by_cases h9 : pb = 9
      · have e9 : (pb == 9) = true := by simp [h9]
        have HS : Hid (runSet ts d (ts.length - (k + 1)) (k + 1) (zs.set k d) = R) := Lib.hid (by rw [← HR.out]; exact (runSet_go ts d k zs hlt2 (by rw [hnk]; exact e9)).symm)
        have HZ2 : Hid ((zs.set k d).length = n) := Lib.hid (by rw [List.length_set]; exact HZ.out)
        clear e9
        subst h9
        have hkz : k < zs.length := by have := HZ.out; omega
        have HW : Hid (∀ (u : World) (hu : Up wr u), (∃ X0, u.cell? ⟨g, k, none⟩ = some (.int .i64 X0)) ∧ u.frozen? ⟨g, k, none⟩ = false ∧ Mine .i64 3 (u.setCell ⟨g, k, none⟩ (.int .i64 d)) B (.slice (some ⟨g, 0, none⟩) n cap) (zs.set k d)) := Lib.hid (fun u hu => ⟨⟨_, (hown.up hu).cellAt k hkz⟩, (hown.up hu).free k, (hown.up hu).set k hkz d⟩)
        have HK2 := Lib.hid (fun (u : World) (hu : Up wr u) => (⟨(HB.out.trans (hu.1.mono (Nat.le_trans hBg (Nat.le_trans (Nat.le_of_lt hgw) HK.out.1)))).setCell (p := ⟨g, k, none⟩) hBg (.int .i64 d), (HK.out.trans (Keeps.of_up hu)).trans (Keeps.setCell u g k (.int .i64 d))⟩ : _ ∧ _))
        generalize zs.set k d = zt at HS HZ2 HW
        clear hnk HR hown HB HK HZ
        go_wp2_with (first | (go_at_call 17; refine (HC.out _).mono ?_; rintro e u ⟨rfl, hu⟩; obtain ⟨⟨X1, q1⟩, q2, q3⟩ := HW.out _ hu; obtain ⟨q4, q5⟩ := HK2.out _ hu; clear HW HK2))
        go_roundw
        case rel => exact ⟨k + 1, zt, by go_num, by omega, by omega, HZ2, HS, q3, Lib.hid q4, Lib.hid q5⟩
        case measure => simp [intOf] <;> omega
      · have e9 : (pb == 9) = false := by simp [h9]
        have HS : Hid (zs = R) := Lib.hid (by rw [← HR.out]; exact (runSet_end ts d k zs (fun _ => by rw [hnk]; exact e9)).symm)
        have H9 := Lib.hid h9
        have HB2 := Lib.hid (fun (u : World) (hu : Up wr u) => (⟨hown.up hu, HB.out.trans (hu.1.mono (Nat.le_trans hBg (Nat.le_trans (Nat.le_of_lt hgw) HK.out.1))), HK.out.trans (Keeps.of_up hu)⟩ : _ ∧ _ ∧ _))
        clear hnk HR hown HB HK HZ
        go_wp2_with (first | (go_at_call 17; refine (HC.out _).mono ?_; rintro e u ⟨rfl, hu⟩; obtain ⟨q1, q2, q3⟩ := HB2.out _ hu; clear HB2))
        go_end0
        exact ⟨rfl, by rw [← HS.out]; exact q1, q2, q3⟩
    · obtain rfl : k = n := by omega
      have HS : Hid (zs = R) := Lib.hid (by rw [← HR.out]; exact (runSet_end ts d k zs (fun h => by have := HN.out; omega)).symm)
      clear HR
      go_wp2
      go_end0
      exact ⟨rfl, by rw [← HS.out]; exact hown, HB.out, HK.out⟩
end Go.Proofs.Ytlopddiplmjpfaa
