/-
  A stretch of a list turned round in place, from both ends; slices of the call's own: their spots, storing into an element of several cells, what is made by 'make', slices of them; slices.Reverse at integers and at structs of three integers. Condition: at most 1000 elements.
-/
import Derived.Test.YtnocdminhcpmpaaOwn
import Derived.Test.YtnocdminhcpmpaaRow
import Derived.Test.YtnocdminhcpmpaaPush
import Derived.Test.YtnocdminhcpmpaaRob
import Derived.Lib.SliceRun
import Derived.BigRegion
set_option linter.unusedVariables false
set_option linter.unusedSimpArgs false
namespace Go.Proofs.Ytnocdminhcpmpaa
open Go.ChangeShapes Go.WideShapes Go.ChangeAt Go.RowKit Go.Sort

/-! turned round in place -/
section
variable {α : Type} {xs L : List α} {a m i : Nat}
def revS (xs : List α) (a m : Nat) : List α := xs.take a ++ ((xs.drop a).take m).reverse ++ xs.drop (a + m)
def RevAt (xs : List α) (a m i : Nat) (L : List α) : Prop := L.length = xs.length ∧ ∀ j, L[j]? = if (a ≤ j ∧ j < a + i) ∨ (a + m - i ≤ j ∧ j < a + m) then xs[a + (a + m - 1 - j)]? else xs[j]?
theorem RevAt.start (xs : List α) (a m : Nat) : RevAt xs a m 0 xs := ⟨rfl, fun j => by rw [if_neg (by omega)]⟩
theorem RevAt.step (h : RevAt xs a m i L) (hi : 2 * i + 1 < m) (ham : a + m ≤ xs.length) {x y : α} (hx : L[a + i]? = some x) (hy : L[a + m - 1 - i]? = some y) : RevAt xs a m (i + 1) ((L.set (a + i) y).set (a + m - 1 - i) x) := by
  obtain ⟨hl, h⟩ := h
  rw [h, if_neg (by omega)] at hx
  rw [h, if_neg (by omega)] at hy
  refine ⟨by simp [hl], fun j => ?_⟩
  rw [List.getElem?_set, List.length_set]
  by_cases e1 : a + m - 1 - i = j
  · rw [if_pos e1, if_pos (by omega), if_pos (by omega), show a + (a + m - 1 - j) = a + i by omega, hx]
  · rw [if_neg e1, List.getElem?_set]
    by_cases e2 : a + i = j
    · rw [if_pos e2, if_pos (by omega), if_pos (by omega), show a + (a + m - 1 - j) = a + m - 1 - i by omega, hy]
    · rw [if_neg e2, h]
      by_cases e3 : (a ≤ j ∧ j < a + i) ∨ (a + m - i ≤ j ∧ j < a + m)
      · rw [if_pos e3, if_pos (by omega)]
      · rw [if_neg e3, if_neg (by omega)]
theorem revS_get (xs : List α) (a m : Nat) (ham : a + m ≤ xs.length) (j : Nat) : (revS xs a m)[j]? = if a ≤ j ∧ j < a + m then xs[a + (a + m - 1 - j)]? else xs[j]? := by
  unfold revS
  rw [List.append_assoc]
  by_cases h1 : j < a
  · rw [if_neg (by omega), List.getElem?_append_left (by simp; omega), List.getElem?_take, if_pos h1]
  · have l1 : (xs.take a).length = a := by simp; omega
    have l2 : (((xs.drop a).take m).reverse).length = m := by simp; omega
    rw [List.getElem?_append_right (by omega), l1]
    by_cases h2 : j < a + m
    · rw [if_pos (by omega), List.getElem?_append_left (by omega), List.getElem?_reverse (by simp; omega), List.getElem?_take, if_pos (by simp; omega), List.getElem?_drop]
      congr 1
      simp
      omega
    · rw [if_neg (by omega), List.getElem?_append_right (by omega), l2, List.getElem?_drop]
      congr 1
      omega
theorem RevAt.done (h : RevAt xs a m i L) (hi : m ≤ 2 * i + 1) (h2 : 2 * i ≤ m) (ham : a + m ≤ xs.length) : L = revS xs a m := by
  apply List.ext_getElem?
  intro j
  rw [h.2, revS_get xs a m ham]
  by_cases e : a ≤ j ∧ j < a + m
  · rw [if_pos e]
    split
    · rfl
    · congr 1; omega
  · rw [if_neg e, if_neg (by omega)]
theorem revS_len (xs : List α) (a m : Nat) (ham : a + m ≤ xs.length) : (revS xs a m).length = xs.length := by unfold revS; simp; omega
theorem revS_mid (u s t : List α) : revS (u ++ s ++ t) u.length s.length = u ++ s.reverse ++ t := by
  have e1 : (u ++ s ++ t).take u.length = u := by rw [List.append_assoc, List.take_left' rfl]
  have e2 : (u ++ s ++ t).drop u.length = s ++ t := by rw [List.append_assoc, List.drop_left' rfl]
  have e3 : (u ++ s ++ t).drop (u.length + s.length) = t := List.drop_left' (by simp)
  unfold revS
  rw [e1, e2, e3, List.take_left' rfl]
end
theorem getQ (xs : List Int) (j : Nat) (hj : j < xs.length) : xs[j]? = some (xs.getD j 0) := by
  rw [List.getD_eq_getElem?_getD, List.getElem?_eq_getElem hj]; rfl

/-! slices -/
/-- whatever lay in other blocks is as it was -/
def FarO (v : Value) (w w' : World) : Prop := w.heap.size ≤ w'.heap.size ∧ ∀ b, b < w.heap.size → v.ownBlock ≠ some b → w'.heap[b]? = w.heap[b]?
theorem FarO.refl (v : Value) (w : World) : FarO v w w := ⟨Nat.le_refl _, fun _ _ _ => rfl⟩
theorem FarO.trans {v : Value} {a b c : World} (h : FarO v a b) (k : FarO v b c) : FarO v a c := ⟨Nat.le_trans h.1 k.1, fun x hx hne => (k.2 x (Nat.lt_of_lt_of_le hx h.1) hne).trans (h.2 x hx hne)⟩
theorem FarO.drew {v : Value} {a b : World} (h : FarO v a b) : FarO v a b.drew := h
theorem FarO.set {A : Option Addr} {n c g : Nat} {a b : World} (h : FarO (.slice A n c) a b) (hA : A = some ⟨g, 0, none⟩) (j : Nat) (v : Value) : FarO (.slice A n c) a (b.setCell ⟨g, j, none⟩ v) := by
  subst hA
  refine ⟨Nat.le_trans h.1 (by simp), fun x hx hne => ?_⟩
  rw [Below.heap_setCell _ _ _ _ (fun e => hne (by rw [e]; rfl))]
  exact h.2 x hx hne

theorem Mine.spot {k : IntKind} {e : TypeId} {w : World} {B n c : Nat} {A : Option Addr} {xs : List Int} {i : Nat} {y : Int} (h : Mine k e w B (.slice A n c) xs) (hi : xs[i]? = some y) :
    ∃ g, A = some ⟨g, 0, none⟩ ∧ B ≤ g ∧ g < w.heap.size ∧ w.cell? ⟨g, i, none⟩ = some (.int k y) ∧ w.frozen? ⟨g, i, none⟩ = false ∧ ∀ z, Mine k e (w.setCell ⟨g, i, none⟩ (.int k z)) B (.slice (some ⟨g, 0, none⟩) n c) (xs.set i z) := by
  have hlt := (List.getElem?_eq_some_iff.1 hi).1
  obtain ⟨g, c', hv, _, hB, hg⟩ := h.formB (by omega)
  injection hv with e1 e2 e3
  subst e1; subst e2; subst e3
  refine ⟨g, rfl, hB, hg, ?_, h.free i, fun z => h.set i hlt z⟩
  have := h.cellAt i hlt
  rw [List.getElem?_eq_getElem hlt] at hi
  injection hi with hi
  rw [hi] at this
  exact this

set_option maxRecDepth 20000 in
set_option maxHeartbeats 4000000 in
theorem revI_ok (A S : Option Addr) (n c a m q : Nat) (xs : List Int) (w : World) (B : Nat) (hown : Mine .i64 3 w B (.slice A n c) xs) (hmax : xs.length ≤ 1000) (ham : a + m ≤ xs.length)
    (hS : ∀ g, A = some ⟨g, 0, none⟩ → a < c → S = some ⟨g, a, none⟩) :
    Calls Try.prog 24 #[.slice S m q] w fun e w' => e = .returned (.tuple #[]) ∧ Mine .i64 3 w' B (.slice A n c) (revS xs a m) ∧ Below B w w' ∧ FarO (.slice A n c) w w' := by
  have hm : m ≤ 1000 := by omega
  have HS := Lib.hid hS
  have HA := Lib.hid ham
  have H0 := Lib.hid hown
  clear hown hS ham hmax
  go_enter Try.func24, Try.ntmps24
  go_wp2
  go_loopw [2, 3] (fun u v wr => ∃ (i : Nat) (L : List Int), 2 * i ≤ m ∧ u = .int .i64 i ∧ v = .int .i64 ((m : Int) - 1 - i) ∧ Hid (RevAt xs a m i L ∧ Mine .i64 3 wr B (.slice A n c) L ∧ Below B w wr ∧ FarO (.slice A n c) w wr)) (fun u _ _ => m - (intOf u).toNat)
  case atStart => exact ⟨0, xs, by omega, rfl, by go_num, Lib.hid ⟨RevAt.start _ _ _, H0.out, Below.refl _ _, FarO.refl _ _⟩⟩
  case round =>
    clear H0
    obtain ⟨i, L, him, rfl, rfl, HM⟩ := hrel
    obtain ⟨hR, hM, hb, hf⟩ := HM.out
    have hA := HA.out
    by_cases hlt : 2 * i + 1 < m
    · obtain ⟨j, hj⟩ : ∃ j, j = m - 1 - i := ⟨_, rfl⟩
      have hji : ((m : Int) - 1 - i) = (j : Int) := by omega
      have hij : i < j := by omega
      have hjm : j < m := by omega
      rw [hji]
      obtain ⟨x, hx⟩ : ∃ x, L[a + i]? = some x := ⟨_, List.getElem?_eq_getElem (by rw [hR.1]; omega)⟩
      obtain ⟨y, hy⟩ : ∃ y, L[a + j]? = some y := ⟨_, List.getElem?_eq_getElem (by rw [hR.1]; omega)⟩
      have hst := hR.step hlt hA hx (by rw [show a + m - 1 - i = a + j by omega]; exact hy)
      rw [show a + m - 1 - i = a + j by omega] at hst
      obtain ⟨g, rfl, hB, hg, hc1, hf1, hs1⟩ := hM.drew.spot hx
      obtain ⟨g', hgg, _, _, hc2, hf2, _⟩ := hM.drew.spot hy
      injection hgg with hgg
      injection hgg with hgg
      subst hgg
      have hz := (((hs1 y).spot (i := a + j) (y := y) (by rw [List.getElem?_set_ne (by omega)]; exact hy)))
      obtain ⟨g', hgg, _, _, hc3, hf3, hs3⟩ := hz
      injection hgg with hgg
      injection hgg with hgg
      subst hgg
      have HZ : Hid (RevAt xs a m (i + 1) ((L.set (a + i) y).set (a + j) x) ∧ _) := Lib.hid (And.intro hst (And.intro (hs3 x) (And.intro ((((below_drewN hb 1).setCell (p := ⟨g, a + i, none⟩) hB (.int .i64 y)).setCell (p := ⟨g, a + j, none⟩) hB (.int .i64 x))) ((hf.drew.set rfl (a + i) (.int .i64 y)).set rfl (a + j) (.int .i64 x)))))
      have hcap : a < c := by
        obtain ⟨A', c', e1, e2, _, _⟩ := hM.size
        injection e1 with e1 e3 e4
        have := hR.1
        omega
      obtain rfl := HS.out g rfl hcap
      have hc4 : ((wr.setCell ⟨g, a + i, none⟩ (.int .i64 y)).drew).cell? ⟨g, a + j, none⟩ = some (.int .i64 y) := hc3
      have hf4 : ((wr.setCell ⟨g, a + i, none⟩ (.int .i64 y)).drew).frozen? ⟨g, a + j, none⟩ = false := hf3
      have HJ := Lib.hid hj
      clear hs1 hs3 hx hy HM hR hM hb hf hst hcap hA hj hji
      go_wp2_with fail
      go_region
      go_wp2
      go_roundw
      case rel => exact ⟨i + 1, _, by omega, by go_num, by have := HJ.out; go_num, HZ⟩
      case measure => simp [intOf] <;> omega
    · have hlt2 : ¬ ((i : Int) < (m : Int) - 1 - i) := by omega
      have hd := hR.done (by omega) (by omega) hA
      rw [hd] at hM
      clear hR hd
      go_wp2
      go_end0
      exact ⟨rfl, hM, hb, hf⟩
/-! spans -/
def LSp : Lay Rn := ⟨fun r => [.int .i64 (r.1 : Int), .int .i64 (r.2.1 : Int), .int .i64 (r.2.2 : Int)], 3, fun _ => rfl, fun r u hu => by simp at hu; rcases hu with rfl | rfl | rfl <;> rfl⟩
abbrev MineS (w : World) (B : Nat) (v : Value) (l : List Rn) : Prop := MineN LSp 33 w B v l
section
variable {α : Type} {R : Lay α}
theorem cellsN_set : ∀ (l : List α) (i : Nat) (x y : α) (q : Nat) (u : Value), l[i]? = some x → q < R.C → R.row y = (R.row x).set q u → cellsN R (l.set i y) = (cellsN R l).set (i * R.C + q) u
  | [], _, _, _, _, _, h, _, _ => by simp at h
  | z :: l, 0, x, y, q, u, h, hq, hr => by
    simp at h; subst h
    rw [List.set_cons_zero, cellsN_cons, cellsN_cons, hr, Nat.zero_mul, Nat.zero_add, List.set_append_left _ _ (by rw [R.len]; exact hq)]
  | z :: l, i + 1, x, y, q, u, h, hq, hr => by
    rw [List.set_cons_succ, cellsN_cons, cellsN_cons, cellsN_set l i x y q u (by simpa using h) hq hr, List.set_append_right _ _ (by rw [R.len, Nat.succ_mul]; omega), R.len]
    congr 2
    rw [Nat.succ_mul]; omega
theorem MineN.set {e : TypeId} {w : World} {B g n c : Nat} {l : List α} {i q : Nat} {x y : α} {u : Value} (h : MineN R e w B (.slice (some ⟨g, 0, none⟩) n c) l) (hi : l[i]? = some x) (hq : q < R.C) (hr : R.row y = (R.row x).set q u) :
    MineN R e (w.setCell ⟨g, i * R.C + q, none⟩ u) B (.slice (some ⟨g, 0, none⟩) n c) (l.set i y) := by
  refine ⟨length_cellsN _, ?_⟩
  rcases h.2 with ⟨a, b⟩ | ⟨g', cap, cur, a, b, hg, hc, hm, hs, ht⟩
  · cases a
  · injection a with a1 a2 a3
    injection a1 with a1
    injection a1 with a1
    subst a1; subst a2; subst a3
    rw [List.length_set]
    refine .inr ⟨g, c, cur.setIfInBounds (i * R.C + q) u, rfl, b, ?_, hc, hm, by simp [hs], ?_⟩
    · have hlt := (Array.getElem?_eq_some_iff.1 hg).1
      have h' : w.heap[g] = .cells cur e (0, 0) := by simpa [Array.getElem?_eq_getElem hlt] using hg
      show (w.heap.modify g _)[g]? = _
      rw [Array.getElem?_eq_getElem (by simpa using hlt), Array.getElem_modify_self, h']
      rfl
    · rw [Array.toList_setIfInBounds, List.take_set, ht, cellsN_set l i x y q u hi hq hr]
theorem MineN.free {e : TypeId} {w : World} {B g n c : Nat} {l : List α} (h : MineN R e w B (.slice (some ⟨g, 0, none⟩) n c) l) (j : Nat) : w.frozen? ⟨g, j, none⟩ = false := by
  rcases h.2 with ⟨hx, _⟩ | ⟨g', cap, cur, hx, _, hg, _⟩
  · cases hx
  · injection hx with hx1 hx2 hx3
    injection hx1 with hx1
    injection hx1 with hx1
    subst hx1
    simp [World.frozen?, hg]
theorem MineN.cellAt {e : TypeId} {w : World} {B g n c : Nat} {l : List α} (h : MineN R e w B (.slice (some ⟨g, 0, none⟩) n c) l) {i q : Nat} {x : α} {u : Value} (hi : l[i]? = some x) (hq : (R.row x)[q]? = some u) : w.cell? ⟨g, i * R.C + q, none⟩ = some u := by
  obtain ⟨g', c', hv, _, _, _, hc⟩ := h.form (fun e => by subst e; simp at hi)
  injection hv with hv1 hv2 hv3
  injection hv1 with hv1
  injection hv1 with hv1
  subst hv1
  have := hc i x hi q u hq
  rwa [Nat.zero_add] at this
end
/-- a store of all three cells -/
def set3 (w : World) (g o : Nat) (r : Rn) : World := ((w.setCell ⟨g, o, none⟩ (.int .i64 (r.1 : Int))).setCell ⟨g, o + 1, none⟩ (.int .i64 (r.2.1 : Int))).setCell ⟨g, o + 2, none⟩ (.int .i64 (r.2.2 : Int))
theorem drew_set3 (w : World) (g o : Nat) (r : Rn) : set3 w.drew g o r = (set3 w g o r).drew := rfl
theorem below_set3 {B : Nat} {w0 w : World} (h : Below B w0 w) {g : Nat} (hB : B ≤ g) (o : Nat) (r : Rn) : Below B w0 (set3 w g o r) :=
  ((h.setCell (p := ⟨g, o, none⟩) hB _).setCell (p := ⟨g, o + 1, none⟩) hB _).setCell (p := ⟨g, o + 2, none⟩) hB _
theorem far_set3 {A : Option Addr} {n c g : Nat} {w0 w : World} (h : FarO (.slice A n c) w0 w) (hA : A = some ⟨g, 0, none⟩) (o : Nat) (r : Rn) : FarO (.slice A n c) w0 (set3 w g o r) :=
  ((h.set hA o _).set hA (o + 1) _).set hA (o + 2) _
/-- an element of three cells: where it lies, its cells, and what a store of all three makes of it -/
theorem MineS.spot {w : World} {B n c : Nat} {A : Option Addr} {l : List Rn} {i : Nat} {x : Rn} (h : MineS w B (.slice A n c) l) (hi : l[i]? = some x) :
    ∃ g, A = some ⟨g, 0, none⟩ ∧ B ≤ g ∧ g < w.heap.size ∧ (w.cell? ⟨g, i * 3, none⟩ = some (.int .i64 (x.1 : Int)) ∧ w.cell? ⟨g, i * 3 + 1, none⟩ = some (.int .i64 (x.2.1 : Int)) ∧ w.cell? ⟨g, i * 3 + 2, none⟩ = some (.int .i64 (x.2.2 : Int))) ∧ (∀ j, w.frozen? ⟨g, j, none⟩ = false) ∧
      ∀ y : Rn, MineS (set3 w g (i * 3) y) B (.slice (some ⟨g, 0, none⟩) n c) (l.set i y) := by
  have hlt := (List.getElem?_eq_some_iff.1 hi).1
  obtain ⟨g, c', hv, _, hB, hg, _⟩ := h.form (fun e => by rw [e] at hlt; simp at hlt)
  injection hv with e1 e2 e3
  subst e1; subst e2; subst e3
  refine ⟨g, rfl, hB, hg, ⟨h.cellAt (q := 0) hi rfl, h.cellAt (q := 1) hi rfl, h.cellAt (q := 2) hi rfl⟩, fun j => h.free j, fun y => ?_⟩
  have h1 : MineS (w.setCell ⟨g, i * 3, none⟩ (.int .i64 (y.1 : Int))) B (.slice (some ⟨g, 0, none⟩) l.length c) (l.set i (y.1, x.2.1, x.2.2)) := MineN.set (q := 0) h hi (by decide) rfl
  have h2 : MineS ((w.setCell ⟨g, i * 3, none⟩ (.int .i64 (y.1 : Int))).setCell ⟨g, i * 3 + 1, none⟩ (.int .i64 (y.2.1 : Int))) B (.slice (some ⟨g, 0, none⟩) l.length c) ((l.set i (y.1, x.2.1, x.2.2)).set i (y.1, y.2.1, x.2.2)) := MineN.set (q := 1) h1 (List.getElem?_set_self hlt) (by decide) rfl
  have h3 := MineN.set (q := 2) (y := y) (u := .int .i64 (y.2.2 : Int)) h2 (List.getElem?_set_self (by simpa using hlt)) (by decide) rfl
  rw [List.set_set, List.set_set] at h3
  exact h3

set_option maxRecDepth 20000 in
set_option maxHeartbeats 4000000 in
theorem revQ_ok (A S : Option Addr) (n c a m q : Nat) (xs : List Rn) (w : World) (B : Nat) (hown : MineS w B (.slice A n c) xs) (hmax : xs.length ≤ 1000) (ham : a + m ≤ xs.length)
    (hS : ∀ g, A = some ⟨g, 0, none⟩ → a < c → S = some ⟨g, a * 3, none⟩) :
    Calls Try.prog 32 #[.slice S m q] w fun e w' => e = .returned (.tuple #[]) ∧ MineS w' B (.slice A n c) (revS xs a m) ∧ Below B w w' ∧ FarO (.slice A n c) w w' := by
  have hm : m ≤ 1000 := by omega
  have HS := Lib.hid hS
  have HA := Lib.hid ham
  have H0 := Lib.hid hown
  clear hown hS ham hmax
  go_enter Try.func32, Try.ntmps32
  go_wp2
  go_loopw [2, 3] (fun u v wr => ∃ (i : Nat) (L : List Rn), 2 * i ≤ m ∧ u = .int .i64 i ∧ v = .int .i64 ((m : Int) - 1 - i) ∧ Hid (RevAt xs a m i L ∧ MineS wr B (.slice A n c) L ∧ Below B w wr ∧ FarO (.slice A n c) w wr)) (fun u _ _ => m - (intOf u).toNat)
  case atStart => exact ⟨0, xs, by omega, rfl, by go_num, Lib.hid ⟨RevAt.start _ _ _, H0.out, Below.refl _ _, FarO.refl _ _⟩⟩
  case round =>
    clear H0
    obtain ⟨i, L, him, rfl, rfl, HM⟩ := hrel
    obtain ⟨hR, hM, hb, hf⟩ := HM.out
    have hA := HA.out
    by_cases hlt : 2 * i + 1 < m
    · obtain ⟨j, hj⟩ : ∃ j, j = m - 1 - i := ⟨_, rfl⟩
      have hji : ((m : Int) - 1 - i) = (j : Int) := by omega
      have hij : i < j := by omega
      have hjm : j < m := by omega
      have him2 : i < m := by omega
      rw [hji]
      obtain ⟨x, hx⟩ : ∃ x, L[a + i]? = some x := ⟨_, List.getElem?_eq_getElem (by rw [hR.1]; omega)⟩
      obtain ⟨y, hy⟩ : ∃ y, L[a + j]? = some y := ⟨_, List.getElem?_eq_getElem (by rw [hR.1]; omega)⟩
      have hst := hR.step hlt hA hx (by rw [show a + m - 1 - i = a + j by omega]; exact hy)
      rw [show a + m - 1 - i = a + j by omega] at hst
      have hcap : a < c := by
        obtain ⟨A', c', e1, e2, _, _⟩ := MineN.has hM
        injection e1 with e1 e3 e4
        have := hR.1
        omega
      obtain ⟨g, rfl, hB, hg, ⟨ca1, ca2, ca3⟩, hf1, hs1⟩ := MineS.spot (MineN.drew hM) hx
      obtain ⟨g', hgg, _, _, ⟨cb1, cb2, cb3⟩, _, _⟩ := MineS.spot (MineN.drew hM) hy
      injection hgg with hgg
      injection hgg with hgg
      subst hgg
      have hz := MineS.spot (hs1 y) (i := a + j) (x := y) (by rw [List.getElem?_set_ne (by omega)]; exact hy)
      obtain ⟨g', hgg, _, _, ⟨cc1, cc2, cc3⟩, hf3, hs3⟩ := hz
      injection hgg with hgg
      injection hgg with hgg
      subst hgg
      obtain rfl := HS.out g rfl hcap
      rw [show (a + i) * 3 = a * 3 + i * 3 by omega] at ca1 ca2 ca3
      rw [show (a + j) * 3 = a * 3 + j * 3 by omega] at cb1 cb2 cb3
      rw [show (a + i) * 3 = a * 3 + i * 3 by omega] at cc1 cc2 cc3 hf3 hs3
      rw [show (a + j) * 3 = a * 3 + j * 3 by omega] at cc1 cc2 cc3 hs3
      have ca1' : wr.cell? ⟨g, a * 3 + i * 3, none⟩ = _ := ca1
      have ca2' : wr.cell? ⟨g, a * 3 + i * 3 + 1, none⟩ = _ := ca2
      have ca3' : wr.cell? ⟨g, a * 3 + i * 3 + 2, none⟩ = _ := ca3
      have cb1' : wr.cell? ⟨g, a * 3 + j * 3, none⟩ = _ := cb1
      have cb2' : wr.cell? ⟨g, a * 3 + j * 3 + 1, none⟩ = _ := cb2
      have cb3' : wr.cell? ⟨g, a * 3 + j * 3 + 2, none⟩ = _ := cb3
      have fa : ∀ q, wr.frozen? ⟨g, q, none⟩ = false := hf1
      have fa1 := fa (a * 3 + i * 3)
      have fa2 := fa (a * 3 + i * 3 + 1)
      have fa3 := fa (a * 3 + i * 3 + 2)
      have fb1 := fa (a * 3 + j * 3)
      have fb2 := fa (a * 3 + j * 3 + 1)
      have fb3 := fa (a * 3 + j * 3 + 2)
      have n00 : ¬ i = j := by omega
      have n01 : ¬ i * 3 = j * 3 + 1 := by omega
      have n02 : ¬ i * 3 = j * 3 + 2 := by omega
      have n10 : ¬ i * 3 + 1 = j * 3 := by omega
      have n12 : ¬ i * 3 + 1 = j * 3 + 2 := by omega
      have n20 : ¬ i * 3 + 2 = j * 3 := by omega
      have n21 : ¬ i * 3 + 2 = j * 3 + 1 := by omega
      have hZ := hs3 x
      have HZ : Hid (RevAt xs a m (i + 1) ((L.set (a + i) y).set (a + j) x) ∧ MineS (set3 (set3 wr.drew g (a * 3 + i * 3) y) g (a * 3 + j * 3) x) B (.slice (some ⟨g, 0, none⟩) n c) ((L.set (a + i) y).set (a + j) x) ∧ Below B w (set3 (set3 wr.drew g (a * 3 + i * 3) y) g (a * 3 + j * 3) x) ∧ FarO (.slice (some ⟨g, 0, none⟩) n c) w (set3 (set3 wr.drew g (a * 3 + i * 3) y) g (a * 3 + j * 3) x)) :=
        Lib.hid ⟨hst, hZ, below_set3 (below_set3 (below_drewN hb 1) hB _ _) hB _ _, far_set3 (far_set3 hf.drew rfl _ _) rfl _ _⟩
      rw [drew_set3, drew_set3] at HZ
      unfold set3 at HZ
      have HJ := Lib.hid hj
      clear hs1 hs3 hx hy HM hR hM hb hf hst hcap hA hj hji hZ cc1 cc2 cc3 hf1 hf3 fa ca1 ca2 ca3 cb1 cb2 cb3
      go_wp2_with fail
      go_region
      go_wp2
      go_roundw
      case rel => exact ⟨i + 1, _, by omega, by go_num, by have := HJ.out; go_num, HZ⟩
      case measure => simp [intOf] <;> omega
    · have hlt2 : ¬ ((i : Int) < (m : Int) - 1 - i) := by omega
      have hd := hR.done (by omega) (by omega) hA
      rw [hd] at hM
      clear hR hd
      go_wp2
      go_end0
      exact ⟨rfl, hM, hb, hf⟩
end Go.Proofs.Ytnocdminhcpmpaa
