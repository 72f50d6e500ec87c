/-
  Mappings (a code point, a glyph) in a slice of the call's own: its cells, an exchange of two of them; what turns when one block alone is written; the order by code point that layer 22 sorts by. No condition.
-/
import Derived.Test.YtnpcakeagpbgiaaGreatZRos
import Derived.Test.YtnpcakeagpbgiaaGreatZOwn
import Derived.Test.YtnpcakeagpbgiaaGreatZFont
import Derived.Test.YtnpcakeagpbgiaaGreatStm
import Derived.BigRegion
import Derived.Deep.RegionHeld3
import Derived.Test.YtnpcakeagpbgiaaGreatStn
set_option linter.unusedVariables false
set_option linter.unusedSimpArgs false
namespace Go.Proofs.YtnpcakeagpbgiaaGreat
open Go.ChangeShapes Go.WideShapes Go.ChangeAt Go.RowKit Go.Sort

/-- of the blocks that were there g alone has turned; the count of draws has not gone down -/
structure Off (g : Nat) (w w' : World) : Prop where
  os : w'.os = w.os
  tape : w'.tape = w.tape
  output : w'.output = w.output
  size : w.heap.size ≤ w'.heap.size
  block : ∀ b, b < w.heap.size → b ≠ g → w'.heap[b]? = w.heap[b]?
  drawn : w.drawn ≤ w'.drawn
section
variable {g : Nat} {a b c : World}
theorem Off.refl (g : Nat) (w : World) : Off g w w := ⟨rfl, rfl, rfl, Nat.le_refl _, fun _ _ _ => rfl, Nat.le_refl _⟩
theorem Off.trans (h : Off g a b) (k : Off g b c) : Off g a c := ⟨k.os.trans h.os, k.tape.trans h.tape, k.output.trans h.output, Nat.le_trans h.size k.size, fun x hx hne => (k.block x (Nat.lt_of_lt_of_le hx h.size) hne).trans (h.block x hx hne), Nat.le_trans h.drawn k.drawn⟩
theorem Off.of_up (h : Up a b) : Off g a b := ⟨h.1.os, h.1.tape, h.1.output, h.1.size, fun x hx _ => h.1.block x hx, h.2⟩
theorem Off.drew (h : Off g a b) : Off g a b.drew := ⟨h.os, h.tape, h.output, h.size, h.block, Nat.le_trans h.drawn (Nat.le_succ _)⟩
theorem Off.drewN (h : Off g a b) (n : Nat) : Off g a (b.drewN n) := ⟨h.os, h.tape, h.output, h.size, h.block, Nat.le_trans h.drawn (Nat.le_add_right _ _)⟩
theorem Off.set (h : Off g a b) (j : Nat) (v : Value) : Off g a (b.setCell ⟨g, j, none⟩ v) := ⟨h.os, h.tape, h.output, by simpa using h.size, fun x hx hne => by rw [Below.heap_setCell _ _ _ _ hne]; exact h.block x hx hne, h.drawn⟩
theorem Off.below (h : Off g a b) {B : Nat} (hB : B ≤ g) (hs : B ≤ a.heap.size) : Below B a b := ⟨h.os, h.tape, h.output, h.size, fun x hx => h.block x (by omega) (by omega)⟩
/-- the block is a new one: nothing that was there has turned -/
theorem Off.up (h : Off g a b) (hg : a.heap.size ≤ g) : Up a b := ⟨h.below hg (Nat.le_refl _), h.drawn⟩
end
/-- mappings in a slice of the call's own -/
abbrev MineM (w : World) (B : Nat) (v : Value) (l : List mapS.Dat) : Prop := MineN mapS.lay 81 w B v l
/-- a store of both cells -/
def set2 (w : World) (g o : Nat) (m : mapS.Dat) : World := (w.setCell ⟨g, o, none⟩ (.int .i32 m.1)).setCell ⟨g, o + 1, none⟩ (.int .i64 m.2.1)
theorem drew_set2 (w : World) (g o : Nat) (m : mapS.Dat) : set2 w.drew g o m = (set2 w g o m).drew := rfl
theorem off_set2 {g : Nat} {a b : World} (h : Off g a b) (o : Nat) (m : mapS.Dat) : Off g a (set2 b g o m) := (h.set o _).set (o + 1) _
theorem MineM.spot {w : World} {B n c g : Nat} {l : List mapS.Dat} {i : Nat} {x : mapS.Dat} (h : MineM w B (.slice (some ⟨g, 0, none⟩) n c) l) (hi : l[i]? = some x) :
    (w.cell? ⟨g, i * 2, none⟩ = some (.int .i32 x.1) ∧ w.cell? ⟨g, i * 2 + 1, none⟩ = some (.int .i64 x.2.1)) ∧ ∀ y : mapS.Dat, MineM (set2 w g (i * 2) y) B (.slice (some ⟨g, 0, none⟩) n c) (l.set i y) := by
  have hlt := (List.getElem?_eq_some_iff.1 hi).1
  refine ⟨⟨MineN.cellAt (R := mapS.lay) (q := 0) h hi rfl, MineN.cellAt (R := mapS.lay) (q := 1) h hi rfl⟩, fun y => ?_⟩
  have h1 : MineM (w.setCell ⟨g, i * 2, none⟩ (.int .i32 y.1)) B (.slice (some ⟨g, 0, none⟩) n c) (l.set i (y.1, x.2.1, ())) := MineN.set (R := mapS.lay) (q := 0) h hi (by decide) rfl
  have h2 := MineN.set (R := mapS.lay) (q := 1) (y := y) (u := .int .i64 y.2.1) h1 (List.getElem?_set_self hlt) (by decide) rfl
  rw [List.set_set] at h2
  exact h2
/-- all that an exchange of two elements wants, ahead of it -/
theorem MineM.exch {w : World} {B n c g : Nat} {l : List mapS.Dat} {i j : Nat} {x y : mapS.Dat} (h : MineM w B (.slice (some ⟨g, 0, none⟩) n c) l) (hij : i ≠ j) (hx : l[i]? = some x) (hy : l[j]? = some y) :
    ((w.cell? ⟨g, i * 2, none⟩ = some (.int .i32 x.1) ∧ w.cell? ⟨g, i * 2 + 1, none⟩ = some (.int .i64 x.2.1)) ∧ (w.cell? ⟨g, j * 2, none⟩ = some (.int .i32 y.1) ∧ w.cell? ⟨g, j * 2 + 1, none⟩ = some (.int .i64 y.2.1))) ∧ (∀ q, w.frozen? ⟨g, q, none⟩ = false) ∧
      MineM (set2 (set2 w g (i * 2) y) g (j * 2) x) B (.slice (some ⟨g, 0, none⟩) n c) ((l.set i y).set j x) := by
  obtain ⟨h1, h2⟩ := h.spot hx
  obtain ⟨h3, _⟩ := h.spot hy
  exact ⟨⟨h1, h3⟩, fun q => h.free q, (MineM.spot (h2 y) (i := j) (x := y) (by rw [List.getElem?_set_ne hij]; exact hy)).2 x⟩
theorem MineM.lt {w : World} {B n c g : Nat} {l : List mapS.Dat} (h : MineM w B (.slice (some ⟨g, 0, none⟩) n c) l) : B ≤ g ∧ g < w.heap.size := h.own_lt g rfl
theorem MineM.len {w : World} {B n c : Nat} {A : Option Addr} {l : List mapS.Dat} (h : MineM w B (.slice A n c) l) : n = l.length := by
  obtain ⟨A', c', e, _⟩ := MineN.has h
  injection e

/-- by code point alone -/
@[reducible] def keyM (m : mapS.Dat) : Int := m.1
/-- cmp.Compare's answer -/
def cmpI (x y : Int) : Int := if x < y then -1 else if y < x then 1 else 0
theorem cmpI_neg (x y : Int) : cmpI x y < 0 ↔ x < y := by
  unfold cmpI
  split
  · omega
  · split <;> omega
theorem cmpI_zero (x y : Int) : cmpI x y = 0 ↔ x = y := by
  unfold cmpI
  split
  · omega
  · split <;> omega
theorem compare_ok (x y : Int) (w : World) : Calls Tryz.prog 71 #[.int .i32 x, .int .i32 y] w fun e w' => e = .returned (.int .i64 (cmpI x y)) ∧ w = w' := by
  by_cases h : x < y
  · have e : cmpI x y = -1 := if_pos h
    rw [e]; clear e
    go_enter Tryz.func71, Tryz.ntmps71
    go_wp2
    go_ret
    exact ⟨rfl, rfl⟩
  · by_cases h2 : y < x
    · have e : cmpI x y = 1 := by unfold cmpI; rw [if_neg h, if_pos h2]
      rw [e]; clear e
      go_enter Tryz.func71, Tryz.ntmps71
      go_wp2
      go_ret
      exact ⟨rfl, rfl⟩
    · have e : cmpI x y = 0 := by unfold cmpI; rw [if_neg h, if_neg h2]
      rw [e]; clear e
      go_enter Tryz.func71, Tryz.ntmps71
      go_wp2
      go_ret
      exact ⟨rfl, rfl⟩
/-- the order that the program sorts mappings by: it lays two blocks -/
theorem order_ok (x y : mapS.Dat) (w : World) : Calls Tryz.prog 70 #[.agg #[.int .i32 x.1, .int .i64 x.2.1], .agg #[.int .i32 y.1, .int .i64 y.2.1]] w fun e w' => e = .returned (.int .i64 (cmpI x.1 y.1)) ∧ Up w w' := by
  obtain ⟨a, ha⟩ : ∃ a : Int, x.1 = a := ⟨_, rfl⟩
  obtain ⟨b, hb⟩ : ∃ b : Int, x.2.1 = b := ⟨_, rfl⟩
  obtain ⟨c, hc⟩ : ∃ c : Int, y.1 = c := ⟨_, rfl⟩
  obtain ⟨d, hd⟩ : ∃ d : Int, y.2.1 = d := ⟨_, rfl⟩
  rw [ha, hb, hc, hd]
  clear ha hb hc hd
  have HC := Lib.hid (compare_ok a c)
  go_enter Tryz.func70, Tryz.ntmps70
  go_wp2_with (go_at_call 71; (with_reducible refine (HC.out _).mono ?_); rintro e u ⟨rfl, rfl⟩)
  go_ret
  exact ⟨rfl, ((Up.refl _).alloc _).alloc _⟩
end Go.Proofs.YtnpcakeagpbgiaaGreat

/-
  The library's swapRange, rotate and insertion sort at mappings in a slice of the call's own. Condition: at most 1000000 elements.
-/
set_option linter.unusedVariables false
set_option linter.unusedSimpArgs false
namespace Go.Proofs.YtnpcakeagpbgiaaGreat
open Go.ChangeShapes Go.WideShapes Go.ChangeAt Go.RowKit Go.Sort

set_option maxRecDepth 20000 in
set_option maxHeartbeats 4000000 in
theorem swapR_ok (g n c a b k B : Nat) (D : List mapS.Dat) (w : World) (hown : MineM w B (.slice (some ⟨g, 0, none⟩) n c) D) (hmax : n ≤ 1000000) (hab : a + k ≤ b) (hb : b + k ≤ n) :
    Calls Tryz.prog 152 #[.slice (some ⟨g, 0, none⟩) n c, .int .i64 a, .int .i64 b, .int .i64 k, .func (.func 70) #[] #[]] w fun e w' =>
      e = .returned (.tuple #[]) ∧ ∃ E, SwpAt a b k D E ∧ MineM w' B (.slice (some ⟨g, 0, none⟩) n c) E ∧ Off g w w' := by
  have HB := Lib.hid hb
  have HL := Lib.hid hown.len
  have H0 := Lib.hid hown
  clear hown
  go_enter Tryz.func152, Tryz.ntmps152
  go_wp2
  go_loopw [10] (fun u wr => ∃ (i : Nat) (L : List mapS.Dat), i ≤ k ∧ u = .int .i64 i ∧ Hid (SwpAt a b i D L ∧ MineM wr B (.slice (some ⟨g, 0, none⟩) n c) L ∧ Off g w wr)) (fun u _ => k - (intOf u).toNat)
  case atStart => exact ⟨0, D, by omega, rfl, Lib.hid ⟨SwpAt.start _ _ _, H0.out, Off.refl _ _⟩⟩
  case round =>
    clear H0
    obtain ⟨i, L, hik, rfl, HM⟩ := hrel
    obtain ⟨hR, hM, hf⟩ := HM.out
    have hl := HL.out
    by_cases hlt : i < k
    · obtain ⟨x, hx⟩ : ∃ x, L[a + i]? = some x := ⟨_, List.getElem?_eq_getElem (by rw [hR.1]; omega)⟩
      obtain ⟨y, hy⟩ : ∃ y, L[b + i]? = some y := ⟨_, List.getElem?_eq_getElem (by rw [hR.1]; omega)⟩
      have hst := hR.step hlt hab (by omega) hx hy
      obtain ⟨p, hp⟩ : ∃ p, a + i = p := ⟨_, rfl⟩
      obtain ⟨q, hq⟩ : ∃ q, b + i = q := ⟨_, rfl⟩
      rw [hp] at hx hst
      rw [hq] at hy hst
      have hpn : p < n := by omega
      have hqn : q < n := by omega
      have hpi : (a : Int) + (i : Int) = (p : Int) := by omega
      have hqi : (b : Int) + (i : Int) = (q : Int) := by omega
      obtain ⟨⟨⟨ca1, ca2⟩, cb1, cb2⟩, fa, hZ⟩ := hM.exch (show p ≠ q by omega) hx hy
      have fa1 := fa (p * 2)
      have fa2 := fa (p * 2 + 1)
      have fb1 := fa (q * 2)
      have fb2 := fa (q * 2 + 1)
      have n00 : ¬ p = q := by omega
      have n01 : ¬ p * 2 = q * 2 + 1 := by omega
      have n10 : ¬ p * 2 + 1 = q * 2 := by omega
      have HZ : Hid (SwpAt a b (i + 1) D ((L.set p y).set q x) ∧ MineM (set2 (set2 wr.drew g (p * 2) y) g (q * 2) x) B (.slice (some ⟨g, 0, none⟩) n c) ((L.set p y).set q x) ∧ Off g w (set2 (set2 wr.drew g (p * 2) y) g (q * 2) x)) :=
        Lib.hid ⟨hst, (by rw [drew_set2, drew_set2]; exact hZ), off_set2 (off_set2 hf.drew _ _) _ _⟩
      rw [drew_set2, drew_set2] at HZ
      unfold set2 at HZ
      clear hx hy HM hR hM hf hst hl hp hq hZ fa
      go_wp2_with fail
      go_region
      go_wp2
      go_roundw
      case rel => exact ⟨i + 1, _, by omega, by go_num, HZ⟩
      case measure => simp [intOf] <;> omega
    · obtain rfl : i = k := by omega
      clear hl
      go_wp2
      go_end0
      exact ⟨rfl, _, hR, hM, hf⟩

set_option maxRecDepth 20000 in
set_option maxHeartbeats 4000000 in
theorem rotate_ok (g n c s m e B : Nat) (D F : List mapS.Dat) (w : World) (hown : MineM w B (.slice (some ⟨g, 0, none⟩) n c) D) (hmax : n ≤ 1000000) (hsm : s < m) (hme : m < e) (hen : e ≤ n) (hF : Rot s m e D F) :
    Calls Tryz.prog 150 #[.slice (some ⟨g, 0, none⟩) n c, .int .i64 s, .int .i64 m, .int .i64 e, .func (.func 70) #[] #[]] w fun x w' =>
      x = .returned (.tuple #[]) ∧ MineM w' B (.slice (some ⟨g, 0, none⟩) n c) F ∧ Off g w w' := by
  have H0 : Hid (Rot (m - (m - s)) m (m + (e - m)) D F ∧ MineM w B (.slice (some ⟨g, 0, none⟩) n c) D) := Lib.hid ⟨by rw [show m - (m - s) = s by omega, show m + (e - m) = e by omega]; exact hF, hown⟩
  clear hown hF
  go_enter Tryz.func150, Tryz.ntmps150
  go_wp2
  go_loopw [10, 11] (fun u v wr => ∃ (i j : Nat) (L : List mapS.Dat), (0 < i ∧ 0 < j ∧ i ≤ m ∧ m + j ≤ n) ∧ u = .int .i64 i ∧ v = .int .i64 j ∧ Hid (Rot (m - i) m (m + j) L F ∧ MineM wr B (.slice (some ⟨g, 0, none⟩) n c) L ∧ Off g w wr)) (fun u v _ => (intOf u).toNat + (intOf v).toNat)
  case atStart => exact ⟨m - s, e - m, D, by omega, by go_num, by go_num, Lib.hid ⟨H0.out.1, H0.out.2, Off.refl _ _⟩⟩
  case round =>
    clear H0
    obtain ⟨i, j, L, ⟨hi, hj, him, hjn⟩, rfl, rfl, HM⟩ := hrel
    obtain ⟨p, hp⟩ : ∃ p, m - i = p := ⟨_, rfl⟩
    have hpi : (m : Int) - (i : Int) = (p : Int) := by omega
    by_cases hlt : j < i
    · have HC := Lib.hid (swapR_ok g n c p m j B L wr HM.out.2.1 hmax (by omega) (by omega))
      have HZ := Lib.hid (fun (E : List mapS.Dat) (u : World) (h1 : SwpAt p m j L E) (h2 : MineM u B (.slice (some ⟨g, 0, none⟩) n c) E) (h3 : Off g wr u) =>
        (⟨HM.out.1.right him (by omega) (by rw [hp]; exact h1), h2, HM.out.2.2.trans h3⟩ : Rot (m - (i - j)) m (m + j) E F ∧ MineM u B (.slice (some ⟨g, 0, none⟩) n c) E ∧ Off g w u))
      clear HM hp
      go_wp2_with (go_at_call 152; (with_reducible refine HC.out.mono ?_); rintro x u ⟨rfl, E, h1, h2, h3⟩)
      have HE := Lib.hid (HZ.out E u h1 h2 h3)
      clear h1 h2 h3 HZ HC
      go_roundw
      case rel => exact ⟨i - j, j, E, by omega, by go_num, rfl, HE⟩
      case measure => simp [intOf] <;> omega
    · by_cases hlt2 : i < j
      · obtain ⟨q, hq⟩ : ∃ q, m + j - i = q := ⟨_, rfl⟩
        have hqi : (m : Int) + (j : Int) - (i : Int) = (q : Int) := by omega
        have HC := Lib.hid (swapR_ok g n c p q i B L wr HM.out.2.1 hmax (by omega) (by omega))
        have HZ := Lib.hid (fun (E : List mapS.Dat) (u : World) (h1 : SwpAt p q i L E) (h2 : MineM u B (.slice (some ⟨g, 0, none⟩) n c) E) (h3 : Off g wr u) =>
          (⟨HM.out.1.left him (by omega) (by rw [hp, hq]; exact h1), h2, HM.out.2.2.trans h3⟩ : Rot (m - i) m (m + (j - i)) E F ∧ MineM u B (.slice (some ⟨g, 0, none⟩) n c) E ∧ Off g w u))
        have hne : ¬ i = j := by omega
        clear HM hp hq
        go_wp2_with (go_at_call 152; (with_reducible refine HC.out.mono ?_); rintro x u ⟨rfl, E, h1, h2, h3⟩)
        have HE := Lib.hid (HZ.out E u h1 h2 h3)
        clear h1 h2 h3 HZ HC
        go_roundw
        case rel => exact ⟨i, j - i, E, by omega, rfl, by go_num, HE⟩
        case measure => simp [intOf] <;> omega
      · obtain rfl : i = j := by omega
        have HC := Lib.hid (swapR_ok g n c p m i B L wr HM.out.2.1 hmax (by omega) (by omega))
        have HZ := Lib.hid (fun (E : List mapS.Dat) (u : World) (h1 : SwpAt p m i L E) (h2 : MineM u B (.slice (some ⟨g, 0, none⟩) n c) E) (h3 : Off g wr u) =>
          (⟨by rw [← HM.out.1.even him (by rw [hp]; exact h1)]; exact h2, HM.out.2.2.trans h3⟩ : MineM u B (.slice (some ⟨g, 0, none⟩) n c) F ∧ Off g w u))
        clear HM hp
        go_wp2_with (go_at_call 152; (with_reducible refine HC.out.mono ?_); rintro x u ⟨rfl, E, h1, h2, h3⟩)
        have HE := Lib.hid (HZ.out E u h1 h2 h3)
        clear h1 h2 h3 HZ HC
        go_end0
        exact ⟨rfl, HE.out⟩
end Go.Proofs.YtnpcakeagpbgiaaGreat

/-
  The library's insertion sort at mappings in a slice of the call's own, by code point. Condition: at most 1000000 elements.
-/
set_option linter.unusedVariables false
set_option linter.unusedSimpArgs false
namespace Go.Proofs.YtnpcakeagpbgiaaGreat
open Go.ChangeShapes Go.WideShapes Go.ChangeAt Go.RowKit Go.Sort

set_option maxRecDepth 20000 in
set_option maxHeartbeats 4000000 in
theorem insert_ok (g n c a b B : Nat) (D : List mapS.Dat) (w : World) (hown : MineM w B (.slice (some ⟨g, 0, none⟩) n c) D) (hmax : n ≤ 1000000) (hab : a ≤ b) (hb : b ≤ n) :
    Calls Tryz.prog 123 #[.slice (some ⟨g, 0, none⟩) n c, .int .i64 a, .int .i64 b, .func (.func 70) #[] #[]] w fun x w' =>
      x = .returned (.tuple #[]) ∧ ∃ E, Mrg keyM a b D E ∧ MineM w' B (.slice (some ⟨g, 0, none⟩) n c) E ∧ Off g w w' := by
  have HL := Lib.hid hown.len
  have H0 := Lib.hid hown
  clear hown
  go_enter Tryz.func123, Tryz.ntmps123
  go_wp2
  go_loopw [8] (fun u wr => ∃ (i : Nat) (L : List mapS.Dat), (a < i ∧ i ≤ b + 1) ∧ u = .int .i64 i ∧ Hid ((Seg keyM a b D L ∧ SortedOn keyM L a i) ∧ MineM wr B (.slice (some ⟨g, 0, none⟩) n c) L ∧ Off g w wr)) (fun u _ => b + 1 - (intOf u).toNat)
  case atStart => exact ⟨a + 1, D, by omega, by go_num, Lib.hid ⟨⟨Seg.refl _ _ _, SortedOn.small (Nat.le_refl _)⟩, H0.out, Off.refl _ _⟩⟩
  case round =>
    clear H0
    obtain ⟨i, L, ⟨hai, hib⟩, rfl, HM⟩ := hrel
    by_cases hlt : i < b
    · have H1 : Hid ((Seg keyM a b D L ∧ InsAt keyM L a i i) ∧ MineM wr B (.slice (some ⟨g, 0, none⟩) n c) L ∧ Off g w wr) := Lib.hid ⟨⟨HM.out.1.1, InsAt.start HM.out.1.2⟩, HM.out.2⟩
      clear HM
      go_wp2
      go_loopw [9] (fun u wq => ∃ (j : Nat) (M : List mapS.Dat), (a ≤ j ∧ j ≤ i) ∧ u = .int .i64 j ∧ Hid ((Seg keyM a b D M ∧ InsAt keyM M a i j) ∧ MineM wq B (.slice (some ⟨g, 0, none⟩) n c) M ∧ Off g w wq)) (fun u _ => (intOf u).toNat)
      case atStart => exact ⟨i, L, by omega, rfl, H1⟩
      case round =>
        clear H1
        obtain ⟨j, M, ⟨haj, hji⟩, rfl, HM⟩ := hrel
        by_cases hj : a < j
        · have hl := HL.out
          obtain ⟨k, hk⟩ : ∃ k, j - 1 = k := ⟨_, rfl⟩
          have hki : (j : Int) - 1 = (k : Int) := by omega
          have hkw : IntKind.i64.wrap (k : Int) = (k : Int) := IntWalk.i64_in _ (by omega)
          have hjn : j < n := by omega
          have hkn : k < n := by omega
          obtain ⟨x, hx⟩ : ∃ x, M[j]? = some x := ⟨_, List.getElem?_eq_getElem (by have := HM.out.1.1.len; omega)⟩
          obtain ⟨y, hy⟩ : ∃ y, M[k]? = some y := ⟨_, List.getElem?_eq_getElem (by have := HM.out.1.1.len; omega)⟩
          obtain ⟨⟨⟨ca1, ca2⟩, cb1, cb2⟩, _, _⟩ := HM.out.2.1.exch (show j ≠ k by omega) hx hy
          obtain ⟨q, hq⟩ : ∃ q, cmpI x.1 y.1 = q := ⟨_, rfl⟩
          have HC := Lib.hid (order_ok x y)
          rw [hq] at HC
          have hql : q < 0 ↔ x.1 < y.1 := by rw [← hq]; exact cmpI_neg _ _
          by_cases hlt2 : x.1 < y.1
          · have hq0 : q < 0 := hql.2 hlt2
            have HE := Lib.hid (fun (u : World) (hu : Up wr.drew u) =>
              (⟨MineM.exch (MineN.up (MineN.drew HM.out.2.1) hu) (show j ≠ k by omega) hx hy, (HM.out.2.2.drew.trans (Off.of_up hu)).drew⟩ : _ ∧ Off g w u.drew))
            have HS : Hid (Seg keyM a b D ((M.set j y).set k x) ∧ InsAt keyM ((M.set j y).set k x) a i k) := Lib.hid (by
              rw [← hk] at hy ⊢
              exact ⟨HM.out.1.1.trans (Seg.down hj (by omega) hx hy hlt2), HM.out.1.2.step hj hji hx hy hlt2⟩)
            have HK := Lib.hid hk
            clear hl hx hy hql hlt2 HM hq hk
            go_wp2
            go_region_held3 (fun W => W.cell? ⟨g, j * 2, none⟩ = some (.int .i32 x.1) ∧ W.cell? ⟨g, j * 2 + 1, none⟩ = some (.int .i64 x.2.1) ∧ W.cell? ⟨g, k * 2, none⟩ = some (.int .i32 y.1) ∧ W.cell? ⟨g, k * 2 + 1, none⟩ = some (.int .i64 y.2.1))
              (exact ⟨by assumption, by assumption, by assumption, by assumption⟩) ((go_at_call 70; refine (HC.out _).mono ?_; rintro e u ⟨rfl, hu⟩; have e1 := Up.cell hu (p := ⟨g, j * 2, none⟩) ca1; have e2 := Up.cell hu (p := ⟨g, j * 2 + 1, none⟩) ca2; have e3 := Up.cell hu (p := ⟨g, k * 2, none⟩) cb1; have e4 := Up.cell hu (p := ⟨g, k * 2 + 1, none⟩) cb2))
            obtain ⟨⟨⟨⟨da1, da2⟩, db1, db2⟩, fa, hZ⟩, hO⟩ := HE.out u hu
            have fa1 := fa (j * 2)
            have fa2 := fa (j * 2 + 1)
            have fb1 := fa (k * 2)
            have fb2 := fa (k * 2 + 1)
            have n00 : ¬ j = k := by have := HK.out; omega
            have n01 : ¬ j * 2 = k * 2 + 1 := by omega
            have n10 : ¬ j * 2 + 1 = k * 2 := by omega
            have HZ : Hid (MineM (set2 (set2 u.drew g (j * 2) y) g (k * 2) x) B (.slice (some ⟨g, 0, none⟩) n c) ((M.set j y).set k x) ∧ Off g w (set2 (set2 u.drew g (j * 2) y) g (k * 2) x)) :=
              Lib.hid ⟨(by rw [drew_set2, drew_set2]; exact hZ), off_set2 (off_set2 hO _ _) _ _⟩
            rw [drew_set2, drew_set2] at HZ
            unfold set2 at HZ
            clear hZ fa hO HE ca1 ca2 cb1 cb2 HC hu
            go_wp2_with fail
            go_region
            go_wp2
            go_roundw
            case rel => exact ⟨k, _, by have := HK.out; omega, by go_num, Lib.hid ⟨HS.out, HZ.out⟩⟩
            case measure => have := HK.out; simp [intOf] <;> omega
          · have hq0 : ¬ q < 0 := fun h => hlt2 (hql.1 h)
            have HE := Lib.hid (fun (u : World) (hu : Up wr.drew u) =>
              (⟨⟨HM.out.1.1, HM.out.1.2.stop hj hji hx (by rw [hk]; exact hy) hlt2⟩, MineN.up (MineN.drew HM.out.2.1) hu, HM.out.2.2.drew.trans (Off.of_up hu)⟩ : (Seg keyM a b D M ∧ SortedOn keyM M a (i + 1)) ∧ MineM u B (.slice (some ⟨g, 0, none⟩) n c) M ∧ Off g w u))
            clear hl hx hy hql hlt2 HM hq hk
            go_wp2
            go_region_held3 (fun W => W.cell? ⟨g, j * 2, none⟩ = some (.int .i32 x.1) ∧ W.cell? ⟨g, j * 2 + 1, none⟩ = some (.int .i64 x.2.1) ∧ W.cell? ⟨g, k * 2, none⟩ = some (.int .i32 y.1) ∧ W.cell? ⟨g, k * 2 + 1, none⟩ = some (.int .i64 y.2.1))
              (exact ⟨by assumption, by assumption, by assumption, by assumption⟩) ((go_at_call 70; refine (HC.out _).mono ?_; rintro e u ⟨rfl, hu⟩; have e1 := Up.cell hu (p := ⟨g, j * 2, none⟩) ca1; have e2 := Up.cell hu (p := ⟨g, j * 2 + 1, none⟩) ca2; have e3 := Up.cell hu (p := ⟨g, k * 2, none⟩) cb1; have e4 := Up.cell hu (p := ⟨g, k * 2 + 1, none⟩) cb2))
            have HF := Lib.hid (HE.out u hu)
            clear HE hu ca1 ca2 cb1 cb2 HC
            go_wp2
            go_roundw
            case rel => exact ⟨i + 1, M, by omega, by go_num, HF⟩
            case measure => simp [intOf] <;> omega
        · have HF : Hid ((Seg keyM a b D M ∧ SortedOn keyM M a (i + 1)) ∧ MineM wr B (.slice (some ⟨g, 0, none⟩) n c) M ∧ Off g w wr) := Lib.hid ⟨⟨HM.out.1.1, by
            obtain rfl : j = a := by omega
            exact HM.out.1.2.front⟩, HM.out.2⟩
          have hd : decide ((a : Int) < (j : Int)) = false := decide_eq_false (by omega)
          clear HM
          go_wp2
          go_region
          go_wp2
          go_roundw
          case rel => exact ⟨i + 1, M, by omega, by go_num, Lib.hid ⟨HF.out.1, MineN.drew HF.out.2.1, HF.out.2.2.drew⟩⟩
          case measure => simp [intOf] <;> omega
    · have HF : Hid (∃ E, Mrg keyM a b D E ∧ MineM wr B (.slice (some ⟨g, 0, none⟩) n c) E ∧ Off g w wr) := Lib.hid ⟨L, ⟨HM.out.1.1, HM.out.1.2.part (Nat.le_refl _) (by omega)⟩, HM.out.2⟩
      clear HM
      go_wp2
      go_end0
      exact ⟨rfl, HF.out⟩
end Go.Proofs.YtnpcakeagpbgiaaGreat
