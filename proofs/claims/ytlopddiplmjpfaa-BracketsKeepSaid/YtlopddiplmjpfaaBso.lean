/-
  Contract of slices.SortFunc at the pairs, by their first places, and of the program's Pairs. Condition: at most 1000 characters.
-/
import Derived.Shelf.SlSortCmp.NoneTotal
import Derived.Test.YtlopddiplmjpfaaShelfP
import Derived.Test.YtlopddiplmjpfaaBsc
import Derived.Test.YtlopddiplmjpfaaSrt
set_option linter.unusedVariables false
set_option linter.unusedSimpArgs false
namespace Go.Proofs.Ytlopddiplmjpfaa
open Go.ChangeShapes Go.WideShapes Go.ChangeAt Go.RowKit Go.Sort Go.Shelf

set_option maxHeartbeats 1000000 in
theorem isNaN_ok (a : Int) (w : World) : Calls Try.prog 36 #[.int .i64 a] w fun e w' => e = .returned (.bool false) ∧ w = w' := by
  go_enter Try.func36, Try.ntmps36
  go_wp2
  go_ret
  exact ⟨by simp, rfl⟩
set_option maxHeartbeats 1000000 in
theorem compare_ok (a b : Int) (w : World) : Calls Try.prog 22 #[.int .i64 a, .int .i64 b] w fun e w' => e = .returned (.int .i64 (Lib.compareInt a b)) ∧ w = w' := by
  unfold Lib.compareInt
  by_cases h1 : a < b
  · rw [if_pos h1]
    go_enter Try.func22, Try.ntmps22
    go_wp2_with (first | (go_at_call 36; refine (isNaN_ok _ _).mono ?_; rintro e u ⟨rfl, rfl⟩))
    go_ret
    exact ⟨rfl, rfl⟩
  · rw [if_neg h1]
    by_cases h2 : b < a
    · rw [if_pos h2]
      go_enter Try.func22, Try.ntmps22
      go_wp2_with (first | (go_at_call 36; refine (isNaN_ok _ _).mono ?_; rintro e u ⟨rfl, rfl⟩))
      go_ret
      exact ⟨rfl, rfl⟩
    · rw [if_neg h2]
      go_enter Try.func22, Try.ntmps22
      go_wp2_with (first | (go_at_call 36; refine (isNaN_ok _ _).mono ?_; rintro e u ⟨rfl, rfl⟩))
      go_ret
      exact ⟨rfl, rfl⟩

def encP : Nat × Nat → List Value := row2 pc0 pc1
theorem encP_len (x : Nat × Nat) : (encP x).length = 2 := rfl
def cmpP (x y : Nat × Nat) : Int := Lib.compareInt (x.1 : Int) (y.1 : Int)
theorem ltP (x y : Nat × Nat) : ltOf cmpP x y = decide (x.1 < y.1) := by
  unfold ltOf cmpP Lib.compareInt
  by_cases h1 : x.1 < y.1
  · simp [h1]
  · by_cases h2 : y.1 < x.1 <;> simp [h1, h2]
theorem swoP : SWO (ltOf cmpP) where
  irrefl x := by rw [ltP]; simp
  trans x y z h1 h2 := by rw [ltP] at *; simp at *; omega
  ntrans x y z h1 h2 := by rw [ltP] at *; simp at *; omega

set_option maxHeartbeats 1000000 in
theorem pairCmp_ok (a b c d : Int) (W : World) : Calls Try.prog 21 #[.agg #[.int .i64 a, .int .i64 b], .agg #[.int .i64 c, .int .i64 d]] W fun e w' => e = .returned (.int .i64 (Lib.compareInt a c)) ∧ ∃ q os', w' = grow (W.drewN q) os' := by
  have hcon := fun W' => compare_ok a c W'
  generalize Lib.compareInt a c = r at hcon ⊢
  go_enter Try.func21, Try.ntmps21
  go_wp2_with (first | (go_at_call 22; refine (hcon _).mono ?_; rintro e u ⟨rfl, rfl⟩))
  go_ret
  exact ⟨rfl, 0, _, by rw [alloc_eq_grow, alloc_eq_grow, grow_grow]; rfl⟩
theorem cmpLaysP (blk off size : Nat) (w : World) : CmpLays Try.prog 21 #[] encP 2 cmpP blk off size w :=
  fun _ _ _ _ x y => pairCmp_ok x.1 x.2 y.1 y.2 _

theorem flatP_at (l : List (Nat × Nat)) (j : Nat) (hj : j < l.length * 2) : (cells2 pc0 pc1 l)[j]? = some (flatK encP 2 l.toArray)[j]! := by
  rw [get_flatK _ _ _ _ (by simpa using hj)]
  obtain ⟨i, hij⟩ : ∃ i, j = i * 2 ∨ j = i * 2 + 1 := ⟨j / 2, by omega⟩
  have hi : i < l.length := by omega
  have hx : l[i]? = some l[i] := List.getElem?_eq_getElem hi
  obtain ⟨h1, h2⟩ := cells2_get (c0 := pc0) (c1 := pc1) l i _ hx
  have e1 : l.toArray[i]! = l[i] := by simp [getElem!_pos, hi]
  rcases hij with rfl | rfl
  · rw [h1, show i * 2 / 2 = i by omega, show i * 2 % 2 = 0 by omega, e1]
    simp [encP, row2]
  · rw [h2, show (i * 2 + 1) / 2 = i by omega, show (i * 2 + 1) % 2 = 1 by omega, e1]
    simp [encP, row2]
theorem holdsP {w : World} {B g n c : Nat} {l : List (Nat × Nat)} (h : MineP w B (.slice (some ⟨g, 0, none⟩) n c) l) : HoldsK encP 2 w g 0 l.toArray := by
  intro j hj
  have hj' : j < l.length * 2 := by simpa using hj
  rcases h.2 with ⟨a, _⟩ | ⟨g', cap, cur, a, hB, hg, _, _, _, ht⟩
  · cases a
  · injection a with a1 a2 a3
    injection a1 with a1
    injection a1 with a1
    subst a1
    refine ⟨?_, by simp [World.frozen?, hg]⟩
    have := World.ownsRow.cells h (g := g) rfl j _ (flatP_at l j hj')
    rwa [add_plain] at this
theorem sortedP {w : World} {B g n c m : Nat} {l l' : List (Nat × Nat)} (os : Array Obj) (h : MineP w B (.slice (some ⟨g, 0, none⟩) n c) l) (hl : l'.length = l.length) : MineP (sortWorldK encP 2 w g 0 m l'.toArray os) B (.slice (some ⟨g, 0, none⟩) n c) l' := by
  refine ⟨length_cells2 _, ?_⟩
  rcases h.2 with ⟨a, _⟩ | ⟨g', cap, cur, a, hB, hg, hc, hm, hs, ht⟩
  · cases a
  · injection a with a1 a2 a3
    injection a1 with a1
    injection a1 with a1
    subst a1; subst a3
    have hlt := (Array.getElem?_eq_some_iff.1 hg).1
    have hn : n = l'.length := by
      rw [hl]; exact a2
    refine .inr ⟨g, c, putCells id 0 (flatK encP 2 l'.toArray) cur, by rw [hn], hB, ?_, by omega, hm, by simpa [putCells] using hs, ?_⟩
    · show ((w.heap.modify g (onCells (putCells id 0 (flatK encP 2 l'.toArray)))) ++ os)[g]? = _
      rw [Array.getElem?_append_left (by simpa using hlt), Array.getElem?_modify, if_pos rfl, hg]
      rfl
    · apply List.ext_getElem?
      intro j
      rw [List.getElem?_take, Array.getElem?_toList]
      by_cases hj : j < l'.length * 2
      · have hjc : j < cur.size := by
          have : l'.length * 2 ≤ c * 2 := Nat.mul_le_mul_right 2 (by omega)
          omega
        rw [if_pos hj, flatP_at l' j hj]
        simp only [putCells, Array.getElem?_mapIdx, Array.getElem?_eq_getElem hjc, Option.map_some]
        rw [if_pos (by simp; omega)]
        simp
      · rw [if_neg hj, List.getElem?_eq_none (by rw [length_cells2]; omega)]
theorem below_sort {B : Nat} {w : World} {g m : Nat} {l : List (Nat × Nat)} (os : Array Obj) (hg : B ≤ g) (hlt : g < w.heap.size) : Below B w (sortWorldK encP 2 w g 0 m l.toArray os) :=
  ⟨rfl, rfl, rfl, by simp [sortWorldK, putRowK, putRow, mapBlock, grow, Sort.ahead], fun k hk => by
    show ((w.heap.modify g (onCells (putCells id 0 (flatK encP 2 l.toArray)))) ++ os)[k]? = _
    rw [Array.getElem?_append_left (by simp; omega), Array.getElem?_modify, if_neg (by omega)]⟩

set_option maxHeartbeats 2000000 in
theorem sortP_ok (B : Nat) (A : Option Addr) (n c : Nat) (l : List (Nat × Nat)) (w : World) (hown : MineP w B (.slice A n c) l) (hn : n = l.length) (hmax : n ≤ 1000) :
    Calls Try.prog 20 #[.slice A n c, .func (.func 21) #[] #[]] w fun e w' => e = .returned (.tuple #[]) ∧ (∃ l', l'.Perm l ∧ (l.Pairwise (fun p q => p.1 ≠ q.1) → l'.Pairwise (fun p q => p.1 < q.1)) ∧ MineP w' B (.slice A n c) l') ∧ Below B w w' := by
  subst hn
  by_cases h0 : l = []
  · subst h0
    refine (AnyF.slices_SortFunc_none Try.sortP A c _ w).mono fun e w' ⟨he, hw⟩ => ?_
    subst hw
    exact ⟨he, ⟨[], List.Perm.refl _, fun _ => List.Pairwise.nil, hown⟩, Below.refl _ _⟩
  · obtain ⟨g, c', hv, hc, hB, hg, _⟩ := hown.form h0
    injection hv with hv1 hv2 hv3
    subst hv1; subst hv3
    have eg : ∀ args w, (callFunc 21 args).run Try.prog w = .ok (.enter 21 args) w := enters_of Try.func21 (by kernel_rfl) rfl
    have hcon := AnyQ.slices_SortFunc Try.sortP 2 Try.isAgg35 Try.sizeOf35 encP encP_len pair_one cmpP swoP 21 #[] g 0 c l.toArray w eg (cmpLaysP g 0 l.toArray.size w) (holdsP hown) hg (by simp; omega)
    refine hcon.mono fun e w' ⟨he, d', m, os, hp, hs, hw⟩ => ?_
    subst hw
    have hsz : d'.size = l.length := by simpa using hp.1
    have hpl : d'.toList.Perm l := by
      have := hp.2.2
      have e1 : d'.extract 0 l.toArray.size = d' := by rw [show l.toArray.size = d'.size by simp [hsz]]; simp
      rw [e1] at this
      simpa using this
    refine ⟨he, ⟨d'.toList, hpl, fun hd => ?_, ?_⟩, ?_⟩
    · have hd2 : d'.toList.Pairwise (fun p q => p.1 ≠ q.1) := hpl.symm.pairwise hd (fun h e => h e.symm)
      rw [List.pairwise_iff_getElem] at hd2 ⊢
      intro i j hi hj hij
      have h1 := hs i j (Nat.zero_le _) hij (by simp at hj ⊢; omega)
      rw [ltP] at h1
      have h2 := hd2 i j hi hj hij
      have hi' : i < d'.size := by simpa using hi
      have hj' : j < d'.size := by simpa using hj
      simp [getElem!_pos, hi', hj'] at h1
      simp at h2 ⊢
      omega
    · have := sortedP (m := m) os hown (l' := d'.toList) (by simp [hsz])
      simpa using this
    · have := below_sort (B := B) (w := w) (m := m) (l := d'.toList) os hB hg
      simpa using this

theorem pairs_found (ts cs : List Int) (n : Nat) (hn : n = ts.length) (hc : n = cs.length) (l' : List (Nat × Nat)) (hp : l'.Perm (scanS ts cs n).out) (hs : (scanS ts cs n).out.Pairwise (fun p q => p.1 ≠ q.1) → l'.Pairwise (fun p q => p.1 < q.1)) : PairsV ts cs l' := by
  refine ⟨fun h => absurd (by omega) h, fun _ => ⟨hs ?_, fun p => by rw [hp.mem_iff, hn]⟩⟩
  rw [List.pairwise_iff_getElem]
  intro i j hi hj hij e
  have := out_dist ts cs n i j hi hj (by omega)
  rw [pg_eq _ _ hi, pg_eq _ _ hj] at this
  exact this e

set_option maxHeartbeats 2000000 in
theorem pairs_ok (A C : Option Addr) (ca cc n nc : Nat) (ts cs : List Int) (w : World) (hn : n = ts.length) (hc : nc = cs.length) (hmax : n ≤ 1000)
    (ht : Has w w.heap.size A (ts.map (Value.int .i32))) (hk : Has w w.heap.size C (cs.map (Value.int .i64))) :
    Calls Try.prog 10 #[.slice A n ca, .slice C nc cc] w fun e w' => ∃ l, PairsOf w w' e l ∧ PairsV ts cs l := by
  by_cases hne : n = nc
  · subst hne
    have HSC := Lib.hid (scan_ok A C ca cc n ts cs w hn hc hmax ht hk)
    have HSO := Lib.hid (fun A' c' u (h : MineP u w.heap.size (.slice A' (scanS ts cs n).out.length c') (scanS ts cs n).out) => sortP_ok w.heap.size A' (scanS ts cs n).out.length c' (scanS ts cs n).out u h rfl (by have := out_le ts cs n; omega))
    have HF := Lib.hid (pairs_found ts cs n hn hc)
    clear hn hc ht hk
    generalize (scanS ts cs n).out = O at *
    go_enter Try.func10, Try.ntmps10
    go_wp2_with (first
      | (go_at_call 19; refine HSC.out.mono ?_; rintro e u ⟨v, rfl, hv, hb⟩; obtain ⟨A', c', rfl, hlc, hfr, hh⟩ := hv.has)
      | (go_at_call 20; refine (HSO.out _ _ _ hv).mono ?_; rintro e u2 ⟨rfl, ⟨l', hp, hs, hv2⟩, hb2⟩; have hb3 := hb.trans hb2))
    go_ret
    exact ⟨l', ⟨_, rfl, hv2, hb3⟩, HF.out l' hp hs⟩
  · have hd : ((n : Int) != (nc : Int)) = true := by simp; omega
    have HP : Hid (PairsV ts cs []) := Lib.hid ⟨fun _ => rfl, fun e => absurd (by omega) hne⟩
    clear hn hc ht hk hne
    go_enter Try.func10, Try.ntmps10
    go_wp2
    go_ret
    exact ⟨[], ⟨_, rfl, MineR.nil_ _ _ _, Below.refl _ _⟩, HP.out⟩
end Go.Proofs.Ytlopddiplmjpfaa
