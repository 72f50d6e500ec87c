/-
  Contract of the program's Match: initiators and PDIs by a stack. Condition: at most 1000 classes.
-/
import Derived.Test.YtjdkpnmejkbkiaaFst
import Derived.Test.YtjdkpnmejkbkiaaRep
import Derived.Deep.RegionHeld3
set_option linter.unusedVariables false
set_option linter.unusedSimpArgs false
namespace Go.Proofs.Ytjdkpnmejkbkiaa
open Go.ChangeShapes Go.WideShapes Go.ChangeAt Go.RowKit

def ints (l : List Nat) : List Int := l.map (fun x : Nat => (x : Int))
theorem ints_len (l : List Nat) : (ints l).length = l.length := by simp [ints]
theorem ints_snoc (l : List Nat) (x : Nat) : ints (l ++ [x]) = ints l ++ [(x : Int)] := by simp [ints]
theorem ints_take (l : List Nat) (k : Nat) : ints (l.take k) = (ints l).take k := by simp [ints, List.map_take]
theorem getD_of {l : List Int} {k : Nat} {x : Int} (h : l[k]? = some x) : l.getD k 0 = x := by rw [List.getD_eq_getElem?_getD, h]; rfl
section
variable {cs : List Int} {s : Ms} {i : Nat} {X : Int}
theorem sm_open (h : cs[i]? = some X) (ho : opnC X = true) : stepM cs s i = ⟨s.out ++ [-1], s.opn ++ [i]⟩ := by
  unfold stepM; rw [getD_of h, if_pos ho]
theorem sm_b (h : cs[i]? = some 11) : stepM cs s i = ⟨s.out ++ [-1], []⟩ := by
  unfold stepM; rw [getD_of h, if_neg (by decide), if_pos rfl]
theorem sm_pdi {rest : List Nat} {j : Nat} (h : cs[i]? = some 23) (hs : s.opn = rest ++ [j]) : stepM cs s i = ⟨((s.out ++ [-1]).set i (j : Int)).set j (i : Int), rest⟩ := by
  unfold stepM
  have h1 : s.opn.getLastD 0 = j := by rw [hs]; simp
  have h2 : s.opn.dropLast = rest := by rw [hs]; simp
  rw [getD_of h, if_neg (by decide), if_neg (by decide), if_pos ⟨rfl, by rw [hs]; simp⟩, h1, h2]
theorem sm_pdi0 (h : cs[i]? = some 23) (hs : s.opn = []) : stepM cs s i = ⟨s.out ++ [-1], s.opn⟩ := by
  unfold stepM
  rw [getD_of h, if_neg (by decide), if_neg (by decide), if_neg (by rw [hs]; simp)]
theorem sm_skip (h : cs[i]? = some X) (h1 : opnC X = false) (h2 : X ≠ 11) (h3 : X ≠ 23) : stepM cs s i = ⟨s.out ++ [-1], s.opn⟩ := by
  unfold stepM
  rw [getD_of h, if_neg (by rw [h1]; decide), if_neg h2, if_neg (fun e => h3 e.1)]
end
/-- what is matched of the first k, then None -/
def fillM (cs : List Int) (n k : Nat) : List Int := (matS cs k).out ++ List.replicate (n - k) (-1)
section
variable {cs : List Int} {n k : Nat}
theorem fillM_len (h : k ≤ n) : (fillM cs n k).length = n := by unfold fillM; rw [List.length_append, (inv_mat cs k).len, List.length_replicate]; omega
theorem fillM_zero : fillM cs n 0 = List.replicate n (-1) := rfl
theorem fillM_end : fillM cs n n = (matS cs n).out := by unfold fillM; rw [Nat.sub_self, List.replicate_zero, List.append_nil]
theorem fillM_eq (h : k < n) : fillM cs n k = ((matS cs k).out ++ [-1]) ++ List.replicate (n - (k + 1)) (-1) := by
  unfold fillM
  rw [show n - k = (n - (k + 1)) + 1 by omega, List.replicate_succ, List.append_assoc]; rfl
theorem fillM_same {o : List Nat} (h : k < n) (he : stepM cs (matS cs k) k = ⟨(matS cs k).out ++ [-1], o⟩) : fillM cs n (k + 1) = fillM cs n k ∧ (matS cs (k + 1)).opn = o := by
  have e2 : matS cs (k + 1) = ⟨(matS cs k).out ++ [-1], o⟩ := he
  refine ⟨?_, by rw [e2]⟩
  rw [fillM_eq h]
  unfold fillM
  rw [e2]
theorem fillM_two {o : List Nat} {j : Nat} (h : k < n) (hj : j < k) (he : stepM cs (matS cs k) k = ⟨(((matS cs k).out ++ [-1]).set k (j : Int)).set j (k : Int), o⟩) : fillM cs n (k + 1) = ((fillM cs n k).set k (j : Int)).set j (k : Int) ∧ (matS cs (k + 1)).opn = o := by
  have e2 : matS cs (k + 1) = ⟨(((matS cs k).out ++ [-1]).set k (j : Int)).set j (k : Int), o⟩ := he
  have hl := (inv_mat cs k).len
  refine ⟨?_, by rw [e2]⟩
  rw [fillM_eq h]
  unfold fillM
  rw [e2]
  conv => rhs; rw [List.set_append_left _ _ (by simp [hl]), List.set_append_left _ _ (by simp [hl]; omega)]
end
theorem opn_le (cs : List Int) : ∀ k, (matS cs k).opn.length ≤ k
  | 0 => Nat.le_refl _
  | k + 1 => by
    have := opn_le cs k
    show (stepM cs (matS cs k) k).opn.length ≤ k + 1
    unfold stepM
    split
    · simp; omega
    split
    · simp
    split
    · simp; omega
    · simp; omega
/-- what is matched and what waits, between two rounds -/
structure MatAt (cs : List Int) (w : World) (n k : Nat) (v3 v4 : Value) (m : Nat) (W : World) : Prop where
  len : (matS cs k).opn.length = m
  out : Mine .i64 3 W w.heap.size v3 (fillM cs n k)
  stk : Mine .i64 3 W w.heap.size v4 (ints (matS cs k).opn)
  apart : Apart v4 v3
  below : Below w.heap.size w W
section
variable {cs : List Int} {w : World} {n k : Nat} {v3 v4 : Value} {m : Nat} {W W' : World}
theorem MatAt.same {v4' : Value} {o : List Nat} (h : MatAt cs w n k v3 v4 m W) (hk : k < n) (he : stepM cs (matS cs k) k = ⟨(matS cs k).out ++ [-1], o⟩) (ho : Mine .i64 3 W' w.heap.size v4' (ints o)) (ha : Apart v4' v3)
    (hs : ∀ b, v3.ownBlock = some b → b < W.heap.size → W'.heap[b]? = W.heap[b]?) (hb : Below w.heap.size w W') : MatAt cs w n (k + 1) v3 v4' o.length W' := by
  obtain ⟨e1, e2⟩ := fillM_same hk he
  exact ⟨by rw [e2], by rw [e1]; exact h.out.stays hs, by rw [e2]; exact ho, ha, hb⟩
theorem MatAt.waitA (h : MatAt cs w n k v3 v4 m W) : ∃ A c, v4 = .slice A m c ∧ m ≤ c := by
  obtain ⟨A, c, h1, h2, _⟩ := h.stk.size
  rw [ints_len, h.len] at h1 h2
  exact ⟨A, c, h1, h2⟩
theorem MatAt.outB (h : MatAt cs w n k v3 v4 m W) (hk : k < n) : ∃ g c, v3 = .slice (some ⟨g, 0, none⟩) n c ∧ w.heap.size ≤ g ∧ g < W.heap.size := by
  have hl := fillM_len (cs := cs) (n := n) (k := k) (by omega)
  obtain ⟨g, c, h1, _, h2, h3⟩ := h.out.formB (by omega)
  rw [hl] at h1
  exact ⟨g, c, h1, h2, h3⟩
theorem MatAt.waitB (h : MatAt cs w n k v3 v4 m W) (hm : 0 < m) : ∃ g c, v4 = .slice (some ⟨g, 0, none⟩) m c ∧ m ≤ c ∧ w.heap.size ≤ g ∧ g < W.heap.size := by
  have hl : (ints (matS cs k).opn).length = m := by rw [ints_len, h.len]
  obtain ⟨g, c, h1, h2, h3, h4⟩ := h.stk.formB (by omega)
  rw [hl] at h1 h2
  exact ⟨g, c, h1, h2, h3, h4⟩
theorem MatAt.small (h : MatAt cs w n k v3 v4 m W) : m ≤ k := by
  rw [← h.len]; exact opn_le cs k
theorem MatAt.drewN (h : MatAt cs w n k v3 v4 m W) (d : Nat) : MatAt cs w n k v3 v4 m (W.drewN d) := ⟨h.len, h.out, h.stk, h.apart, below_drewN h.below d⟩
theorem MatAt.push {v' : Value} {X : Int} (h : MatAt cs w n k v3 v4 m W) (hk : k < n) (hx : cs[k]? = some X) (ho : opnC X = true) (hM : Mine .i64 3 W' w.heap.size v' (ints (matS cs k).opn ++ [(k : Int)])) (hb : Below w.heap.size W W')
    (hfar : ∀ b, b < W.heap.size → v4.ownBlock ≠ some b → v'.ownBlock ≠ some b ∧ W'.heap[b]? = W.heap[b]?) : MatAt cs w n (k + 1) v3 v' (m + 1) W' := by
  have h1 := h.same hk (sm_open hx ho) (W' := W') (v4' := v') (by rw [ints_snoc]; exact hM) (fun b h2 h3 => (hfar b (h.out.own_lt b h3).2 (fun e => h.apart b e h3)).1 h2)
    (fun b h2 h3 => (hfar b h3 (fun e => h.apart b e h2)).2) (h.below.trans hb)
  rwa [List.length_append, h.len] at h1
theorem MatAt.wipe (h : MatAt cs w n k v3 v4 m W) (hk : k < n) (hx : cs[k]? = some 11) : MatAt cs w n (k + 1) v3 (.slice none 0 0) 0 W :=
  h.same hk (sm_b hx) (Mine.nil_ _ _ _ _) (apart_nil _) (fun _ _ _ => rfl) h.below
theorem MatAt.skip (h : MatAt cs w n k v3 v4 m W) (hk : k < n) (he : stepM cs (matS cs k) k = ⟨(matS cs k).out ++ [-1], (matS cs k).opn⟩) : MatAt cs w n (k + 1) v3 v4 m W := by
  have h1 := h.same hk he h.stk h.apart (fun _ _ _ => rfl) h.below
  rwa [h.len] at h1
theorem MatAt.last {q : Nat} (h : MatAt cs w n k v3 v4 (q + 1) W) : ∃ rest j, (matS cs k).opn = rest ++ [j] ∧ rest.length = q ∧ j < k := by
  have hl := h.len
  have hne : (matS cs k).opn ≠ [] := fun e => by rw [e] at hl; simp at hl
  refine ⟨(matS cs k).opn.dropLast, (matS cs k).opn.getLast hne, (List.dropLast_concat_getLast hne).symm, by rw [List.length_dropLast, hl]; omega, ((inv_mat cs k).stk_lt _ (List.getLast_mem hne)).1⟩
theorem MatAt.pdi {q g3 c3 g4 c4 j : Nat} {rest : List Nat} (h : MatAt cs w n k (.slice (some ⟨g3, 0, none⟩) n c3) (.slice (some ⟨g4, 0, none⟩) (q + 1) c4) (q + 1) W) (hk : k < n) (hx : cs[k]? = some 23) (hs : (matS cs k).opn = rest ++ [j]) (hq : rest.length = q) (hj : j < k) :
    MatAt cs w n (k + 1) (.slice (some ⟨g3, 0, none⟩) n c3) (.slice (some ⟨g4, 0, none⟩) q c4) q ((W.setCell ⟨g3, k, none⟩ (.int .i64 (j : Int))).setCell ⟨g3, j, none⟩ (.int .i64 (k : Int))) := by
  obtain ⟨e1, e2⟩ := fillM_two (cs := cs) hk hj (sm_pdi hx hs)
  have hl := fillM_len (cs := cs) (n := n) (k := k) (by omega)
  have hg3 := (h.out.own_lt g3 rfl)
  have hne : g4 ≠ g3 := fun e => h.apart g4 rfl (by rw [e]; rfl)
  refine ⟨by rw [e2]; exact hq, ?_, ?_, fun b hb e => h.apart b hb e, (h.below.setCell hg3.1 _).setCell hg3.1 _⟩
  · rw [e1]
    exact (h.out.set k (by rw [hl]; exact hk) _).set j (by rw [List.length_set, hl]; omega) _
  · rw [e2]
    have h1 := h.stk.cut (q := q) (by rw [ints_len, hs, List.length_append, hq]; simp)
    rw [← ints_take, hs, List.take_left' hq] at h1
    refine h1.stays fun b hb hlt => ?_
    have hb2 : some g4 = some b := hb
    injection hb2 with hb2
    subst hb2
    rw [Below.heap_setCell _ _ _ _ hne, Below.heap_setCell _ _ _ _ hne]
end

set_option maxRecDepth 20000 in
set_option maxHeartbeats 4000000 in
theorem match_ok (A : Option Addr) (n c : Nat) (cs : List Int) (w : World) (hn : n = cs.length) (hmax : n ≤ 1000) (h : Has w w.heap.size A (cs.map (Value.int .i64))) :
    Calls Try.prog 44 #[.slice A n c] w fun e w' => ∃ v, e = .returned v ∧ Mine .i64 3 w' w.heap.size v (matL cs) ∧ Below w.heap.size w w' := by
  have HN := Lib.hid hn
  have HH := Lib.hid (fun (W : World) (hb : Below w.heap.size w W) => (h.below hb).more hb.size)
  have HR := Lib.hid (repeat_ok w.heap.size n (-1) (w.alloc (.cells #[.int .i64 (-1)] 3)) hmax (by simp) (push_cell w (.int .i64 (-1)) 3 0 _ rfl))
  clear hn h
  go_enter Try.func44, Try.ntmps44
  go_wp2_with (go_at_call 28; (with_reducible refine HR.out.mono ?_); rintro e u ⟨V, rfl, hV, hbu⟩)
  have hbl : Below w.heap.size w u := ((Below.refl w.heap.size w).alloc (Nat.le_refl _) _).trans (hbu.mono (by simp))
  have hV2 : Mine .i64 3 u w.heap.size V (List.replicate n (-1)) := hV.low (by simp)
  clear hV hbu
  go_loopw [4, 14] (fun v4 v14 wr => ∃ k m : Nat, k ≤ n ∧ v14 = .int .i64 k ∧ Hid (MatAt cs w n k V v4 m wr)) (fun _ v14 _ => n - (intOf v14).toNat)
  case atStart => exact ⟨0, 0, by omega, rfl, Lib.hid ⟨rfl, hV2, Mine.nil_ _ _ _ _, apart_nil _, hbl⟩⟩
  case round =>
    clear hV2 hbl
    obtain ⟨k, m, hkn, rfl, HS⟩ := hrel
    by_cases hlt : k < n
    · have hlt1 : k < cs.length := by have := HN.out; omega
      obtain ⟨b1, o1, hA, hb1, hcc⟩ := (HH.out _ HS.out.below).at_int hlt1
      subst hA
      have hx : cs[k]? = some cs[k] := List.getElem?_eq_getElem hlt1
      generalize cs[k] = X at hcc hx
      have HX1 := Lib.hid hx
      have hmk := HS.out.small
      clear hx hlt1
      by_cases ho : opnC X = true
      · obtain ⟨A4, c4, rfl, hmc⟩ := HS.out.waitA
        have HP := Lib.hid (fun W v' h1 h2 h3 => HS.out.push (W' := W) (v' := v') hlt HX1.out ho h1 h2 h3)
        have hstk := HS.out.stk
        have hBw := HS.out.below.size
        have HL : Hid ((ints (matS cs k).opn).length ≤ 1000) := Lib.hid (by rw [ints_len, HS.out.len]; omega)
        generalize ints (matS cs k).opn = P4 at *
        clear HS
        unfold opnC at ho
        simp only [Bool.or_eq_true, beq_iff_eq] at ho
        rcases ho with (rfl | rfl) | rfl
        all_goals
          go_wp2_with (at_builtin; (refine wpList_push_far (k := .i64) (bytes := 8) rfl _ _ 22 rfl Try.underlying22 fullI (by decide) w.heap.size (.slice A4 m c4) P4 (k : Int) _ hstk rfl rfl (by omega) (by have := HL.out; omega) ?_; intro v4' w3 hM4 hb4 hfar))
          go_roundw
          case rel => exact ⟨k + 1, m + 1, by omega, by go_num, Lib.hid (HP.out _ _ hM4 hb4 hfar)⟩
          case measure => simp [intOf] <;> omega
      · by_cases hB : X = 11
        · subst hB
          have HS2 := Lib.hid (HS.out.wipe hlt HX1.out)
          clear HS ho
          go_wp2
          go_roundw
          case rel => exact ⟨k + 1, 0, by omega, by go_num, HS2⟩
          case measure => simp [intOf] <;> omega
        · by_cases hp : X = 23
          · subst hp
            cases m with
            | zero =>
              have hnil : (matS cs k).opn = [] := List.eq_nil_of_length_eq_zero HS.out.len
              have HS2 := Lib.hid (HS.out.skip hlt (sm_pdi0 HX1.out hnil))
              obtain ⟨A4, c4, rfl, hmc⟩ := HS.out.waitA
              clear HS ho hnil hB
              go_wp2
              go_roundw
              case rel => exact ⟨k + 1, 0, by omega, by go_num, HS2⟩
              case measure => simp [intOf] <;> omega
            | succ q =>
              obtain ⟨rest, j, hr1, hr2, hjk⟩ := HS.out.last
              obtain ⟨g3, c3, rfl, hg3, hg3b⟩ := HS.out.outB hlt
              obtain ⟨g4, c4, rfl, hmc, hg4, hg4b⟩ := HS.out.waitB (by omega)
              have hne : g4 ≠ g3 := fun e => HS.out.apart g4 rfl (by rw [e]; rfl)
              have hl := fillM_len (cs := cs) (n := n) (k := k) (by omega)
              have HS2 := Lib.hid (HS.out.pdi hlt HX1.out hr1 hr2 hjk)
              have hc4 : wr.cell? ⟨g4, q, none⟩ = some (.int .i64 (j : Int)) := by
                have := HS.out.stk.cellAt q (by rw [ints_len, HS.out.len]; omega)
                rw [this]
                congr 2
                simp only [hr1, ints_snoc]
                rw [List.getElem_append_right (by rw [ints_len]; omega)]
                simp
              have hf1 := fun j => HS.out.out.free j
              obtain ⟨z1, hz1⟩ : ∃ z1, wr.cell? ⟨g3, k, none⟩ = some (.int .i64 z1) := ⟨_, HS.out.out.cellAt k (by omega)⟩
              obtain ⟨z2, hz2⟩ : ∃ z2, wr.cell? ⟨g3, j, none⟩ = some (.int .i64 z2) := ⟨_, HS.out.out.cellAt j (by omega)⟩
              clear HS ho hB hr1 hr2 hl
              have hjk2 : j ≠ k := by omega
              have hjk3 : k ≠ j := by omega
              have hne2 : g3 ≠ g4 := fun e => hne e.symm
              have b0 : (0 : Int) ≤ (q : Int) := by omega
              have b2 : (q : Int) < ((q : Int) + 1) := by omega
              have b3 : (0 : Int) ≤ (j : Int) := by omega
              have b4 : (j : Int) < (n : Int) := by omega
              go_wp2
              go_region_held3 (fun w' => w'.cell? ⟨g4, q, none⟩ = some (.int .i64 (j : Int))) (first | go_keep) (fail)
              go_wp2
              go_roundw
              case rel => exact ⟨k + 1, q, by omega, by go_num, Lib.hid (HS2.out.drewN 1)⟩
              case measure => simp [intOf] <;> omega
          · have HS2 := Lib.hid (HS.out.skip hlt (sm_skip HX1.out (by simpa using ho) hB hp))
            obtain ⟨A4, c4, rfl, hmc⟩ := HS.out.waitA
            clear HS
            unfold opnC at ho
            simp only [Bool.not_eq_true, Bool.or_eq_false_iff] at ho
            obtain ⟨⟨o1', o2'⟩, o3'⟩ := ho
            have p1 : (X == 23) = false := by simpa using hp
            have p2 : (X == 11) = false := by simpa using hB
            go_wp2
            go_roundw
            case rel => exact ⟨k + 1, m, by omega, by go_num, HS2⟩
            case measure => simp [intOf] <;> omega
    · obtain rfl : k = n := by omega
      have ho := HS.out.out
      rw [fillM_end] at ho
      have hb := HS.out.below
      have hE : matL cs = (matS cs k).out := by unfold matL; rw [← HN.out]
      clear HS
      go_wp2
      go_ret
      exact ⟨_, rfl, by rw [hE]; exact ho, hb⟩
end Go.Proofs.Ytjdkpnmejkbkiaa
