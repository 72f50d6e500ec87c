/-
  Contracts of the document's Vals, Of, Norm, of whole. No condition but bounds on lengths and numbers.
-/
import Derived.Test.YtojplkkmpnaibaaBounds
set_option linter.unusedVariables false
namespace Go.Proofs.Ytojplkkmpnaibaa
open Go.ChangeShapes Go.WideShapes Go.ChangeAt Go.RowKit

def lastVal (l : List Sp) (i : Int) : Int := l.foldl (fun v s => if s.f ≤ i ∧ i < s.t then s.v else v) 0
def vals (l : List Sp) (n : Int) : List Int := (List.range n.toNat).map (fun (i : Nat) => lastVal l i)
theorem lastVal_take (l : List Sp) (k : Nat) (h : k < l.length) (i : Int) : lastVal (l.take (k + 1)) i = if l[k].f ≤ i ∧ i < l[k].t then l[k].v else lastVal (l.take k) i := by
  unfold lastVal
  rw [List.take_add_one, List.getElem?_eq_getElem h, List.foldl_append]
  rfl
theorem vals_succ (l : List Sp) (k : Nat) : vals l ((k + 1 : Nat) : Int) = vals l (k : Nat) ++ [lastVal l k] := by
  unfold vals
  simp [List.range_succ]
theorem length_vals (l : List Sp) (n : Int) : (vals l n).length = n.toNat := by simp [vals]
theorem vals_neg (l : List Sp) (n : Int) (h : n ≤ 0) : vals l n = [] := by
  unfold vals
  rw [show n.toNat = 0 by omega]
  rfl

/-- integers in a slice of the callee's own -/
def MineOf (w w' : World) (e : Ending) (xs : List Int) : Prop := ∃ v, e = .returned v ∧ Mine .i64 3 w' w.heap.size v xs ∧ Below w.heap.size w w'
theorem MineOf.slice {w w' : World} {e : Ending} {xs : List Int} (h : MineOf w w' e xs) : SliceOf .i64 w w' e xs := by
  obtain ⟨v, he, hm, hb⟩ := h
  exact ⟨v, he, hm.sliceV hb⟩
/-- one element of a slice of the call's own is turned -/
theorem Mine.set {w : World} {B g n c : Nat} {xs : List Int} (h : Mine .i64 3 w B (.slice (some ⟨g, 0, none⟩) n c) xs) (i : Nat) (hi : i < xs.length) (y : Int) :
    Mine .i64 3 (w.setCell ⟨g, i, none⟩ (.int .i64 y)) B (.slice (some ⟨g, 0, none⟩) n c) (xs.set i y) := by
  refine ⟨by simp, ?_⟩
  rcases h.2 with ⟨a, b⟩ | ⟨g', cap, cur, a, b, hg, hc, hm, hs, ht⟩
  · cases a
  · injection a with a1 a2 a3
    injection a1 with a1
    injection a1 with a1
    subst a1; subst a2; subst a3
    rw [List.length_set]
    refine .inr ⟨g, c, cur.setIfInBounds i (.int .i64 y), rfl, b, At.setCell (w := w) (t := 3) hg _ _, hc, hm, by simp [hs], ?_⟩
    rw [Array.toList_setIfInBounds, List.take_set, ht, List.map_set]
theorem Mine.free {w : World} {B g n c : Nat} {xs : List Int} (h : Mine .i64 3 w B (.slice (some ⟨g, 0, none⟩) n c) xs) (j : Nat) : w.frozen? ⟨g, j, none⟩ = false := by
  rcases h.2 with ⟨hx, _⟩ | ⟨g', cap, cur, hx, _, hg, _⟩
  · cases hx
  · injection hx with hx1 hx2 hx3
    injection hx1 with hx1
    injection hx1 with hx1
    subst hx1
    exact At.free hg _

set_option maxHeartbeats 2000000 in
theorem valsM_ok (A : Option Addr) (c n : Nat) (l : List Sp) (N : Int) (w : World) (hnl : n = l.length) (hn : n ≤ 1000000) (hN : N ≤ 1000000) (h : HasS w w.heap.size A l) :
    Calls Try.prog 29 #[.slice A n c, .int .i64 N] w fun e w' => MineOf w w' e (vals l N) := by
  have HL := Lib.hid hnl
  clear hnl
  by_cases hN0 : N ≤ 0
  · rw [vals_neg _ _ hN0]
    go_enter Try.func29, Try.ntmps29
    go_wp2
    go_loopw [5, 6] (fun v j wr => v = .slice none 0 0 ∧ j = .int .i64 0 ∧ wr = w) (fun _ j _ => (0 : Nat))
    case atStart => exact ⟨rfl, rfl, rfl⟩
    case round =>
      obtain ⟨rfl, rfl, rfl⟩ := hrel
      go_wp2
      go_ret
      exact ⟨_, rfl, Mine.nil_ _ _ _ _, Below.refl _ _⟩
  obtain ⟨M, rfl⟩ : ∃ M : Nat, N = M := ⟨N.toNat, by omega⟩
  go_enter Try.func29, Try.ntmps29
  go_wp2
  go_loopw [5, 6] (fun v j wr => ∃ i : Nat, i ≤ M ∧ j = .int .i64 i ∧ Mine .i64 3 wr w.heap.size v (vals l i) ∧ Below w.heap.size w wr) (fun _ j _ => M - (intOf j).toNat)
  case atStart => exact ⟨0, by omega, rfl, by rw [vals_neg _ _ (by simp)]; exact Mine.nil_ _ _ _ _, Below.refl _ _⟩
  case round =>
    obtain ⟨i, hi, rfl, hown, hbl⟩ := hrel
    by_cases hlt : i < M
    · have hh := h.carry hbl
      have hsz := hbl.size
      have HT := Lib.hid (vals_succ l i)
      have hlen : (vals l i).length ≤ 1000000000 := by rw [length_vals]; omega
      generalize (vals l (i : Int)) = xs at hown HT hlen
      clear h
      go_wp2
      go_loopw [7, 8] (fun v j wr2 => ∃ (k : Nat) (E : Int), k ≤ n ∧ v = .int .i64 E ∧ j = .int .i64 k ∧ Hid (E = lastVal (l.take k) i) ∧ wr2 = wr) (fun _ j _ => n - (intOf j).toNat)
      case atStart => exact ⟨0, 0, by omega, rfl, rfl, Lib.hid rfl, rfl⟩
      case round =>
        obtain ⟨k, E, hk, rfl, rfl, HE, rfl⟩ := hrel
        by_cases hlk : k < n
        · have hlt1 : k < l.length := by rw [← HL.out]; exact hlk
          obtain ⟨b, off, rfl, hb, hc0, hc1, hc2⟩ := hh.at_ hlt1
          have HLV := lastVal_take l k hlt1 i
          rw [← HE.out] at HLV
          obtain ⟨X, hX⟩ : ∃ X, l[k] = X := ⟨_, rfl⟩
          rw [hX] at hc0 hc1 hc2 HLV
          obtain ⟨f, t, v⟩ := X
          simp only at hc0 hc1 hc2 HLV
          replace HLV := Lib.hid HLV
          clear hX
          by_cases h1 : f ≤ i
          · by_cases h2 : (i : Int) < t
            · have HE2 := HLV.out
              rw [if_pos ⟨h1, h2⟩] at HE2
              replace HE2 := Lib.hid HE2.symm
              go_wp2
              go_roundw
              case rel => exact ⟨k + 1, v, by omega, rfl, by go_num, HE2, by trivial⟩
              case measure => simp [intOf]; omega
            · have HE2 := HLV.out
              rw [if_neg (fun h => h2 h.2)] at HE2
              replace HE2 := Lib.hid HE2.symm
              go_wp2
              go_roundw
              case rel => exact ⟨k + 1, E, by omega, rfl, by go_num, HE2, by trivial⟩
              case measure => simp [intOf]; omega
          · have HE2 := HLV.out
            rw [if_neg (fun h => h1 h.1)] at HE2
            replace HE2 := Lib.hid HE2.symm
            go_wp2
            go_roundw
            case rel => exact ⟨k + 1, E, by omega, rfl, by go_num, HE2, by trivial⟩
            case measure => simp [intOf]; omega
        · obtain rfl : k = n := by omega
          have HE2 := HE.out
          rw [List.take_of_length_le (by rw [← HL.out]; omega)] at HE2
          have HF := HT.out
          rw [← HE2] at HF
          replace HF := Lib.hid HF
          clear HE2
          go_wp2_with (at_builtin; refine wpList_push rfl _ _ 29 rfl Try.underlying29 full3 (by omega) w.heap.size _ xs E w _ hown rfl rfl hbl hsz hlen ?_; intro v' w1 hown' hbl')
          go_roundw
          case rel => exact ⟨i + 1, by omega, by go_num, by rw [HF.out]; exact hown', hbl'⟩
          case measure => simp [intOf]; omega
    · obtain rfl : i = M := by omega
      go_wp2
      go_ret
      exact ⟨_, rfl, hown, hbl⟩
theorem vals_ok (A : Option Addr) (c n : Nat) (l : List Sp) (N : Int) (w : World) (hnl : n = l.length) (hn : n ≤ 1000000) (hN : N ≤ 1000000) (h : HasS w w.heap.size A l) :
    Calls Try.prog 29 #[.slice A n c, .int .i64 N] w fun e w' => SliceOf .i64 w w' e (vals l N) := (valsM_ok A c n l N w hnl hn hN h).mono fun _ _ h => h.slice

theorem foldl_val : ∀ (l : List Sp) (xs : List Int) (off i v : Int), Parts l xs off → l.foldl (fun v s => if s.f ≤ i ∧ i < s.t then s.v else v) v = if off ≤ i ∧ i < off + xs.length then xs.getD (i - off).toNat 0 else v
  | [], xs, off, i, v, h => by
    have h : xs = [] := h
    subst h
    rw [if_neg (by simp <;> omega)]; rfl
  | s :: l, xs, off, i, v, ⟨k, ys, hk, e1, e2, e3, hp⟩ => by
    subst e3
    simp only [List.foldl_cons]
    rw [foldl_val l ys (off + k) i _ hp, e1, e2]
    by_cases h1 : off + k ≤ i ∧ i < off + k + ys.length
    · rw [if_pos h1, if_pos (by simp; omega)]
      rw [List.getD_eq_getElem?_getD, List.getD_eq_getElem?_getD, List.getElem?_append_right (by simp; omega)]
      congr 2
      simp
      omega
    · rw [if_neg h1]
      by_cases h2 : off ≤ i ∧ i < off + k
      · rw [if_pos h2, if_pos (by simp; omega), List.getD_eq_getElem?_getD, List.getElem?_append_left (by simp; omega), List.getElem?_replicate, if_pos (by omega)]
        rfl
      · rw [if_neg h2, if_neg (by simp; omega)]
/-- the values of a whole list -/
theorem vals_of (xs : List Int) : vals (of xs) xs.length = xs := by
  apply List.ext_getElem
  · simp [vals]
  · intro i h1 h2
    have := foldl_val (of xs) xs 0 i 0 (parts_of xs)
    rw [if_pos (by simp; omega)] at this
    simp only [vals, List.getElem_map, List.getElem_range]
    show lastVal (of xs) i = _
    unfold lastVal
    rw [this, List.getD_eq_getElem?_getD]
    simp [h2]
end Go.Proofs.Ytojplkkmpnaibaa
