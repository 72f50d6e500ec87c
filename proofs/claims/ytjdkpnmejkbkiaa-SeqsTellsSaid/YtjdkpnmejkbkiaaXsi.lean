/-
  Contract of the program's Levels. Condition: at most 1000 classes, a base level of at most 125.
-/
import Derived.Test.YtjdkpnmejkbkiaaXsh
import Derived.Test.YtjdkpnmejkbkiaaXpc
set_option linter.unusedVariables false
set_option linter.unusedSimpArgs false
namespace Go.Proofs.Ytjdkpnmejkbkiaa
open Go.ChangeShapes Go.WideShapes Go.ChangeAt Go.RowKit Go.Sort

def lvI (b : Nat) (cs : List Int) (k : Nat) : List Int := (lvN b cs k).map Int.ofNat
theorem made_ints (n : Nat) : (madeCells #[Value.int .i64 0] n) = ((List.replicate n (0 : Int)).map (Value.int .i64)).toArray := by
  have := made_zero n
  rw [Nat.mul_one] at this
  exact (congrArg List.toArray this)

theorem lvI_succ (b : Nat) (cs : List Int) (k : Nat) (h : k < cs.length) : lvI b cs (k + 1) = lvI b cs k ++ [((atN b cs k).2.1 : Int)] := by
  unfold lvI
  rw [lvN_succ b cs k h, List.map_append]
  rfl
/-- where the isolate of an initiator ends: behind it, at most at the list's end -/
theorem endI_nat (cs : List Int) (k : Nat) (hk : k < cs.length) (ho : opnC (cs.getD k 0) = true) : ∃ E : Nat, endI cs k = E ∧ k < E ∧ E ≤ cs.length := by
  rcases (inv_mat cs cs.length).vals k hk with hv | ⟨q, k1, k2, k3, k4, k5, k6⟩
  · have hv' : (matL cs).getD k 0 = -1 := hv
    exact ⟨cs.length, by unfold endI; rw [hv', if_pos (by decide)], hk, Nat.le_refl _⟩
  · have k1' : (matL cs).getD k 0 = q := k1
    refine ⟨q, by unfold endI; rw [k1', if_neg (by omega)], ?_, by omega⟩
    rcases Nat.lt_or_ge k q with h | h
    · exact h
    · have := (k5 (by omega)).2
      rw [this] at ho; cases ho
theorem leftB_is (cs : List Int) (k E : Nat) (hk : k < cs.length) (ho : opnC (cs.getD k 0) = true) (hE : endI cs k = E) (h1 : k < E) (h2 : E ≤ cs.length) : leftB (segL cs k E) = if cs.getD k 0 = 22 then raC (fstI 0 (cs.drop (k + 1))) else cs.getD k 0 == 21 := by
  have hc := seg_cons cs k E h1 hk
  have hlen : (segL cs k E).length = E - k := by unfold segL; rw [List.length_take, List.length_drop]; omega
  have h0 : (segL cs k E).getD 0 0 = cs.getD k 0 := by rw [hc]; rfl
  unfold leftB
  have e1 : (max ((k : Int) + 1) 0).toNat = k + 1 := by omega
  have e2 : (max (1 : Int) 0).toNat = 1 := by omega
  have e3 : (min (E : Int) (cs.length : Int)).toNat = E := by omega
  have e4 : (min ((E - k : Nat) : Int) ((E - k : Nat) : Int)).toNat = E - k := by omega
  have key : firstV (segL cs k E) 1 ((segL cs k E).length : Int) = firstV cs ((k : Int) + 1) (E : Int) := by
    rw [firstV_eq, firstV_eq, hlen, e1, e2, e3, e4]
    congr 1
    unfold segL
    rw [List.take_take, Nat.min_self, List.drop_take, List.drop_take, List.drop_drop, Nat.sub_add_eq]
  rw [h0, key, ← first_iso k hk ho, hE]
theorem two_made (w : World) (n : Nat) (hn : n ≤ 1000) :
    Mine .i64 3 ((w.alloc (.cells (madeCells #[Value.int .i64 0] n) 3)).alloc (.cells (madeCells #[Value.int .i64 0] n) 3)).drew w.heap.size (.slice (some ⟨w.heap.size, 0, none⟩) n n) (List.replicate n 0) ∧
    Mine .i64 3 ((w.alloc (.cells (madeCells #[Value.int .i64 0] n) 3)).alloc (.cells (madeCells #[Value.int .i64 0] n) 3)).drew w.heap.size (.slice (some ⟨w.heap.size + 1, 0, none⟩) n n) (List.replicate n 0) ∧
    Below w.heap.size w ((w.alloc (.cells (madeCells #[Value.int .i64 0] n) 3)).alloc (.cells (madeCells #[Value.int .i64 0] n) 3)).drew := by
  rw [made_ints]
  obtain ⟨h1, h2⟩ := (⟨(at_new w ((List.replicate n (0 : Int)).map (Value.int .i64)).toArray 3).alloc _, by
    have := at_new (w.alloc (.cells ((List.replicate n (0 : Int)).map (Value.int .i64)).toArray 3)) ((List.replicate n (0 : Int)).map (Value.int .i64)).toArray 3
    rwa [World.size_alloc] at this⟩ :
    At ((w.alloc (.cells ((List.replicate n (0 : Int)).map (Value.int .i64)).toArray 3)).alloc (.cells ((List.replicate n (0 : Int)).map (Value.int .i64)).toArray 3)) w.heap.size 3 ((List.replicate n (0 : Int)).map (Value.int .i64)).toArray ∧ At ((w.alloc (.cells ((List.replicate n (0 : Int)).map (Value.int .i64)).toArray 3)).alloc (.cells ((List.replicate n (0 : Int)).map (Value.int .i64)).toArray 3)) (w.heap.size + 1) 3 ((List.replicate n (0 : Int)).map (Value.int .i64)).toArray)
  refine ⟨(mine_row n (by simp) h1 (Nat.le_refl _) (by simp; omega)).drew, (mine_row n (by simp) h2 (Nat.le_succ _) (by simp; omega)).drew, (((Below.refl _ _).alloc (Nat.le_refl _) _).alloc (by simp) _).drew⟩
theorem start_lv {w wx u w1 : World} {g6 g7 n : Nat} {V8 : Value} {L : List Int} (h6 : Mine .i64 3 wx w.heap.size (.slice (some ⟨g6, 0, none⟩) n n) (List.replicate n 0)) (h7 : Mine .i64 3 wx w.heap.size (.slice (some ⟨g7, 0, none⟩) n n) (List.replicate n 0)) (hne : g6 ≠ g7)
    (hb : Below w.heap.size w wx) (h8 : Mine .i64 3 u wx.heap.size V8 L) (hbu : Below wx.heap.size wx u) (hu : Up u w1) : Lv w u.heap.size g6 g7 n V8 L 0 [] [] w1 := by
  have b1 : Below wx.heap.size wx w1 := hbu.trans (hu.1.mono hbu.size)
  have l6 := (h6.own_lt g6 rfl).2
  have l7 := (h7.own_lt g7 rfl).2
  refine ⟨by simpa using h6.below b1, by simpa using h7.below b1, rfl, rfl, (h8.up hu).low hb.size, hne, fun e => ?_, fun e => ?_, Nat.lt_of_lt_of_le l6 hbu.size, Nat.lt_of_lt_of_le l7 hbu.size, fun b e => (h8.own_lt b e).2, Nat.le_trans hb.size hbu.size, hu.1.size, hb.trans (b1.mono hb.size)⟩
  · have := (h8.own_lt _ e).1; omega
  · have := (h8.own_lt _ e).1; omega

end Go.Proofs.Ytjdkpnmejkbkiaa
