/-
  Contracts of the program's clip and cellEnds. No condition but bounds on lengths.
-/
import Derived.Test.YtojplkkmpnaibaaPart
import Derived.Test.YtojplkkmpnaibaaPaintMath
import Derived.Test.YtojplkkmpnaibaaShelf
set_option linter.unusedVariables false
namespace Go.Proofs.Ytojplkkmpnaibaa
open Go.ChangeShapes Go.WideShapes Go.ChangeAt Go.RowKit

def clip1 (n : Int) (s : Sp) : List Sp := if max s.f 0 < min s.t n then [⟨max s.f 0, min s.t n, s.v⟩] else []
def clipP (n : Int) (l : List Sp) : List Sp := l.flatMap (clip1 n)
theorem clip_take (n : Int) (l : List Sp) (k : Nat) (h : k < l.length) : clipP n (l.take (k + 1)) = clipP n (l.take k) ++ clip1 n l[k] := by
  unfold clipP
  rw [List.take_add_one, List.getElem?_eq_getElem h, List.flatMap_append]
  simp
theorem length_clip (n : Int) : ∀ l : List Sp, (clipP n l).length ≤ l.length
  | [] => by simp [clipP]
  | s :: l => by
    have := length_clip n l
    unfold clipP at this ⊢
    rw [List.flatMap_cons, List.length_append, List.length_cons]
    have : (clip1 n s).length ≤ 1 := by unfold clip1; split <;> simp
    omega
theorem MineS.setNew {w w0 : World} {B : Nat} {v : Value} {l : List Sp} (h0 : MineS w0 B v l) (h : MineS w B v l) {p : Addr} (hp : w0.heap.size ≤ p.block) (u : Value) : MineS (w.setCell p u) B v l :=
  ownsRow_setCell_other h (fun e => by have := (World.ownsRow.lt h0 _ e).2; omega) u
/-- as wpList_pushS, the newest block's number written out -/
theorem wpList_pushS_n {P : Program} {ops : Array Oper} {rest : List Oper} {o : Oper} {a : Act} {Q : Exit → Act → World → Prop} {bytes : Nat} (hgd : o.guard = none) (s x : Operand) (t : TypeId)
    (ho : o.op = .call { callee := .builtin .append, args := #[s, x], argTypes := #[t, t] }) (z : Value)
    (ht : P.underlying t = some (.slice 49)) (hi : (P.info? 49).map (fun i => (i.zero, i.size, i.bytes)) = some (some z, 3, bytes)) (hz : z.cells.size = 3) (hby : bytes ≤ 64)
    (B : Nat) (v : Value) (l : List Sp) (y : Sp) (W0 wr : World) (H : Nat) (hH : wr.heap.size = H) (cs : Array Value) (hcs : cs = (row y).toArray) (hown : MineS wr B v l) (hs : a.eval s = v) (hx : a.eval x = .slice (some ⟨H, 0, none⟩) 1 1)
    (hbl : Below B W0 wr) (hB : B ≤ wr.heap.size) (hn : l.length ≤ 1000000)
    (h : ∀ v' w', MineS w' B v' (l ++ [y]) → Below B W0 w' → wpList P ops Q rest (a.put o.dst v') w') : wpList P ops Q (o :: rest) a (wr.alloc (.cells cs 49)) := by
  subst hH
  exact wpList_pushS hgd s x t ho z ht hi hz hby B v l y W0 wr cs hcs hown hs hx hbl hB hn h

set_option maxHeartbeats 2000000 in
theorem clip_ok (A : Option Addr) (c n : Nat) (l : List Sp) (N : Int) (w : World) (hnl : n = l.length) (hn : n ≤ 10000) (hh : HasS w w.heap.size A l) :
    Calls Try.prog 34 #[.slice A n c, .int .i64 N] w fun e w' => MineSOf w w' e (clipP N l) := by
  have HL := Lib.hid hnl
  have HLN := Lib.hid (fun k => length_clip N (l.take k))
  clear hnl
  go_enter Try.func34, Try.ntmps34
  go_wp2
  go_loopw [5, 10] (fun v j wr => ∃ k : Nat, k ≤ n ∧ j = .int .i64 k ∧ MineS wr w.heap.size v (clipP N (l.take k)) ∧ Below w.heap.size w wr) (fun _ j _ => n - (intOf j).toNat)
  case atStart => exact ⟨0, by omega, rfl, MineS.nil_ _ _, Below.refl _ _⟩
  case round =>
    obtain ⟨k, hk, rfl, hown, hbl⟩ := hrel
    by_cases hlt : k < n
    · have hsz := hbl.size
      have hlt1 : k < l.length := by rw [← HL.out]; exact hlt
      obtain ⟨b, off, rfl, hb, hc0, hc1, hc2⟩ := (hh.carry hbl).at_ hlt1
      have hG := clip_take N l k hlt1
      obtain ⟨X, hX⟩ : ∃ X, l[k] = X := ⟨_, rfl⟩
      rw [hX] at hc0 hc1 hc2 hG
      have hlen := HLN.out k
      rw [List.length_take] at hlen
      generalize clipP N (l.take k) = acc at hown hG hlen
      obtain ⟨f, t, v⟩ := X
      simp only [clip1] at hc0 hc1 hc2 hG
      obtain ⟨F, hF⟩ : ∃ M, max f 0 = M := ⟨_, rfl⟩
      obtain ⟨T, hT⟩ : ∃ M, min t N = M := ⟨_, rfl⟩
      rw [hF, hT] at hG
      have hlen2 : acc.length ≤ 1000000 := by have := Nat.min_le_left k l.length; omega
      have h3 := Lib.hid (hown.alloc (.cells #[.int .i64 F, .int .i64 T, .int .i64 v] 49))
      have hb3 := Lib.hid (hbl.alloc hsz (.cells #[.int .i64 F, .int .i64 T, .int .i64 v] 49))
      replace hF := Lib.hid hF
      replace hT := Lib.hid hT
      clear hX hown hlen
      by_cases hFT : F < T
      · rw [if_pos hFT] at hG
        replace hG := Lib.hid hG
        go_wp2_with (first
          | (refine wpList_max rfl _ _ _ rfl f 0 rfl rfl F hF.out ?_)
          | (refine wpList_min rfl _ _ _ rfl t N rfl rfl T hT.out ?_)
          | (at_builtin; refine wpList_pushS_n rfl _ _ 22 rfl (.agg #[.int .i64 0, .int .i64 0, .int .i64 0]) Try.underlying22 full49 rfl (by omega) w.heap.size _ acc ⟨F, T, v⟩ w _ (wr.heap.size + 1) (by simp) _ rfl h3.out rfl rfl hb3.out (by simp; omega) hlen2 ?_; intro v' w1 hown' hbl'))
        go_roundw
        case rel => exact ⟨k + 1, by omega, by go_num, by rw [hG.out]; exact hown', hbl'⟩
        case measure => simp [intOf]; omega
      · rw [if_neg hFT, List.append_nil] at hG
        replace hG := Lib.hid hG
        go_wp2_with (first
          | (refine wpList_max rfl _ _ _ rfl f 0 rfl rfl F hF.out ?_)
          | (refine wpList_min rfl _ _ _ rfl t N rfl rfl T hT.out ?_))
        go_roundw
        case rel => exact ⟨k + 1, by omega, by go_num, by rw [hG.out]; exact h3.out, hb3.out⟩
        case measure => simp [intOf]; omega
    · obtain rfl : k = n := by omega
      rw [List.take_of_length_le (by rw [← HL.out]; omega)] at hown
      go_wp2
      go_ret
      exact ⟨_, rfl, hown, hbl⟩
end Go.Proofs.Ytojplkkmpnaibaa
