/-
  Contracts of Bounds (both): any spans. No condition but the length.
-/
import Derived.Test.YtojplkkmpnaibaaWhole
set_option linter.unusedVariables false
namespace Go.Proofs.Ytojplkkmpnaibaa
open Go.ChangeShapes Go.WideShapes Go.ChangeAt Go.RowKit

theorem full3 : (Try.prog.info? 3).map (fun i => (i.zero, i.size, i.bytes)) = some (some (.int .i64 0), 1, 8) := by kernel_rfl
def boundsP (l : List Sp) : List Int := if l = [] then [] else 0 :: l.map (·.t)
theorem bounds_take (l : List Sp) (k : Nat) (h : k < l.length) : (0 :: (l.take (k + 1)).map (·.t)) = (0 :: (l.take k).map (·.t)) ++ [l[k].t] := by
  rw [List.take_add_one, List.getElem?_eq_getElem h, List.map_append]; rfl

/-- as wpList_push, the newest block's number written out -/
theorem wpList_push_n {P : Program} {ops : Array Oper} {rest : List Oper} {o : Oper} {a : Act} {Q : Exit → Act → World → Prop} {k : IntKind} {e : TypeId} {bytes : Nat} (hgd : o.guard = none) (s x : Operand) (t : TypeId)
    (ho : o.op = .call { callee := .builtin .append, args := #[s, x], argTypes := #[t, t] })
    (ht : P.underlying t = some (.slice e)) (hi : (P.info? e).map (fun i => (i.zero, i.size, i.bytes)) = some (some (.int k 0), 1, bytes)) (hby : bytes ≤ 64)
    (B : Nat) (v : Value) (xs : List Int) (y : Int) (W0 wr : World) (H : Nat) (hH : wr.heap.size = H) (hown : Mine k e wr B v xs) (hs : a.eval s = v) (hx : a.eval x = .slice (some ⟨H, 0, none⟩) 1 1)
    (hbl : Below B W0 wr) (hB : B ≤ wr.heap.size) (hn : xs.length ≤ 1000000000)
    (h : ∀ v' w', Mine k e w' B v' (xs ++ [y]) → Below B W0 w' → wpList P ops Q rest (a.put o.dst v') w') : wpList P ops Q (o :: rest) a (wr.alloc (.cells #[.int k y] e)) := by
  subst hH
  exact wpList_push hgd s x t ho ht hi hby B v xs y W0 wr hown hs hx hbl hB hn h

set_option maxHeartbeats 1000000 in
theorem bounds_ok (A : Option Addr) (c n : Nat) (l : List Sp) (w : World) (hnl : n = l.length) (hn : n ≤ 1000000) (h : HasS w w.heap.size A l) :
    Calls Try.prog 20 #[.slice A n c] w fun e w' => SliceOf .i64 w w' e (boundsP l) := by
  by_cases h0 : l = []
  · subst h0
    subst hnl
    go_enter Try.func20, Try.ntmps20
    go_wp2
    go_ret
    exact ⟨_, rfl, sliceV_nil _ _ _ (Below.refl _ _)⟩
  have hpos : 0 < n := by rw [hnl]; exact List.length_pos_iff.2 h0
  obtain ⟨V, hV⟩ : ∃ V, boundsP l = V := ⟨_, rfl⟩
  rw [hV]
  have HV : Hid (V = 0 :: l.map (·.t)) := Lib.hid (by rw [← hV]; exact if_neg h0)
  have HL := Lib.hid hnl
  have hzb : ((n : Int) == (0 : Int)) = false := by simp; omega
  clear hV hnl h0
  go_enter Try.func20, Try.ntmps20
  go_wp2
  go_loopw [3, 12] (fun v j wr => ∃ k : Nat, k ≤ n ∧ j = .int .i64 k ∧ Mine .i64 3 wr w.heap.size v (0 :: (l.take k).map (·.t)) ∧ Below w.heap.size w wr) (fun _ j _ => n - (intOf j).toNat)
  case atStart => exact ⟨0, by omega, rfl, Mine.one _ _ _ _ _ (Nat.le_refl _), (Below.refl _ _).alloc (Nat.le_refl _) _⟩
  case round =>
    obtain ⟨k, hk, rfl, hown, hbl⟩ := hrel
    by_cases hlt : k < n
    · have hlt1 : k < l.length := by rw [← HL.out]; exact hlt
      have hh := h.carry hbl
      have hsz := hbl.size
      obtain ⟨b, off, rfl, hb, hc0, hc1, hc2⟩ := hh.at_ hlt1
      have HT := Lib.hid (bounds_take l k hlt1)
      obtain ⟨X, hX⟩ : ∃ X, l[k] = X := ⟨_, rfl⟩
      rw [hX] at hc0 hc1 hc2 HT
      obtain ⟨f, t, v⟩ := X
      simp only at hc0 hc1 hc2 HT
      clear hX h hh
      have hlen : (0 :: (l.take k).map (·.t)).length ≤ 1000000000 := by simp; omega
      generalize (0 :: (l.take k).map (·.t)) = xs at hown HT hlen
      go_wp2_with (at_builtin; refine wpList_push_n rfl _ _ 29 rfl Try.underlying29 full3 (by omega) w.heap.size _ xs t w _ (wr.heap.size + 1) (by simp) (hown.alloc _) rfl rfl (hbl.alloc hsz _) (by simp; omega) hlen ?_; intro v' w1 hown' hbl')
      go_roundw
      case rel => exact ⟨k + 1, by omega, by go_num, by rw [HT.out]; exact hown', hbl'⟩
      case measure => simp [intOf]; omega
    · obtain rfl : k = n := by omega
      have HE := HV.out
      rw [← List.take_of_length_le (l := l) (i := k) (by rw [← HL.out]; omega)] at HE
      rw [← HE] at hown
      clear HE
      go_wp2
      go_ret
      exact ⟨_, rfl, hown.sliceV hbl⟩

set_option maxHeartbeats 1000000 in
theorem rbounds_ok (A : Option Addr) (c n : Nat) (l : List Sp) (w : World) (hnl : n = l.length) (hn : n ≤ 1000000) (h : HasS w w.heap.size A l) :
    Calls Try.prog 21 #[.slice A n c] w fun e w' => SliceOf .i64 w w' e (boundsP l) := by
  by_cases h0 : l = []
  · subst h0
    subst hnl
    go_enter Try.func21, Try.ntmps21
    go_wp2
    go_ret
    exact ⟨_, rfl, sliceV_nil _ _ _ (Below.refl _ _)⟩
  have hpos : 0 < n := by rw [hnl]; exact List.length_pos_iff.2 h0
  obtain ⟨V, hV⟩ : ∃ V, boundsP l = V := ⟨_, rfl⟩
  rw [hV]
  have HV : Hid (V = 0 :: l.map (·.t)) := Lib.hid (by rw [← hV]; exact if_neg h0)
  have HL := Lib.hid hnl
  have hzb : ((n : Int) == (0 : Int)) = false := by simp; omega
  clear hV hnl h0
  go_enter Try.func21, Try.ntmps21
  go_wp2
  go_loopw [3, 4] (fun v j wr => ∃ k : Nat, k ≤ n ∧ j = .int .i64 k ∧ Mine .i64 3 wr w.heap.size v (0 :: (l.take k).map (·.t)) ∧ Below w.heap.size w wr) (fun _ j _ => n - (intOf j).toNat)
  case atStart => exact ⟨0, by omega, rfl, Mine.one _ _ _ _ _ (Nat.le_refl _), (Below.refl _ _).alloc (Nat.le_refl _) _⟩
  case round =>
    obtain ⟨k, hk, rfl, hown, hbl⟩ := hrel
    by_cases hlt : k < n
    · have hlt1 : k < l.length := by rw [← HL.out]; exact hlt
      have hh := h.carry hbl
      have hsz := hbl.size
      obtain ⟨b, off, rfl, hb, hc0, hc1, hc2⟩ := hh.at_ hlt1
      have HT := Lib.hid (bounds_take l k hlt1)
      obtain ⟨X, hX⟩ : ∃ X, l[k] = X := ⟨_, rfl⟩
      rw [hX] at hc0 hc1 hc2 HT
      obtain ⟨f, t, v⟩ := X
      simp only at hc0 hc1 hc2 HT
      clear hX h hh
      have hlen : (0 :: (l.take k).map (·.t)).length ≤ 1000000000 := by simp; omega
      generalize (0 :: (l.take k).map (·.t)) = xs at hown HT hlen
      go_wp2_with (at_builtin; refine wpList_push rfl _ _ 29 rfl Try.underlying29 full3 (by omega) w.heap.size _ xs t w _ hown rfl rfl hbl hsz hlen ?_; intro v' w1 hown' hbl')
      go_roundw
      case rel => exact ⟨k + 1, by omega, by go_num, by rw [HT.out]; exact hown', hbl'⟩
      case measure => simp [intOf]; omega
    · obtain rfl : k = n := by omega
      have HE := HV.out
      rw [← List.take_of_length_le (l := l) (i := k) (by rw [← HL.out]; omega)] at HE
      rw [← HE] at hown
      clear HE
      go_wp2
      go_ret
      exact ⟨_, rfl, hown.sliceV hbl⟩
end Go.Proofs.Ytojplkkmpnaibaa
