/-
  Contract of the program's cellEnds: 0, n and the ends of the parts, increasing. No condition but bounds on lengths.
-/
import Derived.Test.YtojplkkmpnaibaaClip
import Derived.Lib.OwnBridge
import Derived.Sort.OwnSortedInts
set_option linter.unusedVariables false
namespace Go.Proofs.Ytojplkkmpnaibaa
open Go.ChangeShapes Go.WideShapes Go.ChangeAt Go.RowKit Go.Sort

def ends0 (N : Int) (l : List Sp) : List Int := [0, N] ++ l.flatMap (fun s => [s.f, s.t])
def endsP (N : Int) (l : List Sp) : List Int := Lib.compact ((ends0 N l).mergeSort fun x y => decide (x ≤ y))
theorem ends0_take (N : Int) (l : List Sp) (k : Nat) (h : k < l.length) : ends0 N (l.take (k + 1)) = ends0 N (l.take k) ++ [l[k].f, l[k].t] := by
  unfold ends0
  rw [List.take_add_one, List.getElem?_eq_getElem h, List.flatMap_append]
  simp
theorem length_ends0 (N : Int) : ∀ l : List Sp, (ends0 N l).length = 2 + 2 * l.length
  | [] => rfl
  | s :: l => by
    have := length_ends0 N l
    unfold ends0 at this ⊢
    rw [List.flatMap_cons]
    simp at this ⊢
    omega

/-- of a sorted list 'compact' keeps each element once -/
theorem compact_sorted (d : Array Int) (hs : ∀ i j, i ≤ j → j < d.size → d[i]! ≤ d[j]!) : ∀ m, m ≤ d.size → (Lib.compactUpTo d m).Pairwise (· < ·) ∧ (∀ x, x ∈ Lib.compactUpTo d m ↔ ∃ j, j < m ∧ d[j]! = x) ∧ (∀ x ∈ Lib.compactUpTo d m, ∀ j, m ≤ j + 1 → j < d.size → x ≤ d[j]!)
  | 0, _ => ⟨by simp [Lib.compactUpTo], fun x => by simp [Lib.compactUpTo], fun x hx => by simp [Lib.compactUpTo] at hx⟩
  | m + 1, hm => by
    obtain ⟨h1, h2, h3⟩ := compact_sorted d hs m (by omega)
    rw [Lib.compactUpTo_succ]
    cases hk : Lib.keeps d m with
    | true =>
      simp only [if_true]
      refine ⟨?_, ?_, ?_⟩
      · rw [List.pairwise_append]
        refine ⟨h1, by simp, fun a ha b hb => ?_⟩
        simp at hb
        subst hb
        have h4 := (h2 a).1 ha
        obtain ⟨j, hj, rfl⟩ := h4
        have h5 := h3 _ ha (m - 1) (by omega) (by omega)
        have h6 := hs (m - 1) m (by omega) (by omega)
        have h7 : d[m]! ≠ d[m - 1]! := by
          simp [Lib.keeps] at hk
          exact hk.resolve_left (by omega)
        omega
      · intro x
        rw [List.mem_append, h2]
        constructor
        · rintro (⟨j, hj, rfl⟩ | hx)
          · exact ⟨j, by omega, rfl⟩
          · simp at hx
            exact ⟨m, by omega, hx.symm⟩
        · rintro ⟨j, hj, rfl⟩
          rcases Nat.lt_or_ge j m with h | h
          · exact .inl ⟨j, h, rfl⟩
          · obtain rfl : j = m := by omega
            exact .inr (by simp)
      · intro x hx j hj hjs
        rcases List.mem_append.1 hx with hx | hx
        · exact h3 x hx j (by omega) hjs
        · simp at hx
          subst hx
          exact hs m j (by omega) hjs
    | false =>
      have hmp : m ≠ 0 ∧ d[m]! = d[m - 1]! := by
        simp [Lib.keeps] at hk
        exact hk
      simp only [Bool.false_eq_true, if_false, List.append_nil]
      refine ⟨h1, ?_, fun x hx j hj hjs => h3 x hx j (by omega) hjs⟩
      intro x
      rw [h2]
      constructor
      · rintro ⟨j, hj, rfl⟩
        exact ⟨j, by omega, rfl⟩
      · rintro ⟨j, hj, rfl⟩
        rcases Nat.lt_or_ge j m with h | h
        · exact ⟨j, h, rfl⟩
        · obtain rfl : j = m := by omega
          exact ⟨j - 1, by omega, hmp.2.symm⟩
theorem compact_spec (s : List Int) (hs : s.Pairwise (· ≤ ·)) : (Lib.compact s).Pairwise (· < ·) ∧ ∀ x, x ∈ Lib.compact s ↔ x ∈ s := by
  have hs' : ∀ i j, i ≤ j → j < s.toArray.size → s.toArray[i]! ≤ s.toArray[j]! := fun i j hij hj => by
    have hj' : j < s.length := by simpa using hj
    have e1 : s.toArray[i]! = s[i] := by simp [getElem!_pos, show i < s.length by omega]
    have e2 : s.toArray[j]! = s[j] := by simp [getElem!_pos, hj']
    rw [e1, e2]
    rcases Nat.lt_or_ge i j with h | h
    · exact List.pairwise_iff_getElem.1 hs i j (by omega) hj' h
    · obtain rfl : i = j := by omega
      exact Int.le_refl _
  obtain ⟨h1, h2, _⟩ := compact_sorted s.toArray hs' s.length (by simp)
  refine ⟨h1, fun x => ?_⟩
  unfold Lib.compact
  rw [h2]
  constructor
  · rintro ⟨j, hj, rfl⟩
    have e1 : s.toArray[j]! = s[j] := by simp [getElem!_pos, hj]
    rw [e1]
    exact List.getElem_mem hj
  · intro hx
    obtain ⟨j, hj, rfl⟩ := List.getElem_of_mem hx
    exact ⟨j, hj, by simp [getElem!_pos, hj]⟩
theorem endsP_spec (N : Int) (l : List Sp) : (endsP N l).Pairwise (· < ·) ∧ ∀ x, x ∈ endsP N l ↔ x ∈ ends0 N l := by
  have hp : ((ends0 N l).mergeSort fun x y => decide (x ≤ y)).Pairwise (fun a b => decide (a ≤ b) = true) := List.pairwise_mergeSort (fun a b c h1 h2 => by simp at *; omega) (fun a b => by simp; omega) _
  obtain ⟨h1, h2⟩ := compact_spec _ (hp.imp (fun h => by simpa using h))
  exact ⟨h1, fun x => (h2 x).trans (List.mem_mergeSort)⟩
theorem length_endsP (N : Int) (l : List Sp) : (endsP N l).length ≤ 2 + 2 * l.length := by
  unfold endsP
  have := Lib.compact_length_le ((ends0 N l).mergeSort fun x y => decide (x ≤ y))
  rw [List.length_mergeSort, length_ends0] at this
  exact this

theorem Mine.lits {w : World} (B : Nat) (k : IntKind) (e : TypeId) (xs : List Int) (hB : B ≤ w.heap.size) (cs : Array Value) (hcs : cs = (xs.map (Value.int k)).toArray) (n : Nat) (hn : n = xs.length) (hm : n ≤ 1000000) :
    Mine k e (w.alloc (.cells cs e)) B (.slice (some ⟨w.heap.size, 0, none⟩) n n) xs := by
  subst hcs; subst hn
  exact ⟨by simp, .inr ⟨w.heap.size, xs.length, _, rfl, hB, heap_alloc_new w _, Nat.le_refl _, by unfold maxLen; omega, by simp, by rw [Nat.mul_one]; exact List.take_of_length_le (by simp)⟩⟩
theorem wpList_pushs_n {P : Program} {ops : Array Oper} {rest : List Oper} {o : Oper} {a : Act} {Q : Exit → Act → World → Prop} {k : IntKind} {e : TypeId} {bytes : Nat} (hgd : o.guard = none) (s x : Operand) (t : TypeId)
    (ho : o.op = .call { callee := .builtin .append, args := #[s, x], argTypes := #[t, t] })
    (ht : P.underlying t = some (.slice e)) (hi : (P.info? e).map (fun i => (i.zero, i.size, i.bytes)) = some (some (.int k 0), 1, bytes)) (hby : bytes ≤ 64)
    (B : Nat) (v : Value) (xs : List Int) (ys : List Int) (W0 wr : World) (H : Nat) (hH : wr.heap.size = H) (cs : Array Value) (hcs : cs = (ys.map (Value.int k)).toArray) (hown : Mine k e wr B v xs) (hs : a.eval s = v) (n : Nat) (hys : n = ys.length) (hx : a.eval x = .slice (some ⟨H, 0, none⟩) n n)
    (hbl : Below B W0 wr) (hB : B ≤ wr.heap.size) (hn : xs.length ≤ 1000000000) (hm : ys.length ≤ 1000)
    (h : ∀ v' w', Mine k e w' B v' (xs ++ ys) → Below B W0 w' → wpList P ops Q rest (a.put o.dst v') w') : wpList P ops Q (o :: rest) a (wr.alloc (.cells cs e)) := by
  subst hH
  exact wpList_pushs hgd s x t ho ht hi hby B v xs ys W0 wr cs hcs hown hs n hys hx hbl hB hn hm h

/-- Sort of a slice of the call's own -/
theorem sort_ok (B : Nat) (v : Value) (zs : List Int) (w : World) (hown : Mine .i64 3 w B v zs) (hne : zs ≠ []) (hlen : zs.length ≤ 1000000) :
    Calls Try.prog 41 #[v] w fun e w' => e = .returned (.tuple #[]) ∧ Mine .i64 3 w' B v (zs.mergeSort fun x y => decide (x ≤ y)) ∧ Below B w w' := by
  have hv : v ≠ .slice none 0 0 := fun e => by
    subst e
    rcases hown.2 with ⟨_, h0⟩ | ⟨g, cap, cur, h, _⟩
    · exact hne (List.eq_nil_of_length_eq_zero h0)
    · cases h
  obtain ⟨g, cap, hv', hbg, hgl, hn, hm, hl, hH⟩ := Lib.holds_of_ownsRow hown hv
  subst hv'
  refine (Try.slices_Sort_int g 0 cap zs w hH hgl (by omega)).mono fun e w' he => ?_
  obtain ⟨rfl, n, os, rfl⟩ := he
  refine ⟨rfl, ?_, ?_⟩
  · rcases hown.2 with ⟨a, _⟩ | ⟨g', cap', cur, a, _, hg, hc, hm, hs, ht⟩
    · cases a
    · injection a with a1 a2 a3
      injection a1 with a1
      injection a1 with a1
      subst a1; subst a3
      have := ownsRow_sortedI (n := n) (os := os) (ss := zs) (ts := zs.mergeSort fun x y => decide (x ≤ y)) (List.length_mergeSort _) hbg hg hc hm hs
      unfold Mine
      rw [List.length_mergeSort]
      exact this
  · have h1 : Below B w (putRow (Value.int .i64) (Sort.ahead w n) g 0 (zs.mergeSort fun x y => decide (x ≤ y)).toArray) := Lib.below_putRow (Below.refl _ _) hbg
    refine ⟨h1.os, h1.tape, h1.output, by have := h1.size; simp [grow] <;> omega, fun k hk => ?_⟩
    rw [← h1.block k hk]
    have hks : k < (putRow (Value.int .i64) (Sort.ahead w n) g 0 (zs.mergeSort fun x y => decide (x ≤ y)).toArray).heap.size := by
      have := h1.size
      have : g < w.heap.size := hgl
      omega
    exact Array.getElem?_append_left hks
/-- Compact of a slice of the call's own -/
theorem compact_ok (B : Nat) (v : Value) (zs : List Int) (w : World) (hown : Mine .i64 3 w B v zs) (hne : zs ≠ []) (hlen : zs.length ≤ 1000000) :
    Calls Try.prog 42 #[v] w fun e w' => ∃ v', e = .returned v' ∧ Mine .i64 3 w' B v' (Lib.compact zs) ∧ Below B w w' := by
  have hv : v ≠ .slice none 0 0 := fun e => by
    subst e
    rcases hown.2 with ⟨_, h0⟩ | ⟨g, cap, cur, h, _⟩
    · exact hne (List.eq_nil_of_length_eq_zero h0)
    · cases h
  obtain ⟨g, cap, hv', hbg, hgl, hn, hm, hl, hH⟩ := Lib.holds_of_ownsRow hown hv
  subst hv'
  refine (Try.slices_Compact_int g 0 cap zs w hH (by omega) hn).mono fun e w' he => ?_
  obtain ⟨rfl, q, rfl⟩ := he
  have hcl := Lib.compact_length_le zs
  refine ⟨_, rfl, ?_, Lib.below_putRow (Below.refl _ _) hbg⟩
  have := Lib.ownsRow_putRow (q := q) (k := (Lib.compact zs).length) (ys := Lib.compact zs ++ List.replicate (zs.length - (Lib.compact zs).length) 0) hown (by simp; omega) hcl
  rw [List.take_left] at this
  exact this

set_option maxHeartbeats 2000000 in
theorem cellEnds_ok (A : Option Addr) (c n : Nat) (l : List Sp) (N : Int) (w : World) (hnl : n = l.length) (hn : n ≤ 10000) (hh : HasS w w.heap.size A l) :
    Calls Try.prog 35 #[.slice A n c, .int .i64 N] w fun e w' => MineOf w w' e (endsP N l) := by
  have HL := Lib.hid hnl
  clear hnl
  have hlen0 := fun k => length_ends0 N (l.take k)
  replace hlen0 := Lib.hid hlen0
  go_enter Try.func35, Try.ntmps35
  go_wp2
  go_loopw [5, 12] (fun v j wr => ∃ k : Nat, k ≤ n ∧ j = .int .i64 k ∧ Mine .i64 3 wr w.heap.size v (ends0 N (l.take k)) ∧ Below w.heap.size w wr) (fun _ j _ => n - (intOf j).toNat)
  case atStart => exact ⟨0, by omega, rfl, Mine.lits _ _ _ [0, N] (Nat.le_refl _) _ rfl 2 rfl (by omega), (Below.refl _ _).alloc (Nat.le_refl _) _⟩
  case round =>
    obtain ⟨k, hk, rfl, hown, hbl⟩ := hrel
    by_cases hlt : k < n
    · have hsz := hbl.size
      have hlt1 : k < l.length := by rw [← HL.out]; exact hlt
      obtain ⟨b, off, rfl, hb, hc0, hc1, hc2⟩ := (hh.carry hbl).at_ hlt1
      have hG := ends0_take N l k hlt1
      obtain ⟨X, hX⟩ : ∃ X, l[k] = X := ⟨_, rfl⟩
      rw [hX] at hc0 hc1 hc2 hG
      have hlen := hlen0.out k
      rw [List.length_take] at hlen
      generalize ends0 N (l.take k) = acc at hown hG hlen
      obtain ⟨f, t, v⟩ := X
      simp only at hc0 hc1 hc2 hG
      have hlen2 : acc.length ≤ 1000000000 := by have := Nat.min_le_left k l.length; omega
      have h3 := Lib.hid (hown.alloc (.cells #[.int .i64 f, .int .i64 t, .int .i64 v] 49))
      have hb3 := Lib.hid (hbl.alloc hsz (.cells #[.int .i64 f, .int .i64 t, .int .i64 v] 49))
      replace hG := Lib.hid hG
      clear hX hown hlen
      go_wp2_with (at_builtin; refine wpList_pushs_n rfl _ _ 29 rfl Try.underlying29 full3 (by omega) w.heap.size _ acc [f, t] w _ (wr.heap.size + 1) (by simp) _ rfl h3.out rfl 2 rfl rfl hb3.out (by simp; omega) hlen2 (by simp) ?_; intro v' w1 hown' hbl')
      go_roundw
      case rel => exact ⟨k + 1, by omega, by go_num, by rw [hG.out]; exact hown', hbl'⟩
      case measure => simp [intOf]; omega
    · obtain rfl : k = n := by omega
      rw [List.take_of_length_le (by rw [← HL.out]; omega)] at hown
      have hl0 : (ends0 N l).length ≤ 1000000 := by rw [length_ends0, ← HL.out]; omega
      have hne : ends0 N l ≠ [] := by unfold ends0; simp
      have H41 := Lib.hid (sort_ok w.heap.size u5 (ends0 N l) wr hown hne hl0)
      have hl1 : ((ends0 N l).mergeSort fun x y => decide (x ≤ y)).length ≤ 1000000 := by rw [List.length_mergeSort]; exact hl0
      have hne1 : ((ends0 N l).mergeSort fun x y => decide (x ≤ y)) ≠ [] := fun h => by
        have := List.length_mergeSort (le := fun x y => decide (x ≤ y)) (ends0 N l)
        rw [h] at this
        exact hne (List.eq_nil_of_length_eq_zero this.symm)
      have hP : Hid (endsP N l = Lib.compact ((ends0 N l).mergeSort fun x y => decide (x ≤ y))) := Lib.hid rfl
      generalize ((ends0 N l).mergeSort fun x y => decide (x ≤ y)) = zs at H41 hl1 hne1 hP
      have H42 := Lib.hid (fun w1 h => compact_ok w.heap.size u5 zs w1 h hne1 hl1)
      clear hown hl0 hne hl1 hne1
      go_wp2_with (first
        | (go_at_call 41; refine H41.out.mono ?_; rintro e w1 ⟨rfl, hown1, hb1⟩)
        | (go_at_call 42; refine (H42.out _ hown1).mono ?_; rintro e w2 ⟨v2, rfl, hown2, hb2⟩))
      go_ret
      exact ⟨_, rfl, by rw [hP.out]; exact hown2, (hbl.trans hb1).trans hb2⟩
end Go.Proofs.Ytojplkkmpnaibaa
