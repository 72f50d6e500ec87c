/-
  Contracts of the program's Part, Edit, Set, at a whole list: over its values. No condition but bounds on lengths and numbers.
-/
import Derived.Test.YtojplkkmpnaibaaRef
set_option linter.unusedVariables false
namespace Go.Proofs.Ytojplkkmpnaibaa
open Go.ChangeShapes Go.WideShapes Go.ChangeAt Go.RowKit

theorem wpList_max {P : Program} {ops : Array Oper} {rest : List Oper} {o : Oper} {a : Act} {w : World} {Q : Exit → Act → World → Prop} (hgd : o.guard = none) (x y : Operand) (ats : Array TypeId)
    (ho : o.op = .call { callee := .builtin .max, args := #[x, y], argTypes := ats }) (p q : Int) (hx : a.eval x = .int .i64 p) (hy : a.eval y = .int .i64 q) (M : Int) (hM : max p q = M)
    (h : wpList P ops Q rest (a.put o.dst (.int .i64 M)) w) : wpList P ops Q (o :: rest) a w := by
  subst hM
  refine wpList_plain hgd fun K hK => ?_
  unfold Oper.wp execOp
  simp only [ho, resolve, invoke, builtin, Sem.run_bind, Sem.run_pure, Result.andThen_ok, List.map_toArray, List.map_cons, List.map_nil, hx, hy, run_max_int2]
  have e : (if q > p then q else p) = max p q := by omega
  rw [e]
  exact hK _ _ h
theorem wpList_min {P : Program} {ops : Array Oper} {rest : List Oper} {o : Oper} {a : Act} {w : World} {Q : Exit → Act → World → Prop} (hgd : o.guard = none) (x y : Operand) (ats : Array TypeId)
    (ho : o.op = .call { callee := .builtin .min, args := #[x, y], argTypes := ats }) (p q : Int) (hx : a.eval x = .int .i64 p) (hy : a.eval y = .int .i64 q) (M : Int) (hM : min p q = M)
    (h : wpList P ops Q rest (a.put o.dst (.int .i64 M)) w) : wpList P ops Q (o :: rest) a w := by
  subst hM
  refine wpList_plain hgd fun K hK => ?_
  unfold Oper.wp execOp
  simp only [ho, resolve, invoke, builtin, Sem.run_bind, Sem.run_pure, Result.andThen_ok, List.map_toArray, List.map_cons, List.map_nil, hx, hy, run_min_int2]
  have e : (if q < p then q else p) = min p q := by omega
  rw [e]
  exact hK _ _ h

/-- spans in a slice of the callee's own -/
def MineSOf (w w' : World) (e : Ending) (l : List Sp) : Prop := ∃ v, e = .returned v ∧ MineS w' w.heap.size v l ∧ Below w.heap.size w w'
theorem MineSOf.spans {w w' : World} {e : Ending} {l : List Sp} (h : MineSOf w w' e l) : SpansOf w w' e l := by
  obtain ⟨v, he, hm, hb⟩ := h
  exact ⟨v, he, hm.spansV hb⟩
theorem foldl_take {β : Type} (g : β → Sp → β) (b : β) (l : List Sp) (k : Nat) (h : k < l.length) : (l.take (k + 1)).foldl g b = g ((l.take k).foldl g b) l[k] := by
  rw [List.take_add_one, List.getElem?_eq_getElem h, List.foldl_append]
  rfl
theorem length_foldl_ext (g h : Sp → Int) : ∀ (l : List Sp) (acc : List Sp), (l.foldl (fun acc p => ext acc (g p) (h p)) acc).length ≤ acc.length + l.length
  | [], acc => by simp
  | p :: l, acc => by
    have := length_foldl_ext g h l (ext acc (g p) (h p))
    have h2 := length_ext acc (g p) (h p)
    simp only [List.foldl_cons, List.length_cons]
    omega

set_option maxHeartbeats 2000000 in
theorem part_ok (A : Option Addr) (c n : Nat) (l : List Sp) (from_ to : Int) (w : World) (hnl : n = l.length) (hn : n ≤ 10000) (hl : ∀ s ∈ l, 1 ≤ s.t ∧ s.t ≤ 10000) (hf : from_ ≤ 9223372036854775807) (hh : HasS w w.heap.size A l) :
    Calls Try.prog 25 #[.slice A n c, .int .i64 from_, .int .i64 to] w fun e w' => MineSOf w w' e (partP l from_ to) := by
  have HL := Lib.hid hnl
  have H39 := Lib.hid (fun w1 (h : HasS w1 w1.heap.size A l) => end_ok A c n l w1 w1.heap.size hnl (by omega) h)
  have HB := Lib.hid hl
  obtain ⟨F, hF⟩ : ∃ F, max from_ 0 = F := ⟨_, rfl⟩
  obtain ⟨E, hE⟩ : ∃ F, endS l = F := ⟨_, rfl⟩
  obtain ⟨E1, hE1⟩ : ∃ F, min to E = F := ⟨_, rfl⟩
  obtain ⟨T, hT⟩ : ∃ G, max F E1 = G := ⟨_, rfl⟩
  have HP : Hid (partP l from_ to = (l.take n).foldl (fun acc p => ext acc (min p.t T - F) p.v) []) := Lib.hid (by
    unfold partP
    rw [List.take_of_length_le (by omega), hF, hE, hE1, hT])
  have HG := Lib.hid (fun k h => foldl_take (fun acc p => ext acc (min p.t T - F) p.v) [] l k h)
  have HLN := Lib.hid (fun k => length_foldl_ext (fun p => min p.t T - F) (fun p => p.v) (l.take k) [])
  rw [hE] at H39
  have hF0 : 0 ≤ F := by omega
  have hF1 : F ≤ 9223372036854775807 := by omega
  have hTF : F ≤ T := by omega
  have HF := Lib.hid hF
  have HE1 := Lib.hid hE1
  have HT := Lib.hid hT
  clear hnl hl hF hE hE1 hT hf
  go_enter Try.func25, Try.ntmps25
  go_wp2_with (first
    | (refine wpList_max rfl _ _ _ rfl from_ 0 rfl rfl F HF.out ?_)
    | (go_at_call 39; refine (H39.out _ hh).mono ?_; rintro e w' ⟨rfl, rfl⟩)
    | (refine wpList_min rfl _ _ _ rfl to E rfl rfl E1 HE1.out ?_)
    | (refine wpList_max rfl _ _ _ rfl F E1 rfl rfl T HT.out ?_))
  go_loopw [7, 20] (fun v j wr => ∃ k : Nat, k ≤ n ∧ j = .int .i64 k ∧ MineS wr w.heap.size v ((l.take k).foldl (fun acc p => ext acc (min p.t T - F) p.v) []) ∧ Below w.heap.size w wr) (fun _ j _ => n - (intOf j).toNat)
  case atStart => exact ⟨0, by omega, rfl, MineS.nil_ _ _, Below.refl _ _⟩
  case round =>
    obtain ⟨k, hk, rfl, hown, hbl⟩ := hrel
    by_cases hlt : k < n
    · have hsz := hbl.size
      have hlt1 : k < l.length := by rw [← HL.out]; exact hlt
      obtain ⟨b, off, rfl, hb, hc0, hc1, hc2⟩ := (hh.carry hbl).at_ hlt1
      have hG := HG.out k hlt1
      have hbd := HB.out l[k] (List.getElem_mem hlt1)
      obtain ⟨X, hX⟩ : ∃ X, l[k] = X := ⟨_, rfl⟩
      rw [hX] at hc0 hc1 hc2 hG hbd
      have hlen := HLN.out k
      rw [List.length_take] at hlen
      generalize (l.take k).foldl (fun acc p => ext acc (min p.t T - F) p.v) [] = acc at hown hG hlen
      obtain ⟨f, t, v⟩ := X
      simp only at hc0 hc1 hc2 hG hbd
      obtain ⟨M, hM⟩ : ∃ M, min t T = M := ⟨_, rfl⟩
      rw [hM] at hG
      replace hG := Lib.hid hG
      have hM1 : M ≤ 10000 := by omega
      have hM0 : 0 ≤ M := by omega
      have hlen2 : acc.length ≤ 100000 := by simp at hlen; omega
      have hown2 := hown.alloc (.cells #[.int .i64 f, .int .i64 t, .int .i64 v] 49)
      have hbl2 := hbl.alloc hsz (.cells #[.int .i64 f, .int .i64 t, .int .i64 v] 49)
      have HX := Lib.hid (ext_ok w.heap.size u7 acc (M - F) v _ hown2 hbl2.size hlen2)
      replace hM := Lib.hid hM
      obtain ⟨hbd1, hbd2⟩ := hbd
      clear hX hown hown2 hlen
      go_wp2_with (first
        | (refine wpList_min rfl _ _ _ rfl t T rfl rfl M hM.out ?_)
        | (go_at_call 37; refine HX.out.mono ?_; rintro e w2 ⟨v', rfl, hown', hb'⟩))
      go_roundw
      case rel => exact ⟨k + 1, by omega, by go_num, by rw [hG.out]; exact hown', hbl2.trans hb'⟩
      case measure => simp [intOf]; omega
    · obtain rfl : k = n := by omega
      rw [← HP.out] at hown
      go_wp2
      go_ret
      exact ⟨_, rfl, hown, hbl⟩
end Go.Proofs.Ytojplkkmpnaibaa
