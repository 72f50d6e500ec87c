/-
  Contracts of the document's begin and add. Condition: at most 1000 entries.
-/
import Derived.Test.YtjdkpnmejkbkiaaXra
set_option linter.unusedVariables false
set_option linter.unusedSimpArgs false
namespace Go.Proofs.Ytjdkpnmejkbkiaa
open Go.ChangeShapes Go.WideShapes Go.ChangeAt Go.RowKit Go.Sort

theorem Try.full49 : (Try.prog.info? 49).map (fun i => (i.zero, i.size, i.bytes)) = some (some (.agg #[.int .i64 0, .int .i64 0, .bool false]), LE.C, 24) := by kernel_rfl
theorem MineN.rst {w w' : World} {v : Value} {s : Xs} {B : Nat} (h : MineN LE 49 w B v s.l) : RSt w (.agg #[v, .int .i64 (s.isos : Int), .int .i64 (s.embs : Int), .int .i64 (s.vals : Int)]) s := by
  obtain ⟨A, c, rfl, hc, _, hh⟩ := h.has
  exact ⟨A, c, rfl, hc, hh⟩
theorem rbegin_ok (b : Nat) (w : World) : Calls Try.prog 19 #[.int .i64 (b : Int)] w fun e w' => ∃ A c, e = .returned (.agg #[.slice A 1 c, .int .i64 0, .int .i64 0, .int .i64 0]) ∧ 1 ≤ c ∧ HasN LE w' w'.heap.size A [⟨b, 0, false⟩] ∧ Up w w' ∧ ∀ a, A = some a → w.heap.size ≤ a.block := by
  go_enter Try.func19, Try.ntmps19
  go_wp2
  refine bodyPost_ret (results_cell_at Try.results19 _ _ w.heap.size 46 _ _ (by rfl) ((at_new w _ _).alloc _) Try.underlying46 rfl (by exact Try.info46)) rfl ?_
  have h := MineN.one (R := LE) (e := 49) (w.alloc (Obj.cells #[Value.slice (some { block := w.heap.size + 1, off := 0 }) 1 1, Value.int IntKind.i64 0, Value.int IntKind.i64 0, Value.int IntKind.i64 0] 46)) w.heap.size ⟨b, 0, false⟩ #[Value.int IntKind.i64 (b : Int), Value.int IntKind.i64 0, Value.bool false] rfl (by simp)
  obtain ⟨A, c, hv, hc, hfr, hh⟩ := h.has
  rw [World.size_alloc] at hv
  injection hv with h1 h2 h3
  subst h1; subst h3
  exact ⟨_, _, rfl, Nat.le_refl _, hh, ((Up.refl w).alloc _).alloc _, hfr⟩

set_option maxRecDepth 20000 in
set_option maxHeartbeats 4000000 in
theorem radd_ok (A : Option Addr) (n c : Nat) (l : List En) (x : En) (w : World) (hn : n = l.length) (hmax : n ≤ 1000) (h : HasN LE w w.heap.size A l) :
    Calls Try.prog 42 #[.slice A n c, entV x] w fun e w' => ∃ A2 c2, e = .returned (.slice A2 (n + 1) c2) ∧ n + 1 ≤ c2 ∧ Fresh w.heap.size A2 ∧ HasN LE w' w'.heap.size A2 (l ++ [x]) ∧ Below w.heap.size w w' := by
  have HN := Lib.hid hn
  have HH : Hid (∀ W, Below w.heap.size w W → HasN LE W W.heap.size A l) := Lib.hid fun W hb => h.carry hb
  obtain ⟨lv, ov, iso⟩ := x
  unfold entV
  simp only
  clear hn h
  have hat0 := at_new w #[.int .i64 (lv : Int), .int .i64 (ov : Int), .bool iso] 49
  go_enter Try.func42, Try.ntmps42
  go_wp2
  go_loopw [5, 6] (fun v5 v6 wr => ∃ k : Nat, k ≤ n ∧ v6 = .int .i64 k ∧ Hid (MineN LE 49 wr (w.heap.size + 1) v5 (l.take k) ∧ Below (w.heap.size + 1) (w.alloc (.cells #[.int .i64 (lv : Int), .int .i64 (ov : Int), .bool iso] 49)) wr)) (fun _ v6 _ => n - (intOf v6).toNat)
  case atStart => exact ⟨0, by omega, rfl, Lib.hid ⟨MineN.nil_ _ _ _, Below.refl _ _⟩⟩
  case round =>
    clear hat0
    obtain ⟨k, hkn, rfl, HS⟩ := hrel
    obtain ⟨hM, hb⟩ := HS.out
    have hb2 : Below w.heap.size w wr := ((Below.refl _ _).alloc (Nat.le_refl _) _).trans (hb.mono (Nat.le_succ _))
    have hB : w.heap.size + 1 ≤ wr.heap.size := by have := hb.size; simpa using this
    by_cases hlt : k < n
    · have hk1 : k < l.length := by have := HN.out; omega
      obtain ⟨b, off, rfl, hbb, c0, c1, c2⟩ := (HH.out wr hb2).ent (List.getElem?_eq_getElem hk1)
      have ht : l.take (k + 1) = l.take k ++ [l[k]] := List.take_succ_eq_append_getElem hk1
      have HL : Hid ((l.take k).length ≤ 1000) := Lib.hid (by rw [List.length_take]; omega)
      generalize l[k] = E at *
      obtain ⟨elv, eov, eiso⟩ := E
      simp only at c0 c1 c2
      have HT := Lib.hid ht
      generalize l.take k = P at *
      clear ht HS hk1 hbb
      go_wp2_with (at_builtin; (refine wpList_pushN (R := LE) rfl _ _ 44 rfl _ Try.underlying44 Try.full49 rfl (by decide) (by decide) (w.heap.size + 1) u5 P ⟨elv, eov, eiso⟩ wr _ rfl hM rfl rfl hB (by have := HL.out; omega) ?_; intro v' w3 hM3 hb3 hfar))
      go_roundw
      case rel => exact ⟨k + 1, by omega, by go_num, Lib.hid ⟨by rw [HT.out]; exact hM3, hb.trans hb3⟩⟩
      case measure => simp [intOf] <;> omega
    · obtain rfl : k = n := by omega
      have ht : l.take k = l := by rw [HN.out, List.take_length]
      rw [ht] at hM
      have hat : At wr w.heap.size 49 #[.int .i64 (lv : Int), .int .i64 (ov : Int), .bool iso] := by
        unfold At
        rw [hb.block _ (Nat.lt_succ_self _)]
        exact at_new _ _ _
      have c0 : wr.cell? ⟨w.heap.size, 0, none⟩ = some (.int .i64 (lv : Int)) := hat.cell 0 _ rfl
      have c1 : wr.cell? ⟨w.heap.size, 1, none⟩ = some (.int .i64 (ov : Int)) := hat.cell 1 _ rfl
      have c2 : wr.cell? ⟨w.heap.size, 2, none⟩ = some (.bool iso) := hat.cell 2 _ rfl
      have HLL : Hid ((l ++ [(⟨lv, ov, iso⟩ : En)]).length = k + 1) := Lib.hid (by rw [List.length_append, HN.out]; rfl)
      have HL2 : Hid (l.length ≤ 1000000) := Lib.hid (by have := HN.out; omega)
      clear ht HS hat
      go_wp2_with (at_builtin; (refine wpList_pushN (R := LE) rfl _ _ 44 rfl _ Try.underlying44 Try.full49 rfl (by decide) (by decide) (w.heap.size + 1) u5 l ⟨lv, ov, iso⟩ wr _ rfl hM rfl rfl hB HL2.out ?_; intro v' w3 hM3 hb3 hfar; obtain ⟨A3, c3, rfl, hc3, hf3, hh3⟩ := hM3.has; rw [HLL.out]))
      go_ret
      rw [HLL.out] at hc3
      exact ⟨A3, c3, rfl, hc3, fun a ha => Nat.le_of_succ_le (hf3 a ha), hh3, hb2.trans (hb3.mono (Nat.le_succ _))⟩
end Go.Proofs.Ytjdkpnmejkbkiaa
