/-
  What the statements of brackets use beside the two sides: too long, a direction, lists and pairs compared, the example; arguments that are a number and a bool. No condition but bounds.
-/
import Derived.Test.YtlopddiplmjpfaaBrd
import Derived.Test.YtlopddiplmjpfaaHasStruct
set_option linter.unusedVariables false
set_option linter.unusedSimpArgs false
namespace Go.Proofs.Ytlopddiplmjpfaa
open Go.ChangeShapes Go.WideShapes Go.ChangeAt Go.RowKit Go.Sort Go.Deep

/-- a slice without an address has no room -/
theorem none_cap {H : Type} {enc : TypeId × Value → H} {W : World} {t e : TypeId} {k : IntKind} {A : Option Addr} {n c : Nat} {d : DataW H} {p : List MemPlace}
    (ht : Try.prog.underlying t = some (.slice e)) (he : Try.prog.underlying e = some (.int k)) (hc : Try.prog.cellsOf e = 1)
    (h : DataW.Trod enc Try.prog W 0 (fun _ => true) true t (.slice A n c) d p) : A = none → c = 0 := by
  intro hA
  obtain ⟨fuel, hf⟩ := h
  rcases open_ints ht he hc hf with ⟨hcs, hx⟩ | ⟨a, len', cap', zs, hcs, _, hl, hm, hz, hx, hcell, hwz⟩
  · simp [Value.cells] at hcs
    exact hcs.2.2
  · simp [Value.cells] at hcs
    rw [hA] at hcs
    cases hcs.1
/-- a struct by value: a number and a bool -/
theorem seen_struct {H : Type} {enc : TypeId × Value → H} {P : Program} {W : World} {r : Reach} {b0 base : Nat} {spare : Nat → Bool} {held : Bool} {t e b : TypeId} {k : IntKind} {fs : Array Field} {v : Value} {d : DataW H} {p : List MemPlace}
    (hs : P.underlying t = some (.struct fs)) (hone : oneCellFields P fs = true) (hC : P.cellsOf t = fs.size) (h2 : fs.size = 2) (t0 : fs[0]?.map (·.type) = some e) (t1 : fs[1]?.map (·.type) = some b) (he : P.underlying e = some (.int k)) (hb : P.underlying b = some .bool)
    (hv : Value.okWide P W r b0 t v) (h : DataW.Trod enc P W base spare held t v d p) : ∃ (x : Int) (y : Bool), v = .agg #[.int k x, .bool y] ∧ (Lit.int k x).wf = true := by
  obtain ⟨cs, rfl, hsz⟩ := okWide_struct hs hv
  obtain ⟨fuel, hf⟩ := h
  obtain ⟨xs, n, _, _, hlen, hxl, hg⟩ := DataW.trod_struct hs hf
  have hcs : (Value.agg cs).cells.toList = cs.toList := by simp [Value.cells]
  rw [hcs] at hlen hg
  rw [hC, h2] at hsz
  obtain ⟨u, y, hl⟩ : ∃ u y, cs.toList = [u, y] := by
    match hq : cs.toList, (show cs.toList.length = 2 by simpa using hsz) with
    | [u, y], _ => exact ⟨u, y, rfl⟩
  obtain ⟨f0, hf0, rfl⟩ := Option.map_eq_some_iff.1 t0
  obtain ⟨f1, hf1, rfl⟩ := Option.map_eq_some_iff.1 t1
  obtain ⟨o0, k0⟩ := hone_of hone 0 f0 hf0
  obtain ⟨o1, k1⟩ := hone_of hone 1 f1 hf1
  have g0 := hg 0 f0 hf0
  have g1 := hg 1 f1 hf1
  rw [hl, o0, k0] at g0
  rw [hl, o1, k1] at g1
  rw [List.getElem?_eq_getElem (by omega)] at g0 g1
  obtain ⟨z, e1, _, hz⟩ := DataW.trod_int he g0
  obtain ⟨q, e2, _⟩ := DataW.trod_bool hb g1
  refine ⟨z, q, ?_, hz⟩
  simp at e1 e2
  subst e1; subst e2
  congr 1
  apply Array.ext'
  rw [hl]

theorem long_ok (A C : Option Addr) (n m c d : Nat) (w : World) : Calls Try.prog 8 #[.slice A n c, .slice C m d] w fun e w' => e = .returned (.bool (decide (150 < n ∨ 150 < m))) ∧ w = w' := by
  by_cases h : 150 < n
  · have hd : decide ((150 : Int) < n) = true := decide_eq_true (by omega)
    have hr : decide (150 < n ∨ 150 < m) = true := decide_eq_true (.inl h)
    rw [hr]
    clear hr
    go_enter Try.func8, Try.ntmps8
    go_wp2
    go_ret
    exact ⟨rfl, rfl⟩
  · have hd : decide ((150 : Int) < n) = false := decide_eq_false (by omega)
    by_cases h2 : 150 < m
    · have hd2 : decide ((150 : Int) < m) = true := decide_eq_true (by omega)
      have hr : decide (150 < n ∨ 150 < m) = true := decide_eq_true (.inr h2)
      rw [hr]
      clear hr
      go_enter Try.func8, Try.ntmps8
      go_wp2
      go_ret
      exact ⟨rfl, rfl⟩
    · have hd2 : decide ((150 : Int) < m) = false := decide_eq_false (by omega)
      have hr : decide (150 < n ∨ 150 < m) = false := decide_eq_false (by omega)
      rw [hr]
      clear hr
      go_enter Try.func8, Try.ntmps8
      go_wp2
      go_ret
      exact ⟨rfl, rfl⟩
def sideB (b : Bool) : Int := if b = true then 2 else 1
theorem sideB_or (b : Bool) : sideB b = 1 ∨ sideB b = 2 := by cases b <;> simp [sideB]
theorem side_ok (b : Bool) (w : World) : Calls Try.prog 14 #[.bool b] w fun e w' => e = .returned (.int .i64 (sideB b)) ∧ w = w' := by
  cases b with
  | true =>
    go_enter Try.func14, Try.ntmps14
    go_wp2
    go_ret
    exact ⟨rfl, rfl⟩
  | false =>
    go_enter Try.func14, Try.ntmps14
    go_wp2
    go_ret
    exact ⟨rfl, rfl⟩

set_option maxHeartbeats 1000000 in
theorem eqs_ok (A B : Option Addr) (c d n : Nat) (xs : List Int) (w : World) (hnx : n = xs.length) (hn : n ≤ 1000000) (h1 : Has w w.heap.size A (xs.map (Value.int .i64))) (h2 : Has w w.heap.size B (xs.map (Value.int .i64))) :
    Calls Try.prog 12 #[.slice A n c, .slice B n d] w fun e w' => e = .returned (.bool true) ∧ Below w.heap.size w w' := by
  have HN := Lib.hid hnx
  clear hnx
  go_enter Try.func12, Try.ntmps12
  go_wp2
  go_loopw [5] (fun i wr => ∃ k : Nat, k ≤ n ∧ i = .int .i64 k ∧ ∃ q, wr = w.drewN q) (fun i _ => n - (intOf i).toNat)
  case atStart => exact ⟨0, by omega, rfl, 0, rfl⟩
  case round =>
    obtain ⟨k, hk, rfl, q, rfl⟩ := hrel
    by_cases hlt : k < n
    · have hlt2 : k < xs.length := by rw [← HN.out]; exact hlt
      obtain ⟨b, off, rfl, hb, hc⟩ := h1.at_int hlt2
      obtain ⟨b2, off2, rfl, hb2, hc2⟩ := h2.at_int hlt2
      generalize xs[k] = X at hc hc2
      clear h1 h2
      go_wp2
      go_quiet (fail)
      go_wp2
      go_roundw
      case rel => exact ⟨k + 1, by omega, by go_num, _, rfl⟩
      case measure => simp [intOf] <;> omega
    · obtain rfl : k = n := by omega
      go_wp2
      go_ret
      exact ⟨rfl, below_drewN (Below.refl _ _) _⟩

theorem neq2_run (a b : Int) (w : World) : (binOp .neq 35 (.agg #[.int .i64 a, .int .i64 b]) (.agg #[.int .i64 a, .int .i64 b])).run Try.prog w = .ok (.bool false) w := by
  have u3 := Try.underlying3
  have a3 := Try.isAgg3
  have z3 := Try.sizeOf3
  rw [run_neq_struct, show (10000 : Nat) = 9999 + 1 from rfl, Op.equalIn]
  simp only [Sem.run_bind, run_underlying Try.underlying35, Result.andThen_ok]
  simp only [Std.Legacy.Range.forIn_eq_forIn_range', Std.Legacy.Range.size, Nat.sub_zero, Nat.add_sub_cancel, Nat.div_one, List.range'_succ, List.range'_zero, List.forIn_cons, List.forIn_nil]
  go_simp

set_option maxHeartbeats 1000000 in
theorem eqp_ok (A B : Option Addr) (c d n : Nat) (l : List (Nat × Nat)) (w : World) (hnx : n = l.length) (hn : n ≤ 1000000) (h1 : HasP w w.heap.size A l) (h2 : HasP w w.heap.size B l) :
    Calls Try.prog 9 #[.slice A n c, .slice B n d] w fun e w' => e = .returned (.bool true) ∧ Below w.heap.size w w' := by
  have HN := Lib.hid hnx
  clear hnx
  go_enter Try.func9, Try.ntmps9
  go_wp2
  go_loopw [5] (fun i wr => ∃ k : Nat, k ≤ n ∧ i = .int .i64 k ∧ ∃ q, wr = w.drewN q) (fun i _ => n - (intOf i).toNat)
  case atStart => exact ⟨0, by omega, rfl, 0, rfl⟩
  case round =>
    obtain ⟨k, hk, rfl, q, rfl⟩ := hrel
    by_cases hlt : k < n
    · have hlt2 : k < l.length := by rw [← HN.out]; exact hlt
      obtain ⟨b, off, rfl, hb, hc, hc'⟩ := h1.at_ hlt2
      obtain ⟨b2, off2, rfl, hb2, hc2, hc2'⟩ := h2.at_ hlt2
      generalize l[k] = X at hc hc2 hc' hc2'
      obtain ⟨x, y⟩ := X
      have d1 : w.cell? ⟨b, off + k * 2, none⟩ = some (.int .i64 (x : Int)) := hc
      have d2 : w.cell? ⟨b, off + k * 2 + 1, none⟩ = some (.int .i64 (y : Int)) := hc'
      have d3 : w.cell? ⟨b2, off2 + k * 2, none⟩ = some (.int .i64 (x : Int)) := hc2
      have d4 : w.cell? ⟨b2, off2 + k * 2 + 1, none⟩ = some (.int .i64 (y : Int)) := hc2'
      have hq := fun w => neq2_run x y w
      clear h1 h2 hc hc' hc2 hc2'
      go_wp2
      go_quiet (fail)
      go_wp2
      go_roundw
      case rel => exact ⟨k + 1, by omega, by go_num, _, rfl⟩
      case measure => simp [intOf] <;> omega
    · obtain rfl : k = n := by omega
      go_wp2
      go_ret
      exact ⟨rfl, below_drewN (Below.refl _ _) _⟩
end Go.Proofs.Ytlopddiplmjpfaa
