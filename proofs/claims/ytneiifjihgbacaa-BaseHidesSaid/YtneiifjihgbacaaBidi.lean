/-
  Contracts of the program's and of the document's Bidi: class by class. Condition: at most 1000 codes. (Turned into a template from stage 4's text at round 9; not yet built as a template.)
-/
import Derived.Test.YtneiifjihgbacaaGives
import Derived.Test.YtneiifjihgbacaaOf
import Derived.Test.YtneiifjihgbacaaROf
import Derived.Deep.QuietTactic
import Derived.BigQuiet
set_option linter.unusedVariables false
namespace Go.Proofs.Ytneiifjihgbacaa
open Go.ChangeShapes Go.WideShapes Go.ChangeAt Go.RowKit

theorem rof_x (r : Int) (p : Pr) (hp : ofP r = p) (w : World) : Calls Try.prog 25 #[.int .i32 r] w fun e w' => e = .returned (.agg #[.int .i64 p.bidi, .int .i64 p.cl, .int .i64 p.br, .int .i64 p.sc, .int .i64 p.jn, .int .i64 p.wd, .int .i32 p.mi, .int .i32 p.pa, .bool p.op]) ∧ Up w w' := by
  have := rof_ok r w
  rw [hp] at this
  exact this
def bdP (t : List Int) : List Int := t.map (fun r => (ofP r).bidi)
theorem findP_bidi (r : Int) : (findP r).p.bidi = (ofP r).bidi := by
  by_cases h : 44032 ≤ r ∧ r ≤ 55203 ∧ (r - 44032) % 28 = 0
  · rw [ofP_yes r h]
  · rw [ofP_no r h]
theorem bd_take (t : List Int) (k : Nat) (h : k < t.length) : bdP (t.take (k + 1)) = bdP (t.take k) ++ [(ofP t[k]).bidi] := by
  unfold bdP
  rw [List.take_add_one, List.getElem?_eq_getElem h, List.map_append]
  rfl
theorem bd_len (t : List Int) : (bdP t).length = t.length := by unfold bdP; rw [List.length_map]
/-- the first k classes, then zeros -/
def fillP (t : List Int) (k : Nat) : List Int := bdP (t.take k) ++ List.replicate (t.length - k) 0
theorem fill_zero (t : List Int) : fillP t 0 = List.replicate t.length 0 := rfl
theorem fill_end (t : List Int) : fillP t t.length = bdP t := by
  unfold fillP
  rw [List.take_length, Nat.sub_self, List.replicate_zero, List.append_nil]
theorem fill_len (t : List Int) (k : Nat) (h : k ≤ t.length) : (fillP t k).length = t.length := by
  unfold fillP
  rw [List.length_append, bd_len, List.length_take, List.length_replicate]
  omega
theorem fill_set (t : List Int) (k : Nat) (h : k < t.length) : fillP t (k + 1) = (fillP t k).set k (ofP t[k]).bidi := by
  unfold fillP
  rw [bd_take t k h, List.set_append_right _ _ (by rw [bd_len, List.length_take]; omega), bd_len, List.length_take, show k - min k t.length = 0 by omega, show t.length - k = (t.length - (k + 1)) + 1 by omega, List.replicate_succ, List.set_cons_zero, List.append_assoc]
  rfl
theorem owns_below {base : Nat} {e : TypeId} {size : Nat} {v : Value} {n : Nat} {xs : List Value} {w w' : World} (h : w.ownsRow base e size v n xs) (hb : Below w.heap.size w w') : w'.ownsRow base e size v n xs := by
  refine ⟨h.1, ?_⟩
  rcases h.2 with ⟨a, b⟩ | ⟨g, cap, cur, a, b, hg, r⟩
  · exact .inl ⟨a, b⟩
  · have hlt : g < w.heap.size := by
      rcases Nat.lt_or_ge g w.heap.size with h' | h'
      · exact h'
      · rw [Array.getElem?_eq_none h'] at hg; cases hg
    exact .inr ⟨g, cap, cur, a, b, by rw [hb.block g hlt]; exact hg, r⟩
theorem field_bidi (x : Rw) (w : World) : (Instr.field 46 (.agg #[.int .i32 x.f, .int .i32 x.t, .int .i64 x.p.bidi, .int .i64 x.p.cl, .int .i64 x.p.br, .int .i64 x.p.sc, .int .i64 x.p.jn, .int .i64 x.p.wd, .int .i32 x.p.mi, .int .i32 x.p.pa, .bool x.p.op]) 2).run Try.prog w = .ok (.int .i64 x.p.bidi) w := by
  simp [Instr.field, go_sem, part, asAgg, Try.isAgg3]
theorem field_bd (p : Pr) (w : World) : (Instr.field 37 (.agg #[.int .i64 p.bidi, .int .i64 p.cl, .int .i64 p.br, .int .i64 p.sc, .int .i64 p.jn, .int .i64 p.wd, .int .i32 p.mi, .int .i32 p.pa, .bool p.op]) 0).run Try.prog w = .ok (.int .i64 p.bidi) w := by
  simp [Instr.field, go_sem, part, asAgg, Try.isAgg3]
theorem Try.full3 : (Try.prog.info? 3).map (fun i => (i.zero, i.size, i.bytes)) = some (some (.int .i64 0), 1, 8) := by kernel_rfl

set_option maxHeartbeats 2000000 in
theorem rbidi_ok (A : Option Addr) (c : Nat) (t : List Int) (w : World) (hn : t.length ≤ 1000) (h : Has w w.heap.size A (t.map (Value.int .i32))) :
    Calls Try.prog 20 #[.slice A t.length c] w fun e w' => SliceOf .i64 w w' e (bdP t) := by
  go_enter Try.func20, Try.ntmps20
  go_wp2
  go_loopw [3, 4] (fun v i wr => ∃ k : Nat, k ≤ t.length ∧ i = .int .i64 k ∧ Mine .i64 3 wr w.heap.size v (bdP (t.take k)) ∧ Below w.heap.size w wr) (fun _ i _ => t.length - (intOf i).toNat)
  case atStart => exact ⟨0, by omega, rfl, Mine.nil_ _ _ _ _, Below.refl _ _⟩
  case round =>
    obtain ⟨k, hk, rfl, hown, hbl⟩ := hrel
    by_cases hlt : k < t.length
    · obtain ⟨b, off, rfl, hb, hcc⟩ := (h.carry hbl).at_int hlt
      have HE := Lib.hid (bd_take t k hlt)
      have hlen : (bdP (t.take k)).length ≤ 1000 := by rw [bd_len, List.length_take]; omega
      obtain ⟨X, hX⟩ : ∃ X, t[k] = X := ⟨_, rfl⟩
      rw [hX] at hcc
      have HX := Lib.hid hX
      obtain ⟨p, hp⟩ : ∃ p, ofP X = p := ⟨_, rfl⟩
      have HP := Lib.hid hp
      have HC := Lib.hid (fun w => rof_x X p hp w)
      have hfb := fun w => field_bd p w
      clear hX hp h
      go_wp2_with (first | (go_at_call 25; refine (HC.out _).mono ?_; rintro e u ⟨rfl, hu⟩; have hM := hown.below hu.1; have hb2 := below_trans hbl hu.1 hbl.size; clear hown hu hbl) | (at_builtin; refine wpList_push rfl _ _ 29 rfl Try.underlying29 Try.full3 (by omega) w.heap.size _ (bdP (t.take k)) p.bidi w _ hM rfl rfl hb2 hb2.size (by omega) ?_; intro v2 w2 hM2 hb3))
      go_roundw
      case rel => exact ⟨k + 1, by omega, by go_num, by rw [HE.out, HX.out, HP.out]; exact hM2, hb3⟩
      case measure => simp [intOf]; omega
    · obtain rfl : k = t.length := by omega
      rw [List.take_length] at hown
      go_wp2
      go_ret
      exact ⟨_, rfl, hown.sliceV hbl⟩
end Go.Proofs.Ytneiifjihgbacaa
