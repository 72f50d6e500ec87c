/-
  Contracts of the program's and of the document's Bidi: a text of at most 200 codes, class by class; of Ints. No condition but the length.
-/
import Derived.Test.YtfobibijhojhlaaGives
import Derived.Test.YtfobibijhojhlaaAlive
import Derived.Deep.QuietTactic
import Derived.BigQuiet
set_option linter.unusedVariables false
namespace Go.Proofs.Ytfobibijhojhlaa
open Go.ChangeShapes Go.WideShapes Go.ChangeAt Go.RowKit

theorem take_eq (xs ys : List Int) (k : Nat) (h1 : k < xs.length) (h2 : k < ys.length) (h : xs.take k = ys.take k) (he : xs[k] = ys[k]) : xs.take (k + 1) = ys.take (k + 1) := by
  rw [List.take_add_one, List.take_add_one, List.getElem?_eq_getElem h1, List.getElem?_eq_getElem h2, h, he]
theorem ne_at (xs ys : List Int) (k : Nat) (h1 : k < xs.length) (h2 : k < ys.length) (he : xs[k] ≠ ys[k]) : decide (xs = ys) = false := by
  apply decide_eq_false
  intro h
  subst h
  exact he rfl

set_option maxHeartbeats 1000000 in
theorem ints_ok (A B : Option Addr) (c d : Nat) (xs ys : List Int) (w : World) (hn : xs.length ≤ 1000000000) (hm : ys.length ≤ 1000000000) (h1 : Has w w.heap.size A (xs.map (Value.int .i64))) (h2 : Has w w.heap.size B (ys.map (Value.int .i64))) :
    Calls Try.prog 13 #[.slice A xs.length c, .slice B ys.length d] w fun e w' => e = .returned (.bool (decide (xs = ys))) ∧ Below w.heap.size w w' := by
  by_cases hl : xs.length = ys.length
  · obtain ⟨V, hV⟩ : ∃ V, decide (xs = ys) = V := ⟨_, rfl⟩
    rw [hV]
    have HV := Lib.hid hV
    have HL := Lib.hid hl
    clear hV
    rw [← hl]
    clear hl
    go_enter Try.func13, Try.ntmps13
    go_wp2
    go_loopw [5] (fun i wr => ∃ k : Nat, k ≤ xs.length ∧ i = .int .i64 k ∧ Hid (xs.take k = ys.take k) ∧ ∃ q, wr = w.drewN q) (fun i _ => xs.length - (intOf i).toNat)
    case atStart => exact ⟨0, by omega, rfl, Lib.hid rfl, 0, rfl⟩
    case round =>
      obtain ⟨k, hk, rfl, HT, q, rfl⟩ := hrel
      by_cases hlt : k < xs.length
      · have hlt2 : k < ys.length := by rw [← HL.out]; exact hlt
        obtain ⟨b, off, rfl, hb, hc⟩ := h1.at_int hlt
        obtain ⟨b2, off2, rfl, hb2, hc2⟩ := h2.at_int hlt2
        obtain ⟨X, hX⟩ : ∃ X, xs[k] = X := ⟨_, rfl⟩
        obtain ⟨Y, hY⟩ : ∃ Y, ys[k] = Y := ⟨_, rfl⟩
        rw [hX] at hc
        rw [hY] at hc2
        have HX := Lib.hid hX
        have HY := Lib.hid hY
        clear hX hY h1 h2
        by_cases hxy : X = Y
        · have HTn := Lib.hid (take_eq xs ys k hlt (by rw [← HL.out]; exact hlt) HT.out (by rw [HX.out, HY.out]; exact hxy))
          subst hxy
          go_wp2
          go_quiet (fail)
          go_wp2
          go_roundw
          case rel => exact ⟨k + 1, by omega, by go_num, HTn, _, rfl⟩
          case measure => simp [intOf]; omega
        · have HF := Lib.hid (ne_at xs ys k hlt (by rw [← HL.out]; exact hlt) (by rw [HX.out, HY.out]; exact hxy))
          go_wp2
          go_quiet (fail)
          go_wp2
          go_ret
          exact ⟨by rw [← HV.out, HF.out]; rfl, below_drewN (below_drewN (Below.refl _ _) _) _⟩
      · obtain rfl : k = xs.length := by omega
        have HE : Hid (V = true) := Lib.hid (by
          have := HT.out
          rw [List.take_length, HL.out, List.take_length] at this
          rw [← HV.out, this]; simp)
        go_wp2
        go_ret
        exact ⟨by rw [HE.out]; rfl, below_drewN (Below.refl _ _) _⟩
  · have e : decide (xs = ys) = false := decide_eq_false (fun h => hl (by rw [h]))
    rw [e]
    clear e
    have hl2 : ¬ ((xs.length : Int) = ys.length) := by omega
    clear hl
    go_enter Try.func13, Try.ntmps13
    go_wp2
    go_ret
    exact ⟨rfl, Below.refl _ _⟩


def bdP (t : List Int) : List Int := t.map (fun r => (ofP r).bidi)
theorem findP_bidi (r : Int) : (findP r).p.bidi = (ofP r).bidi := by
  by_cases h : 44032 ≤ r ∧ r ≤ 55203 ∧ (r - 44032) % 28 = 0
  · rw [ofP_yes r h]
  · rw [ofP_no r h]
theorem bd_take (t : List Int) (k : Nat) (h : k < t.length) : bdP (t.take (k + 1)) = bdP (t.take k) ++ [(ofP t[k]).bidi] := by
  unfold bdP
  rw [List.take_add_one, List.getElem?_eq_getElem h, List.map_append]
  rfl
theorem bd_len (t : List Int) : (bdP t).length = t.length := by unfold bdP; rw [List.length_map]
/-- the first k classes, then zeros -/
def fillP (t : List Int) (k : Nat) : List Int := bdP (t.take k) ++ List.replicate (t.length - k) 0
theorem fill_zero (t : List Int) : fillP t 0 = List.replicate t.length 0 := rfl
theorem fill_end (t : List Int) : fillP t t.length = bdP t := by
  unfold fillP
  rw [List.take_length, Nat.sub_self, List.replicate_zero, List.append_nil]
theorem fill_len (t : List Int) (k : Nat) (h : k ≤ t.length) : (fillP t k).length = t.length := by
  unfold fillP
  rw [List.length_append, bd_len, List.length_take, List.length_replicate]
  omega
theorem fill_set (t : List Int) (k : Nat) (h : k < t.length) : fillP t (k + 1) = (fillP t k).set k (ofP t[k]).bidi := by
  unfold fillP
  rw [bd_take t k h, List.set_append_right _ _ (by rw [bd_len, List.length_take]; omega), bd_len, List.length_take, show k - min k t.length = 0 by omega, show t.length - k = (t.length - (k + 1)) + 1 by omega, List.replicate_succ, List.set_cons_zero, List.append_assoc]
  rfl
theorem owns_below {base : Nat} {e : TypeId} {size : Nat} {v : Value} {n : Nat} {xs : List Value} {w w' : World} (h : w.ownsRow base e size v n xs) (hb : Below w.heap.size w w') : w'.ownsRow base e size v n xs := by
  refine ⟨h.1, ?_⟩
  rcases h.2 with ⟨a, b⟩ | ⟨g, cap, cur, a, b, hg, r⟩
  · exact .inl ⟨a, b⟩
  · have hlt : g < w.heap.size := by
      rcases Nat.lt_or_ge g w.heap.size with h' | h'
      · exact h'
      · rw [Array.getElem?_eq_none h'] at hg; cases hg
    exact .inr ⟨g, cap, cur, a, b, by rw [hb.block g hlt]; exact hg, r⟩
theorem field_bidi (x : Rw) (w : World) : (Instr.field 41 (.agg #[.int .i32 x.f, .int .i32 x.t, .int .i64 x.p.bidi, .int .i64 x.p.cl, .int .i64 x.p.br, .int .i64 x.p.sc, .int .i64 x.p.jn, .int .i64 x.p.wd, .int .i32 x.p.mi, .int .i32 x.p.pa, .bool x.p.op]) 2).run Try.prog w = .ok (.int .i64 x.p.bidi) w := by
  simp [Instr.field, go_sem, part, asAgg, Try.isAgg3]
theorem field_bd (p : Pr) (w : World) : (Instr.field 23 (.agg #[.int .i64 p.bidi, .int .i64 p.cl, .int .i64 p.br, .int .i64 p.sc, .int .i64 p.jn, .int .i64 p.wd, .int .i32 p.mi, .int .i32 p.pa, .bool p.op]) 0).run Try.prog w = .ok (.int .i64 p.bidi) w := by
  simp [Instr.field, go_sem, part, asAgg, Try.isAgg3]
theorem Try.full3 : (Try.prog.info? 3).map (fun i => (i.zero, i.size, i.bytes)) = some (some (.int .i64 0), 1, 8) := by kernel_rfl

set_option maxHeartbeats 2000000 in
theorem bidi_ok (A : Option Addr) (c : Nat) (t : List Int) (w : World) (hn : t.length ≤ 200) (h : Has w w.heap.size A (t.map (Value.int .i32))) :
    Calls Try.prog 14 #[.slice A t.length c] w fun e w' => SliceOf .i64 w w' e (bdP t) := by
  obtain ⟨i0, hi', hz0, hz1, hz2⟩ := info_parts Try.full3
  go_enter Try.func14, Try.ntmps14
  go_wp2_with (refine wpList_make_full _ rfl _ _ 30 rfl w.heap.size 3 i0 (.int .i64 0) 1 Try.underlying30 hi' hz0 hz1 .i64 .i64 t.length t.length t.length rfl rfl rfl rfl (by rw [hz2]; omega) (by unfold maxLen; omega) (Nat.le_refl _) ?_; intro w1 hown hgr)
  have hbl : Below w.heap.size w w1 := (Below.refl _ _).grown hgr (Nat.le_refl _) (fun k hk => by cases hk)
  have hO : w1.ownsRow w.heap.size 3 1 (.slice (some ⟨w.heap.size, 0, none⟩) t.length t.length) t.length ((fillP t 0).map (Value.int .i64)) := by
    rw [fill_zero, List.map_replicate]
    rw [Nat.mul_one] at hown
    have := toList_madeCells_one (.int .i64 0) t.length
    rw [show (Value.int .i64 0).cells = #[.int .i64 0] from rfl, this] at hown
    exact hown
  clear hown hgr hi' hz0 hz1 hz2
  go_wp2
  go_loopw [11] (fun i wr => ∃ k : Nat, k ≤ t.length ∧ i = .int .i64 k ∧ wr.ownsRow w.heap.size 3 1 (.slice (some ⟨w.heap.size, 0, none⟩) t.length t.length) t.length ((fillP t k).map (Value.int .i64)) ∧ Below w.heap.size w wr) (fun i _ => t.length - (intOf i).toNat)
  case atStart => exact ⟨0, by omega, rfl, hO, hbl⟩
  case round =>
    clear hO hbl
    obtain ⟨k, hk, rfl, hown, hbl⟩ := hrel
    by_cases hlt : k < t.length
    · obtain ⟨b, off, rfl, hb, hcc⟩ := (h.carry hbl).at_int hlt
      have HF := Lib.hid (fill_set t k hlt)
      have hB := findP_bidi t[k]
      obtain ⟨X, hX⟩ : ∃ X, t[k] = X := ⟨_, rfl⟩
      rw [hX] at hcc hB
      obtain ⟨x, hx⟩ : ∃ x, findP X = x := ⟨_, rfl⟩
      rw [hx] at hB
      have HX := Lib.hid hX
      have HB := Lib.hid hB
      have HC := Lib.hid (fun w => find_x X x hx w)
      have hfb := fun w => field_bidi x w
      have hlen := fill_len t k (by omega)
      obtain ⟨L, hL⟩ : ∃ L, fillP t k = L := ⟨_, rfl⟩
      rw [hL] at hown hlen
      have HL := Lib.hid hL
      have hcl := Lib.hid (show ∃ z, (L.map (Value.int .i64))[k]? = some z from ⟨_, List.getElem?_eq_getElem (by rw [List.length_map]; omega)⟩)
      have HK := Lib.hid hlt
      have HN := Lib.hid hlen
      clear hX hB hx hL h hlen hk
      go_wp2_with (go_at_call 18; refine (HC.out _).mono ?_; rintro e u ⟨rfl, hu⟩; have hO2 := owns_below hown hu.1; have hb2 := below_trans hbl hu.1 hbl.size; obtain ⟨z, hz⟩ := hcl.out; have hcz := (hO2.cellAt k (by have := HK.out; omega)).trans hz; have hfz := hO2.frozenAt k; clear hu hz)
      go_roundw
      case rel =>
        obtain ⟨hs, hg⟩ := hO2.stored k (.int .i64 x.p.bidi)
        refine ⟨k + 1, by omega, by go_num, ?_, hb2.grown hg hb2.size (fun j hj => by injection hj with hj; omega)⟩
        rw [HF.out, HX.out, HL.out, ← HB.out, List.map_set]
        exact hs
      case measure => simp [intOf]; omega
    · obtain rfl : k = t.length := by omega
      rw [fill_end] at hown
      go_wp2
      go_ret
      have hM : Mine .i64 3 wr w.heap.size (.slice (some ⟨w.heap.size, 0, none⟩) t.length t.length) (bdP t) := by
        unfold Mine
        rw [bd_len]; exact hown
      exact ⟨_, rfl, hM.sliceV hbl⟩

set_option maxHeartbeats 2000000 in
theorem rbidi_ok (A : Option Addr) (c : Nat) (t : List Int) (w : World) (hn : t.length ≤ 200) (h : Has w w.heap.size A (t.map (Value.int .i32))) :
    Calls Try.prog 15 #[.slice A t.length c] w fun e w' => SliceOf .i64 w w' e (bdP t) := by
  go_enter Try.func15, Try.ntmps15
  go_wp2
  go_loopw [3, 4] (fun v i wr => ∃ k : Nat, k ≤ t.length ∧ i = .int .i64 k ∧ Mine .i64 3 wr w.heap.size v (bdP (t.take k)) ∧ Below w.heap.size w wr) (fun _ i _ => t.length - (intOf i).toNat)
  case atStart => exact ⟨0, by omega, rfl, Mine.nil_ _ _ _ _, Below.refl _ _⟩
  case round =>
    obtain ⟨k, hk, rfl, hown, hbl⟩ := hrel
    by_cases hlt : k < t.length
    · obtain ⟨b, off, rfl, hb, hcc⟩ := (h.carry hbl).at_int hlt
      have HE := Lib.hid (bd_take t k hlt)
      have hlen : (bdP (t.take k)).length ≤ 200 := by rw [bd_len, List.length_take]; omega
      obtain ⟨X, hX⟩ : ∃ X, t[k] = X := ⟨_, rfl⟩
      rw [hX] at hcc
      have HX := Lib.hid hX
      obtain ⟨p, hp⟩ : ∃ p, ofP X = p := ⟨_, rfl⟩
      have HP := Lib.hid hp
      have HC := Lib.hid (fun w => rof_x X p hp w)
      have hfb := fun w => field_bd p w
      clear hX hp h
      go_wp2_with (first | (go_at_call 8; refine (HC.out _).mono ?_; rintro e u ⟨rfl, hu⟩; have hM := hown.below hu.1; have hb2 := below_trans hbl hu.1 hbl.size; clear hown hu hbl) | (at_builtin; refine wpList_push rfl _ _ 30 rfl Try.underlying30 Try.full3 (by omega) w.heap.size _ (bdP (t.take k)) p.bidi w _ hM rfl rfl hb2 hb2.size (by omega) ?_; intro v2 w2 hM2 hb3))
      go_roundw
      case rel => exact ⟨k + 1, by omega, by go_num, by rw [HE.out, HX.out, HP.out]; exact hM2, hb3⟩
      case measure => simp [intOf]; omega
    · obtain rfl : k = t.length := by omega
      rw [List.take_length] at hown
      go_wp2
      go_ret
      exact ⟨_, rfl, hown.sliceV hbl⟩
end Go.Proofs.Ytfobibijhojhlaa
