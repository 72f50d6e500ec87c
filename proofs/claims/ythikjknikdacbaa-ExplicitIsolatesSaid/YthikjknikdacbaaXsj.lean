/-
  Contracts: slices.Max at integers, the program's Depth. Condition: at most 1000 elements.
-/
import Derived.Test.YthikjknikdacbaaXsi
import Derived.Test.YthikjknikdacbaaMinMax
set_option linter.unusedVariables false
set_option linter.unusedSimpArgs false
namespace Go.Proofs.Ythikjknikdacbaa
open Go.ChangeShapes Go.WideShapes Go.ChangeAt Go.RowKit Go.Sort

def maxI (l : List Int) (k : Nat) : Int := (l.take k).tail.foldl max (l.headD 0)
theorem maxI_one (l : List Int) : maxI l 1 = l.headD 0 := by cases l <;> rfl
theorem maxI_succ (l : List Int) (k : Nat) (h : k < l.length) (h1 : 0 < k) : maxI l (k + 1) = max (maxI l k) l[k] := by
  unfold maxI
  have hne : l.take k ≠ [] := fun e => by
    have := congrArg List.length e
    rw [List.length_take, List.length_nil] at this; omega
  rw [List.take_succ_eq_append_getElem h, List.tail_append_of_ne_nil hne, List.foldl_append]
  rfl
theorem foldl_max (l : List Nat) : ∀ a b : Nat, l.foldl max (max a b) = max a (l.foldl max b) := by
  induction l with
  | nil => intro a b; rfl
  | cons x l ih => intro a b; rw [List.foldl_cons, List.foldl_cons, ← ih]; congr 1; omega
theorem foldl_ints (l : List Nat) : ∀ a : Nat, (l.map Int.ofNat).foldl max (a : Int) = ((l.foldl max a : Nat) : Int) := by
  induction l with
  | nil => intro a; rfl
  | cons x l ih =>
    intro a
    rw [List.map_cons, List.foldl_cons, List.foldl_cons, ← ih]
    congr 1
    show max (a : Int) (x : Int) = ((max a x : Nat) : Int)
    omega
/-- the maximum of the levels with the base behind them -/
theorem maxI_all (l : List Nat) (b : Nat) : maxI (l.map Int.ofNat ++ [(b : Int)]) (l.length + 1) = ((l.foldl max b : Nat) : Int) := by
  unfold maxI
  rw [List.take_of_length_le (by simp)]
  cases l with
  | nil => rfl
  | cons x l =>
    rw [List.map_cons, List.cons_append, List.tail_cons, List.headD_cons, List.foldl_append, List.foldl_cons, List.foldl_nil]
    have := foldl_ints l x
    rw [show Int.ofNat x = (x : Int) from rfl, this, List.foldl_cons, Nat.max_comm b x, Nat.max_comm x b, foldl_max]
    omega

set_option maxRecDepth 20000 in
set_option maxHeartbeats 2000000 in
theorem max_ok (A : Option Addr) (n c : Nat) (l : List Int) (w : World) (hn : n = l.length) (h0 : 0 < n) (hmax : n ≤ 2000) (h : Has w w.heap.size A (l.map (Value.int .i64))) :
    Calls Try.prog 34 #[.slice A n c] w fun e w' => e = .returned (.int .i64 (maxI l n)) ∧ w = w' := by
  obtain ⟨b, off, rfl, hb, hc⟩ := h.at_int (k := 0) (by omega)
  rw [Nat.add_zero] at hc
  have HM1 : Hid (l[0]'(by omega) = maxI l 1) := Lib.hid (by rw [maxI_one]; cases l with | nil => simp at hn; omega | cons x l => rfl)
  have HN := Lib.hid hn
  have hlen : ¬ n < 1 := by omega
  obtain ⟨M1, hM1⟩ : ∃ M1, l[0]'(by omega) = M1 := ⟨_, rfl⟩
  rw [hM1] at hc HM1
  clear hn hM1
  go_enter Try.func34, Try.ntmps34
  go_wp2
  go_loopw [3, 4] (fun v3 v4 wr => ∃ (k : Nat) (M : Int), 0 < k ∧ k ≤ n ∧ v4 = .int .i64 k ∧ v3 = .int .i64 M ∧ Hid (M = maxI l k) ∧ w = wr) (fun _ v4 _ => n - (intOf v4).toNat)
  case atStart => exact ⟨1, M1, by omega, by omega, rfl, rfl, HM1, rfl⟩
  case round =>
    clear HM1 hc
    obtain ⟨k, M, hk0, hkn, rfl, rfl, HM, rfl⟩ := hrel
    by_cases hlt : k < n
    · have hk1 : k < l.length := by have := HN.out; omega
      obtain ⟨b', off', hA, hb', hc⟩ := h.at_int hk1
      injection hA with hA; injection hA with e1 e2; subst e1; subst e2
      have HS := Lib.hid (maxI_succ l k hk1 hk0)
      generalize l[k] = X at *
      obtain ⟨Y, hY⟩ : ∃ Y, max M X = Y := ⟨_, rfl⟩
      have HS2 : Hid (Y = maxI l (k + 1)) := Lib.hid (by rw [HS.out, ← HM.out, hY])
      have HY := Lib.hid hY
      clear HS HM hY hk1 h
      go_wp2_with (refine wpList_max rfl _ _ _ rfl M X rfl rfl Y HY.out ?_)
      go_roundw
      case rel => exact ⟨k + 1, Y, by omega, by omega, by go_num, rfl, HS2, trivial⟩
      case measure => simp [intOf] <;> omega
    · obtain rfl : k = n := by omega
      go_wp2
      go_ret
      exact ⟨by rw [HM.out]; rfl, rfl⟩

set_option maxRecDepth 20000 in
set_option maxHeartbeats 2000000 in
theorem depth_ok (A : Option Addr) (n c b : Nat) (cs : List Int) (w : World) (hn : n = cs.length) (hc : n ≤ c) (hmax : n ≤ 900) (hb : b ≤ 1) (h : Has w w.heap.size A (cs.map (Value.int .i64))) :
    Calls Try.prog 12 #[.slice A n c, .int .i64 (b : Int)] w fun e w' => e = .returned (.int .i64 (depL b cs : Int)) ∧ Below w.heap.size w w' := by
  have HL := Lib.hid (levels_ok A n c b cs w hn hc hmax hb h)
  have hll : (lvI b cs n).length = n := by unfold lvI; rw [List.length_map, lvN_len b cs n (by omega)]
  have HD : Hid (maxI (lvI b cs n ++ [(b : Int)]) (n + 1) = (depL b cs : Int)) := Lib.hid (by
    have := maxI_all (lvN b cs n) b
    rw [lvN_len b cs n (by omega)] at this
    unfold lvI depL lvL
    rw [this, hn])
  generalize lvI b cs n = L at *
  generalize (depL b cs : Int) = D at *
  have HLL := Lib.hid hll
  have HLM : Hid ((L ++ [(b : Int)]).length = n + 1) := Lib.hid (by rw [List.length_append, hll]; rfl)
  have HMX := Lib.hid (fun A c W hh => max_ok A (n + 1) c (L ++ [(b : Int)]) W HLM.out.symm (by omega) (by omega) hh)
  clear hn h hll
  go_enter Try.func12, Try.ntmps12
  go_wp2_with (first
    | (go_at_call 9; (with_reducible refine HL.out.mono ?_); rintro e u ⟨v1, v2, rfl, h1, h2, hbu⟩)
    | (at_builtin; (refine wpList_push (k := .i64) (bytes := 8) rfl _ _ 22 rfl Try.underlying22 fullI (by decide) w.heap.size v1 L (b : Int) w u h1 rfl rfl hbu hbu.size (by rw [HLL.out]; omega) ?_; intro v3 w3 hM3 hb3; obtain ⟨A3, c3, rfl, hc3, _, hh3⟩ := hM3.size; rw [HLM.out]))
    | (go_at_call 34; (with_reducible refine (HMX.out A3 c3 w3 hh3).mono ?_); rintro e u4 ⟨rfl, rfl⟩))
  go_ret
  exact ⟨by rw [HD.out]; rfl, hb3⟩
end Go.Proofs.Ythikjknikdacbaa
