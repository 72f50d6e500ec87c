/-
  What the statement ExplicitIsolates makes: classes ahead, an isolate, classes behind; a struct of a bool and two slices as an argument; what is told ahead of the isolate and behind it. Condition: at most 200 classes each.
-/
import Derived.Test.YthikjknikdacbaaXtj
import Derived.Laws.AppendOwnNone
import Derived.Deep.Strs
set_option linter.unusedVariables false
set_option linter.unusedSimpArgs false
namespace Go.Proofs.Ythikjknikdacbaa
open Go.ChangeShapes Go.WideShapes Go.ChangeAt Go.RowKit Go.Sort Go.Deep

/-- append of a slice that came in to a slice of the call's own -/
theorem wpList_pushall {P : Program} {ops : Array Oper} {rest : List Oper} {o : Oper} {a : Act} {Q : Exit → Act → World → Prop} {k : IntKind} {e : TypeId} {bytes : Nat} (hgd : o.guard = none) (s x : Operand) (t : TypeId)
    (ho : o.op = .call { callee := .builtin .append, args := #[s, x], argTypes := #[t, t] })
    (ht : P.underlying t = some (.slice e)) (hi : (P.info? e).map (fun i => (i.zero, i.size, i.bytes)) = some (some (.int k 0), 1, bytes)) (hby : bytes ≤ 64)
    (B : Nat) (v : Value) (xs ys : List Int) (W0 wr : World) (A : Option Addr) (n c : Nat) (hnc : n = ys.length) (hA : A = none → c = 0) (hh : Has wr wr.heap.size A (ys.map (Value.int k))) (hown : Mine k e wr B v xs) (hs : a.eval s = v) (hx : a.eval x = .slice A n c)
    (hbl : Below B W0 wr) (hB : B ≤ wr.heap.size) (hn : xs.length ≤ 1000000) (hm : ys.length ≤ 1000000)
    (h : ∀ v' w', Mine k e w' B v' (xs ++ ys) → Below B W0 w' → Below B wr w' → wpList P ops Q rest (a.put o.dst v') w') : wpList P ops Q (o :: rest) a wr := by
  subst hnc
  obtain ⟨i0, hi', hz0, hz1, hz2⟩ := info_parts hi
  cases A with
  | none =>
    have hc := hA rfl
    subst hc
    have hy : ys = [] := by
      rcases ys with _ | ⟨y, ys⟩
      · rfl
      · exfalso
        obtain ⟨b, off, e1, _⟩ := hh (by simp)
        cases e1
    subst hy
    refine wpList_append_own_none hgd s x t ho B e i0 1 ht hi' v xs.length _ hs hown hx ?_
    exact h v wr (by rw [List.append_nil]; exact hown) hbl (Below.refl _ _)
  | some ad =>
    have hb : (xs.length + ys.length) * bytes ≤ 140737488355328 := by
      have : (xs.length + ys.length) * bytes ≤ 2000000 * 64 := Nat.mul_le_mul (by omega) hby
      omega
    refine wpList_append_own (P := P) _ hgd s x t ho B e i0 (.int k 0) 1 bytes ht hi' hz0 hz1 hz2 rfl (by decide) v xs.length _ hs hown ad ys.length c (ys.map (Value.int k)) hx (by simp) ?_
      (by intro u hu; rw [List.mem_map] at hu; obtain ⟨z, _, rfl⟩ := hu; rfl)
      (by unfold maxLen; omega) hb hB fun v' w1 h1 hg _ => ?_
    · intro j u hj
      obtain ⟨b, off, e1, _, hc⟩ := hh (by intro h0; rw [h0] at hj; simp at hj)
      injection e1 with e1
      subst e1
      rw [add_plain]
      exact hc j u hj
    · have hg2 : Below B wr w1 := (Below.refl _ _).grown hg hB fun j hj => (World.ownsRow.lt hown j hj).1
      exact h v' w1 (by unfold Mine; simpa using h1) (hbl.trans hg2) hg2

/-- classes ahead, an isolate, classes behind -/
def layL (xs : List Int) (right : Bool) (us ys : List Int) : List Int := xs ++ (if right = true then 21 else 20) :: (us.map withinI ++ 23 :: ys)
theorem lay_len (xs : List Int) (right : Bool) (us ys : List Int) : (layL xs right us ys).length = xs.length + 1 + us.length + 1 + ys.length := by
  unfold layL; simp; omega
theorem withins (z : List Int) (k : Nat) (h : k < z.length) : (z.take (k + 1)).map withinI = (z.take k).map withinI ++ [withinI (z[k])] := by
  rw [List.take_succ_eq_append_getElem h, List.map_append]
  rfl

set_option maxRecDepth 20000 in
set_option maxHeartbeats 4000000 in
theorem laid_ok (A U Y : Option Addr) (ca cu cy na nu ny : Nat) (xs us ys : List Int) (right : Bool) (w : World) (hna : na = xs.length) (hnu : nu = us.length) (hny : ny = ys.length) (hmax : na ≤ 200 ∧ nu ≤ 200 ∧ ny ≤ 200) (ea : A = none → ca = 0) (ey : Y = none → cy = 0)
    (wu : ∀ z ∈ us, (Lit.int .i64 z).wf = true) (hA : Has w w.heap.size A (xs.map (Value.int .i64))) (hU : Has w w.heap.size U (us.map (Value.int .i64))) (hY : Has w w.heap.size Y (ys.map (Value.int .i64))) :
    Calls Try.prog 17 #[.slice A na ca, .bool right, .slice U nu cu, .slice Y ny cy] w fun e w' => ∃ v, e = .returned v ∧ Mine .i64 3 w' w.heap.size v (layL xs right us ys) ∧ Below w.heap.size w w' := by
  have HU := Lib.hid (fun W (hb : Below w.heap.size w W) => (hU.carry hb))
  have HY := Lib.hid (fun W (hb : Below w.heap.size w W) => (hY.carry hb))
  have HA := Lib.hid hA
  have HWU := Lib.hid wu
  have HNA := Lib.hid hna
  have HNU := Lib.hid hnu
  have HNY := Lib.hid hny
  obtain ⟨h1, h2, h3⟩ := hmax
  have HEA := Lib.hid ea
  have HEY := Lib.hid ey
  have HL : Hid (layL xs right us ys = ((xs ++ [if right = true then 21 else 20]) ++ us.map withinI ++ [23]) ++ ys) := Lib.hid (by unfold layL; simp)
  generalize layL xs right us ys = R at *
  clear hna hnu hny ea ey wu hA hU hY
  cases right
  all_goals
    simp only [if_true, if_false, Bool.false_eq_true, reduceCtorEq] at HL
    go_enter Try.func17, Try.ntmps17
    go_wp2_with (at_builtin; first
      | (refine wpList_pushall (k := .i64) (bytes := 8) rfl _ _ 22 rfl Try.underlying22 fullI (by decide) w.heap.size (.slice none 0 0) [] xs w w A na ca HNA.out HEA.out HA.out (Mine.nil_ _ _ _ _) rfl rfl (Below.refl _ _) (Nat.le_refl _) (by simp) (by have := HNA.out; omega) ?_; intro v1 w1 hM1 hb1 hb1'; rw [List.nil_append] at hM1)
      | (refine wpList_push (k := .i64) (bytes := 8) rfl _ _ 22 rfl Try.underlying22 fullI (by decide) w.heap.size v1 xs _ w w1 hM1 rfl rfl hb1 hb1.size (by have := HNA.out; omega) ?_; intro v2 w2 hM2 hb2))
    clear hM1 hb1 hb1'
    go_loopw [9, 10] (fun v9 v10 wr => ∃ k : Nat, k ≤ nu ∧ v10 = .int .i64 k ∧ Hid (∃ o, Mine .i64 3 wr w.heap.size v9 (xs ++ [o] ++ (us.take k).map withinI) ∧ R = xs ++ [o] ++ us.map withinI ++ [23] ++ ys) ∧ Below w.heap.size w wr) (fun _ v10 _ => nu - (intOf v10).toNat)
    case atStart => exact ⟨0, by omega, rfl, Lib.hid ⟨_, by simpa using hM2, HL.out⟩, hb2⟩
    case round =>
      clear hM2 hb2
      obtain ⟨k, hkn, rfl, HS, hbw⟩ := hrel
      obtain ⟨o, hS, hR⟩ := HS.out
      have HR := Lib.hid hR
      have HXL : Hid ((xs ++ [o] ++ (us.take k).map withinI).length ≤ 1000) := Lib.hid (by have := HNA.out; have := HNU.out; simp; omega)
      by_cases hlt : k < nu
      · have hk1 : k < us.length := by have := HNU.out; omega
        obtain ⟨b, off, rfl, hb0, hcc⟩ := (HU.out wr hbw).at_int hk1
        have HW := Lib.hid (withins us k hk1)
        have HWI := Lib.hid (fun W => within_ok us[k] (HWU.out _ (List.getElem_mem hk1)) W)
        generalize us[k] = X at *
        generalize withinI X = PX at *
        generalize hQ : xs ++ [o] ++ (us.take k).map withinI = Q at *
        have HQ := Lib.hid hQ
        clear hk1 hb0 hQ hR HS
        go_wp2_with (first
          | (go_at_call 35; (refine (HWI.out _).mono ?_); rintro e u1 ⟨rfl, rfl⟩)
          | (at_builtin; refine wpList_push (k := .i64) (bytes := 8) rfl _ _ 22 rfl Try.underlying22 fullI (by decide) w.heap.size u9 Q PX w wr hS rfl rfl hbw hbw.size (by have := HXL.out; omega) ?_; intro v3 w3 hM3 hb3))
        go_roundw
        case rel => exact ⟨k + 1, by omega, by go_num, Lib.hid ⟨o, by rw [HW.out, ← List.append_assoc, HQ.out]; exact hM3, HR.out⟩, hb3⟩
        case measure => simp [intOf] <;> omega
      · obtain rfl : k = nu := by omega
        have ht : us.take k = us := List.take_of_length_le (by rw [← HNU.out]; exact Nat.le_refl _)
        rw [ht] at hS HXL
        generalize hQ : xs ++ [o] ++ us.map withinI = Q at *
        have HXL2 : Hid ((Q ++ [23]).length ≤ 1001) := Lib.hid (by have := HXL.out; rw [List.length_append]; simp; omega)
        clear ht HS hR hQ
        go_wp2_with (at_builtin; first
          | (refine wpList_push (k := .i64) (bytes := 8) rfl _ _ 22 rfl Try.underlying22 fullI (by decide) w.heap.size u9 Q 23 w wr hS rfl rfl hbw hbw.size (by have := HXL.out; omega) ?_; intro v4 w4 hM4 hb4)
          | (refine wpList_pushall (k := .i64) (bytes := 8) rfl _ _ 22 rfl Try.underlying22 fullI (by decide) w.heap.size v4 (Q ++ [23]) ys w w4 Y ny cy HNY.out HEY.out (HY.out w4 hb4) hM4 rfl rfl hb4 hb4.size (by have := HXL2.out; omega) (by have := HNY.out; omega) ?_; intro v5 w5 hM5 hb5 hb5'))
        go_ret
        exact ⟨v5, rfl, by rw [HR.out]; exact hM5, hb5⟩
/-- what is told ahead of an isolate, and behind it, whatever stands within -/
theorem told (xs ys : List Int) (right : Bool) : ∃ P Q P' Q' : List Int, (P.length = xs.length + 1 ∧ P'.length = xs.length + 1 ∧ Q.length = ys.length + 1 ∧ Q'.length = ys.length + 1) ∧
    ∀ us : List Int, (lvI 0 (layL xs right us ys) (layL xs right us ys).length).take (xs.length + 1) = P ∧ (lvI 0 (layL xs right us ys) (layL xs right us ys).length).drop (xs.length + 1 + us.length) = Q ∧
      (clN 0 (layL xs right us ys) (layL xs right us ys).length).take (xs.length + 1) = P' ∧ (clN 0 (layL xs right us ys) (layL xs right us ys).length).drop (xs.length + 1 + us.length) = Q' := by
  obtain ⟨A, C, hA, hC, h⟩ := isolates 0 xs ys (if right = true then 21 else 20) (by cases right <;> simp)
  refine ⟨A.map (fun t => Int.ofNat t.1), C.map (fun t => Int.ofNat t.1), A.map (·.2), C.map (·.2), ⟨by simp [hA], by simp [hA], by simp [hC], by simp [hC]⟩, fun us => ?_⟩
  obtain ⟨B, hB, ho⟩ := h (us.map withinI) (fun c hc => by
    rw [List.mem_map] at hc
    obtain ⟨z, _, rfl⟩ := hc
    exact withinI_bnd z)
  have hlB : B.length = us.length := by rw [hB, List.length_map]
  have e1 : lvI 0 (layL xs right us ys) (layL xs right us ys).length = A.map (fun t => Int.ofNat t.1) ++ B.map (fun t => Int.ofNat t.1) ++ C.map (fun t => Int.ofNat t.1) := by
    unfold lvI lvN layL
    rw [ho]
    simp [Function.comp_def]
  have e2 : clN 0 (layL xs right us ys) (layL xs right us ys).length = A.map (·.2) ++ B.map (·.2) ++ C.map (·.2) := by
    unfold clN layL
    rw [ho]
    simp
  rw [e1, e2]
  refine ⟨?_, ?_, ?_, ?_⟩
  · rw [List.append_assoc, List.take_left' (by simp [hA])]
  · rw [List.drop_left' (by simp [hA, hlB])]
  · rw [List.append_assoc, List.take_left' (by simp [hA])]
  · rw [List.drop_left' (by simp [hA, hlB])]

set_option maxHeartbeats 1000000 in
theorem eqs_up (A B : Option Addr) (c d n : Nat) (xs : List Int) (w : World) (hnx : n = xs.length) (hn : n ≤ 1000000) (h1 : Has w w.heap.size A (xs.map (Value.int .i64))) (h2 : Has w w.heap.size B (xs.map (Value.int .i64))) :
    Calls Try.prog 11 #[.slice A n c, .slice B n d] w fun e w' => e = .returned (.bool true) ∧ Up w w' := by
  have HN := Lib.hid hnx
  clear hnx
  go_enter Try.func11, Try.ntmps11
  go_wp2
  go_loopw [5] (fun i wr => ∃ k : Nat, k ≤ n ∧ i = .int .i64 k ∧ ∃ q, wr = w.drewN q) (fun i _ => n - (intOf i).toNat)
  case atStart => exact ⟨0, by omega, rfl, 0, rfl⟩
  case round =>
    obtain ⟨k, hk, rfl, q, rfl⟩ := hrel
    by_cases hlt : k < n
    · have hlt2 : k < xs.length := by rw [← HN.out]; exact hlt
      obtain ⟨b, off, rfl, hb, hc⟩ := h1.at_int hlt2
      obtain ⟨b2, off2, rfl, hb2, hc2⟩ := h2.at_int hlt2
      generalize xs[k] = X at hc hc2
      clear h1 h2
      go_wp2
      go_quiet (fail)
      go_wp2
      go_roundw
      case rel => exact ⟨k + 1, by omega, by go_num, _, rfl⟩
      case measure => simp [intOf] <;> omega
    · obtain rfl : k = n := by omega
      go_wp2
      go_ret
      exact ⟨rfl, (Up.refl w).drewN _⟩

/-- a slice of integers among a struct's cells, opened -/
theorem has_ints1 {H : Type} {enc : TypeId × Value → H} {W : World} {fuel : Nat} {v : Value} {y : DataW H × List MemPlace} (h : DataW.trod enc Try.prog W 0 (fun _ => true) true fuel 22 [v] = some y) (hlt : ∀ x ∈ y.2, x.block < W.heap.size) :
    ∃ (A : Option Addr) (c : Nat) (zs : List Int), v = .slice A zs.length c ∧ zs.length ≤ 9223372036854775807 ∧ zs.length ≤ c ∧ (∀ z ∈ zs, (Lit.int .i64 z).wf = true) ∧ Has W W.heap.size A (zs.map (Value.int .i64)) := by
  have hform : ∃ A n c, v = .slice A n c := by
    rcases open_ints Try.underlying22 Try.underlying3 (by kernel_rfl) h with ⟨hcs, hx⟩ | ⟨a, len', cap', zs, hcs, _⟩
    · injection hcs with h1
      exact ⟨_, _, _, h1⟩
    · injection hcs with h1
      exact ⟨_, _, _, h1⟩
  obtain ⟨A, n, c, rfl⟩ := hform
  obtain ⟨zs, rfl, h1, h2, h3, h4⟩ := has_ints (enc := enc) (W := W) (d := y.1) (p := y.2) Try.underlying22 Try.underlying3 (by kernel_rfl) ⟨fuel, by simpa [Value.cells] using h⟩ hlt
  exact ⟨A, c, zs, rfl, h1, h2, h3, h4⟩
/-- an argument that is a struct of a bool and two slices of integers -/
theorem seen_inside {H : Type} {enc : TypeId × Value → H} {W : World} {r : Reach} {b0 : Nat} {v : Value} {d : DataW H} {p : List MemPlace}
    (hv : Value.okWide Try.prog W r b0 33 v) (h : DataW.Trod enc Try.prog W 0 (fun _ => true) true 33 v d p) (hlt : ∀ x ∈ p, x.block < W.heap.size) :
    ∃ (y : Bool) (A : Option Addr) (c : Nat) (zs : List Int) (A' : Option Addr) (c' : Nat) (zs' : List Int), v = .agg #[.bool y, .slice A zs.length c, .slice A' zs'.length c'] ∧
      (zs.length ≤ 9223372036854775807 ∧ zs.length ≤ c ∧ (∀ z ∈ zs, (Lit.int .i64 z).wf = true) ∧ Has W W.heap.size A (zs.map (Value.int .i64))) ∧
      (zs'.length ≤ 9223372036854775807 ∧ zs'.length ≤ c' ∧ (∀ z ∈ zs', (Lit.int .i64 z).wf = true) ∧ Has W W.heap.size A' (zs'.map (Value.int .i64))) := by
  obtain ⟨cs, rfl, hsz⟩ := okWide_struct Try.underlying33 hv
  obtain ⟨fuel, hf⟩ := h
  have hC : Try.prog.cellsOf 33 = 3 := by kernel_rfl
  have c4 : Try.prog.cellsOf 4 = 1 := by kernel_rfl
  have c22 : Try.prog.cellsOf 22 = 1 := by kernel_rfl
  rw [hC] at hsz
  obtain ⟨u, v1, v2, hl⟩ : ∃ u v1 v2, cs.toList = [u, v1, v2] := by
    match hq : cs.toList, (show cs.toList.length = 3 by simpa using hsz) with
    | [u, v1, v2], _ => exact ⟨u, v1, v2, rfl⟩
  have hcs : (Value.agg cs).cells.toList = [u, v1, v2] := by rw [← hl]; simp [Value.cells]
  rw [hcs] at hf
  obtain ⟨y0, y1, y2, n, hx, _, g0, g1, g2⟩ := trod_struct3 Try.underlying33 hf
  simp only [Prod.mk.injEq] at hx
  obtain ⟨_, rfl⟩ := hx
  rw [c4] at g0
  rw [c22] at g1 g2
  have g0' : DataW.trod enc Try.prog W 0 (fun _ => true) true n 4 [u] = some y0 := g0
  have g1' : DataW.trod enc Try.prog W 0 (fun _ => true) true n 22 [v1] = some y1 := g1
  have g2' : DataW.trod enc Try.prog W 0 (fun _ => true) true n 22 [v2] = some y2 := g2
  obtain ⟨q, e2, _⟩ := DataW.trod_bool Try.underlying4 g0'
  injection e2 with e2
  obtain ⟨A, c, zs, rfl, k1⟩ := has_ints1 g1' (fun x hx => hlt x (by simp [hx]))
  obtain ⟨A', c', zs', rfl, k2⟩ := has_ints1 g2' (fun x hx => hlt x (by simp [hx]))
  subst e2
  refine ⟨q, A, c, zs, A', c', zs', ?_, k1, k2⟩
  congr 1
  apply Array.ext'
  rw [hl]
end Go.Proofs.Ythikjknikdacbaa
