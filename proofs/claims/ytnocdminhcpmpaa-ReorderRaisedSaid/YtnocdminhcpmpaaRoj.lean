/-
  Contracts of the document's Visual, Turns, Logical, Is, and of Same of 01 at two lists that are alike. Condition: at most 1000 levels.
-/
import Derived.Test.YtnocdminhcpmpaaRoi
set_option linter.unusedVariables false
set_option linter.unusedSimpArgs false
namespace Go.Proofs.Ytnocdminhcpmpaa
open Go.ChangeShapes Go.WideShapes Go.ChangeAt Go.RowKit Go.Sort

theorem rvisual_ok (A : Option Addr) (n c : Nat) (xs : List Int) (w : World) (hn : n = xs.length) (hmax : n ≤ 1000) (h : Has w w.heap.size A (xs.map (Value.int .i64))) :
    Calls Try.prog 12 #[.slice A n c] w fun e w' => ∃ v, e = .returned v ∧ Mine .i64 3 w' w.heap.size v (inN (ordX (lvX xs) n)) ∧ Below w.heap.size w w' := by
  have HR := Lib.hid (rrounds_ok A n c xs w hn hmax h)
  clear hn h
  go_enter Try.func12, Try.ntmps12
  go_wp2_with (first
    | (go_at_call 25; (with_reducible refine HR.out.mono ?_); rintro x u ⟨v, rfl, hM, hb⟩))
  go_ret
  exact ⟨_, rfl, hM, hb⟩
theorem rturns_ok (A : Option Addr) (n c : Nat) (xs : List Int) (w : World) (hn : n = xs.length) (hmax : n ≤ 1000) (h : Has w w.heap.size A (xs.map (Value.int .i64))) :
    Calls Try.prog 19 #[.slice A n c] w fun e w' => e = .returned (.int .i64 (trnX (lvX xs) n : Int)) ∧ Below w.heap.size w w' := by
  have HR := Lib.hid (rrounds_ok A n c xs w hn hmax h)
  clear hn h
  go_enter Try.func19, Try.ntmps19
  go_wp2_with (first
    | (go_at_call 25; (with_reducible refine HR.out.mono ?_); rintro x u ⟨v, rfl, hM, hb⟩))
  go_ret
  exact ⟨rfl, hb⟩
set_option maxRecDepth 20000 in
set_option maxHeartbeats 4000000 in
theorem rlogical_ok (A : Option Addr) (n c : Nat) (xs : List Int) (w : World) (hn : n = xs.length) (hmax : n ≤ 1000) (h : Has w w.heap.size A (xs.map (Value.int .i64))) :
    Calls Try.prog 14 #[.slice A n c] w fun e w' => ∃ v, e = .returned v ∧ Mine .i64 3 w' w.heap.size v (putK n (ordX (lvX xs) n) n) ∧ Below w.heap.size w w' := by
  have HV := Lib.hid (rvisual_ok A n c xs w hn hmax h)
  have HMK := fun W => run_made n hmax W
  have HG := Lib.hid (fun k h => ord_get (lvX xs) n k h)
  have HLT := Lib.hid (fun k h => ord_getlt (lvX xs) n k h)
  have HOL := Lib.hid (ord_len (lvX xs) n)
  generalize ordX (lvX xs) n = O at *
  clear h hn
  go_enter Try.func14, Try.ntmps14
  go_wp2_with (first
    | (go_at_call 12; (with_reducible refine HV.out.mono ?_); rintro x z0 ⟨v, rfl, m0, b0⟩; obtain ⟨A2, c2, rfl, hc2, _, _⟩ := m0.size; rw [inN_len, HOL.out] at *))
  have hm1 := mine_zero (w := z0) (n := n) hmax
  have HM0 : Hid (LogS w w.heap.size (z0.alloc (.cells (madeCells #[Value.int .i64 0] n) 3)) (.slice (some ⟨z0.heap.size, 0, none⟩) n n) (.slice A2 n c2) n O 0) := Lib.hid (by
    have hb1 : Below z0.heap.size z0 (z0.alloc (.cells (madeCells #[Value.int .i64 0] n) 3)) := (Below.refl _ _).alloc (Nat.le_refl _) _
    refine ⟨hm1.low b0.size, m0.stays fun b _ hlt => hb1.block b hlt, fun b hb e => ?_, b0.trans (hb1.mono b0.size)⟩
    have h1 : some z0.heap.size = some b := hb
    injection h1 with h1
    have h2 := (m0.own_lt b e).2
    omega)
  have hsz := b0.size
  clear hm1 m0 b0 HV hc2 HMK
  obtain ⟨G, hG⟩ : ∃ G, z0.heap.size = G := ⟨_, rfl⟩
  rw [hG] at HM0
  simp only [hG]
  go_loopw [5] (fun v wr => ∃ k : Nat, k ≤ n ∧ v = .int .i64 k ∧ Hid (LogS w w.heap.size wr (.slice (some ⟨G, 0, none⟩) n n) (.slice A2 n c2) n O k)) (fun v _ => n - (intOf v).toNat)
  case atStart => exact ⟨0, by omega, rfl, HM0⟩
  case round =>
    clear HM0
    obtain ⟨k, hkn, rfl, HM⟩ := hrel
    by_cases hlt : k < n
    · have hx := HG.out k hlt
      have hxn := HLT.out k hlt
      generalize O.getD k 0 = x at *
      obtain ⟨g, y, hgg, hc, hf, hS⟩ := HM.out.step hx hxn
      injection hgg with hgg
      injection hgg with hgg
      subst hgg
      have hv := HM.out.ord.spot (inN_get O k x hx)
      obtain ⟨g2, rfl, _, _, hc2, _, _⟩ := hv
      have HS := Lib.hid hS
      clear hS HM hx
      go_wp2
      go_roundw
      case rel => exact ⟨k + 1, by omega, by go_num, HS⟩
      case measure => simp [intOf] <;> omega
    · obtain rfl : k = n := by omega
      go_wp2
      go_ret
      exact ⟨_, rfl, HM.out.pls, HM.out.bel⟩
set_option maxRecDepth 20000 in
set_option maxHeartbeats 4000000 in
theorem ris_ok (A : Option Addr) (n c : Nat) (xs : List Int) (w : World) (hn : n = xs.length) (hmax : n ≤ 1000) (h : Has w w.heap.size A (xs.map (Value.int .i64))) :
    Calls Try.prog 21 #[.slice A n c] w fun e w' => e = .returned (.bool (isP xs)) ∧ w = w' := by
  have HN := Lib.hid hn
  have HH := Lib.hid h
  obtain ⟨r, hr⟩ : ∃ r, isP xs = r := ⟨_, rfl⟩
  have HP := Lib.hid hr
  rw [hr]
  clear h hn hr
  go_enter Try.func21, Try.ntmps21
  go_wp2
  go_loopw [3] (fun v wr => ∃ i : Nat, i ≤ n ∧ v = .int .i64 i ∧ Hid (∀ j : Nat, j < i → (j : Int) ∈ xs) ∧ wr = w) (fun v _ => n - (intOf v).toNat)
  case atStart => exact ⟨0, by omega, rfl, Lib.hid (fun j hj => by omega), rfl⟩
  case round =>
    obtain ⟨i, hin, rfl, HJ, rfl⟩ := hrel
    by_cases hlt : i < n
    · have hiz : ((i : Int) < (n : Int)) := by omega
      obtain ⟨W3, hW3⟩ : ∃ W, W = wr := ⟨_, rfl⟩
      have HW3 := Lib.hid hW3
      go_wp2
      go_loopw [4, 5] (fun v4 v5 wr => ∃ (k : Nat) (b : Bool), k ≤ n ∧ v5 = .int .i64 k ∧ v4 = .bool b ∧ Hid (b = decide ((i : Int) ∈ xs.take k)) ∧ wr = W3) (fun _ v _ => n - (intOf v).toNat)
      case atStart => exact ⟨0, false, by omega, rfl, rfl, Lib.hid (by simp), hW3.symm⟩
      case round =>
        clear hW3
        obtain ⟨k, b, hkn, rfl, rfl, HB, rfl⟩ := hrel
        have HH2 : Hid (Has wr wr.heap.size A (xs.map (Value.int .i64))) := Lib.hid (by have := HH.out; rw [← HW3.out] at this; exact this)
        by_cases hlt2 : k < n
        · have hk1 : k < xs.length := by have := HN.out; omega
          obtain ⟨b0, o0, rfl, hb0, hcc⟩ := HH2.out.at_int hk1
          have ht : xs.take (k + 1) = xs.take k ++ [xs[k]] := by rw [List.take_add_one, List.getElem?_eq_getElem hk1]; rfl
          generalize xs[k] = X at *
          by_cases hX : X = (i : Int)
          · have HB2 : Hid (true = decide ((i : Int) ∈ xs.take (k + 1))) := Lib.hid (by rw [ht, hX]; simp)
            subst hX
            clear ht hk1 HB
            go_wp2
            go_roundw
            case rel => exact ⟨k + 1, true, by omega, by go_num, rfl, HB2, by trivial⟩
            case measure => simp [intOf] <;> omega
          · have HB2 : Hid (b = decide ((i : Int) ∈ xs.take (k + 1))) := Lib.hid (by
              rw [ht, HB.out, decide_eq_decide, List.mem_append]
              constructor
              · exact .inl
              · rintro (h | h)
                · exact h
                · simp at h; exact absurd h.symm hX)
            clear ht hk1 HB
            go_wp2
            go_roundw
            case rel => exact ⟨k + 1, b, by omega, by go_num, rfl, HB2, by trivial⟩
            case measure => simp [intOf] <;> omega
        · obtain rfl : k = n := by omega
          have hB := HB.out
          rw [List.take_of_length_le (by have := HN.out; omega)] at hB
          cases b with
          | true =>
            have HJ2 : Hid (∀ j : Nat, j < i + 1 → (j : Int) ∈ xs) := Lib.hid (fun j hj => by
              by_cases e : j = i
              · subst e; exact of_decide_eq_true hB.symm
              · exact HJ.out j (by omega))
            clear HB hB HJ
            go_wp2
            go_roundw
            case rel => exact ⟨i + 1, by omega, by go_num, HJ2, by first | exact HW3.out | exact HW3.out.symm⟩
            case measure => simp [intOf] <;> omega
          | false =>
            have hp : r = false := by
              rw [← HP.out]
              cases hq : isP xs with
              | false => rfl
              | true =>
                exfalso
                have := isP_true.1 hq i (by have := HN.out; omega)
                exact of_decide_eq_false hB.symm this
            clear HB hB HJ
            go_wp2
            go_ret
            exact ⟨by first | rfl | (rw [hp]; rfl), by first | exact HW3.out.symm | exact HW3.out | rfl⟩
    · obtain rfl : i = n := by omega
      have hp : r = true := by
        rw [← HP.out, isP_true]
        intro j hj
        exact HJ.out j (by have := HN.out; omega)
      clear HJ
      go_wp2
      go_ret
      exact ⟨by first | rfl | (rw [hp]; rfl), rfl⟩
/-- two lists that are alike -/
theorem same1_ok (A B : Option Addr) (c d n : Nat) (xs : List Int) (w : World) (hnx : n = xs.length) (hn : n ≤ 1000000) (h1 : Has w w.heap.size A (xs.map (Value.int .i64))) (h2 : Has w w.heap.size B (xs.map (Value.int .i64))) :
    Calls Try.prog 10 #[.slice A n c, .slice B n d] w fun e w' => e = .returned (.bool true) ∧ ∃ q, w' = w.drewN q := by
  have HN := Lib.hid hnx
  clear hnx
  go_enter Try.func10, Try.ntmps10
  go_wp2
  go_loopw [5] (fun i wr => ∃ k : Nat, k ≤ n ∧ i = .int .i64 k ∧ ∃ q, wr = w.drewN q) (fun i _ => n - (intOf i).toNat)
  case atStart => exact ⟨0, by omega, rfl, 0, rfl⟩
  case round =>
    obtain ⟨k, hk, rfl, q, rfl⟩ := hrel
    by_cases hlt : k < n
    · have hlt2 : k < xs.length := by rw [← HN.out]; exact hlt
      obtain ⟨b, off, rfl, hb, hc⟩ := h1.at_int hlt2
      obtain ⟨b2, off2, rfl, hb2, hc2⟩ := h2.at_int hlt2
      generalize xs[k] = X at hc hc2
      clear h1 h2
      go_wp2
      go_quiet (fail)
      go_wp2
      go_roundw
      case rel => exact ⟨k + 1, by omega, by go_num, _, rfl⟩
      case measure => simp [intOf] <;> omega
    · obtain rfl : k = n := by omega
      go_wp2
      go_ret
      exact ⟨rfl, _, rfl⟩
end Go.Proofs.Ytnocdminhcpmpaa
