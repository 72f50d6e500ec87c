/-
  Contract of the document's Match: initiators and PDIs by a stack. Condition: at most 1000 classes.
-/
import Derived.Test.YtjdkpnmejkbkiaaMch
set_option linter.unusedVariables false
set_option linter.unusedSimpArgs false
namespace Go.Proofs.Ytjdkpnmejkbkiaa
open Go.ChangeShapes Go.WideShapes Go.ChangeAt Go.RowKit

/-- two slices of the call's own that lie apart: what is matched, what waits -/
structure RMat (w : World) (o : List Int) (s : List Nat) (v3 v4 : Value) (W : World) : Prop where
  out : Mine .i64 3 W w.heap.size v3 o
  stk : Mine .i64 3 W w.heap.size v4 (ints s)
  apart : Apart v4 v3
  below : Below w.heap.size w W
section
variable {w : World} {o : List Int} {s : List Nat} {v3 v4 v' : Value} {W W' : World}
theorem RMat.pushO {y : Int} (h : RMat w o s v3 v4 W) (hM : Mine .i64 3 W' w.heap.size v' (o ++ [y])) (hb : Below w.heap.size W W') (hfar : ∀ b, b < W.heap.size → v3.ownBlock ≠ some b → v'.ownBlock ≠ some b ∧ W'.heap[b]? = W.heap[b]?) : RMat w (o ++ [y]) s v' v4 W' :=
  ⟨hM, h.stk.stays fun b h1 h2 => (hfar b h2 (h.apart b h1)).2, fun b h1 => (hfar b (h.stk.own_lt b h1).2 (h.apart b h1)).1, h.below.trans hb⟩
theorem RMat.pushS {x : Nat} (h : RMat w o s v3 v4 W) (hM : Mine .i64 3 W' w.heap.size v' (ints s ++ [(x : Int)])) (hb : Below w.heap.size W W') (hfar : ∀ b, b < W.heap.size → v4.ownBlock ≠ some b → v'.ownBlock ≠ some b ∧ W'.heap[b]? = W.heap[b]?) : RMat w o (s ++ [x]) v3 v' W' :=
  ⟨h.out.stays fun b h1 h2 => (hfar b h2 (fun e => h.apart b e h1)).2, by rw [ints_snoc]; exact hM, fun b h1 h2 => (hfar b (h.out.own_lt b h2).2 (fun e => h.apart b e h2)).1 h1, h.below.trans hb⟩
theorem RMat.wipe (h : RMat w o s v3 v4 W) : RMat w o [] v3 (.slice none 0 0) W := ⟨h.out, Mine.nil_ _ _ _ _, apart_nil _, h.below⟩
theorem RMat.outA (h : RMat w o s v3 v4 W) {k : Nat} (hk : o.length = k) : ∃ A c, v3 = .slice A k c ∧ k ≤ c := by
  obtain ⟨A, c, h1, h2, _⟩ := h.out.size
  rw [hk] at h1 h2
  exact ⟨A, c, h1, h2⟩
theorem RMat.waitA (h : RMat w o s v3 v4 W) {m : Nat} (hm : s.length = m) : ∃ A c, v4 = .slice A m c ∧ m ≤ c := by
  obtain ⟨A, c, h1, h2, _⟩ := h.stk.size
  rw [ints_len, hm] at h1 h2
  exact ⟨A, c, h1, h2⟩
theorem RMat.outB (h : RMat w o s v3 v4 W) {k : Nat} (hk : o.length = k + 1) : ∃ g c, v3 = .slice (some ⟨g, 0, none⟩) (k + 1) c ∧ k + 1 ≤ c := by
  obtain ⟨g, c, h1, h2, _⟩ := h.out.formB (by omega)
  rw [hk] at h1 h2
  exact ⟨g, c, h1, h2⟩
theorem RMat.waitB (h : RMat w o s v3 v4 W) {m : Nat} (hm : s.length = m + 1) : ∃ g c, v4 = .slice (some ⟨g, 0, none⟩) (m + 1) c ∧ m + 1 ≤ c := by
  obtain ⟨g, c, h1, h2, _⟩ := h.stk.formB (by rw [ints_len]; omega)
  rw [ints_len, hm] at h1 h2
  exact ⟨g, c, h1, h2⟩
theorem RMat.pdi {q g3 n3 c3 g4 c4 j k : Nat} {rest : List Nat} (h : RMat w o (rest ++ [j]) (.slice (some ⟨g3, 0, none⟩) n3 c3) (.slice (some ⟨g4, 0, none⟩) (q + 1) c4) W) (hq : rest.length = q) (hk : k < o.length) (hj : j < o.length) :
    RMat w ((o.set k (j : Int)).set j (k : Int)) rest (.slice (some ⟨g3, 0, none⟩) n3 c3) (.slice (some ⟨g4, 0, none⟩) q c4) ((W.setCell ⟨g3, k, none⟩ (.int .i64 (j : Int))).setCell ⟨g3, j, none⟩ (.int .i64 (k : Int))) := by
  have hg3 := h.out.own_lt g3 rfl
  have hne : g4 ≠ g3 := fun e => h.apart g4 rfl (by rw [e]; rfl)
  refine ⟨(h.out.set k hk _).set j (by rw [List.length_set]; exact hj) _, ?_, fun b hb e => h.apart b hb e, (h.below.setCell hg3.1 _).setCell hg3.1 _⟩
  have h1 := h.stk.cut (q := q) (by rw [ints_len, List.length_append, hq]; simp)
  rw [← ints_take, List.take_left' hq] at h1
  refine h1.stays fun b hb hlt => ?_
  have hb2 : some g4 = some b := hb
  injection hb2 with hb2
  subst hb2
  rw [Below.heap_setCell _ _ _ _ hne, Below.heap_setCell _ _ _ _ hne]
end
theorem opn_last {cs : List Int} {k q : Nat} (hl : (matS cs k).opn.length = q + 1) : ∃ rest j, (matS cs k).opn = rest ++ [j] ∧ rest.length = q ∧ j < k := by
  have hne : (matS cs k).opn ≠ [] := fun e => by rw [e] at hl; simp at hl
  exact ⟨(matS cs k).opn.dropLast, (matS cs k).opn.getLast hne, (List.dropLast_concat_getLast hne).symm, by rw [List.length_dropLast, hl]; omega, ((inv_mat cs k).stk_lt _ (List.getLast_mem hne)).1⟩

set_option maxRecDepth 20000 in
set_option maxHeartbeats 4000000 in
theorem rmatch_ok (A : Option Addr) (n c : Nat) (cs : List Int) (w : World) (hn : n = cs.length) (hmax : n ≤ 1000) (h : Has w w.heap.size A (cs.map (Value.int .i64))) :
    Calls Try.prog 18 #[.slice A n c] w fun e w' => ∃ v, e = .returned v ∧ Mine .i64 3 w' w.heap.size v (matL cs) ∧ Below w.heap.size w w' := by
  have HN := Lib.hid hn
  have HH := Lib.hid (fun (W : World) (hb : Below w.heap.size w W) => (h.below hb).more hb.size)
  clear hn h
  go_enter Try.func18, Try.ntmps18
  go_wp2
  go_loopw [3, 4, 5] (fun v3 v4 v5 wr => ∃ k m : Nat, k ≤ n ∧ m ≤ k ∧ v5 = .int .i64 k ∧ Hid ((matS cs k).opn.length = m) ∧ Hid (RMat w (matS cs k).out (matS cs k).opn v3 v4 wr)) (fun _ _ v5 _ => n - (intOf v5).toNat)
  case atStart => exact ⟨0, 0, by omega, by omega, rfl, Lib.hid rfl, Lib.hid ⟨Mine.nil_ _ _ _ _, Mine.nil_ _ _ _ _, apart_nil _, Below.refl _ _⟩⟩
  case round =>
    obtain ⟨k, m, hkn, hmk, rfl, HM, HS⟩ := hrel
    by_cases hlt : k < n
    · have hlt1 : k < cs.length := by have := HN.out; omega
      obtain ⟨b0, o0, hA, hzz1, hzz2⟩ := (HH.out _ HS.out.below).at_int hlt1
      clear hzz1 hzz2
      subst hA
      have HCELL := Lib.hid (fun W (hb : Below w.heap.size w W) => (show W.cell? ⟨b0, o0 + k, none⟩ = some (.int .i64 cs[k]) by
        obtain ⟨b1, o1, hA, _, hcc⟩ := (HH.out _ hb).at_int hlt1
        injection hA with hA; injection hA with e1 e2; subst e1; subst e2
        exact hcc))
      have hx : cs[k]? = some cs[k] := List.getElem?_eq_getElem hlt1
      generalize cs[k] = X at HCELL hx
      have HX1 := Lib.hid hx
      have hol : (matS cs k).out.length = k := (inv_mat cs k).len
      obtain ⟨A3, c3, rfl, hk3⟩ := HS.out.outA hol
      obtain ⟨A4, c4, rfl, hm4⟩ := HS.out.waitA HM.out
      have hout := HS.out.out
      have hBw := HS.out.below.size
      have HPO := Lib.hid (fun W v' h1 h2 h3 => HS.out.pushO (W' := W) (v' := v') (y := -1) h1 h2 h3)
      have HOL : Hid ((matS cs k).out.length ≤ 1000) := Lib.hid (by omega)
      have HOL2 : Hid (((matS cs k).out ++ [-1]).length = k + 1) := Lib.hid (by rw [List.length_append, hol]; rfl)
      have hbw0 := HS.out.below
      clear hx hlt1 HS hol
      have HOP := Lib.hid (fun W => opens_ok X W)
      by_cases ho : opnC X = true
      · have HE := Lib.hid (sm_open (s := matS cs k) HX1.out ho)
        rw [ho] at HOP
        have HML := Lib.hid (show (ints (matS cs k).opn).length ≤ 1000 by rw [ints_len, HM.out]; omega)
        generalize hO : (matS cs k).out = O3 at *
        go_wp2_with (first
          | (go_at_call 39; (with_reducible refine (HOP.out _).mono ?_); rintro e u ⟨rfl, rfl⟩)
          | (at_builtin; (refine wpList_push_far (k := .i64) (bytes := 8) rfl _ _ 22 rfl Try.underlying22 fullI (by decide) w.heap.size (.slice A3 k c3) O3 (-1) _ hout rfl rfl (by omega) (by have := HOL.out; omega) ?_; intro v3' w3 hM3 hb3 hfar3; have hR := HPO.out _ _ hM3 hb3 hfar3; have hcc := HCELL.out _ (hbw0.trans hb3); have hstk := hR.stk; have hBw3 := hR.below.size; clear hM3 hfar3 HPO hout))
          | (at_builtin; (refine wpList_push_far (k := .i64) (bytes := 8) rfl _ _ 22 rfl Try.underlying22 fullI (by decide) w.heap.size (.slice A4 m c4) (ints (matS cs k).opn) (k : Int) _ hstk rfl rfl (by omega) (by have := HML.out; omega) ?_; intro v4' w4 hM4 hb4 hfar4)))
        go_roundw
        case rel =>
          have hf := hR.pushS hM4 hb4 hfar4
          have e2 : matS cs (k + 1) = ⟨O3 ++ [-1], (matS cs k).opn ++ [k]⟩ := HE.out
          exact ⟨k + 1, m + 1, by omega, by omega, by go_num, Lib.hid (by rw [e2]; simp [HM.out]), Lib.hid (by rw [e2]; exact hf)⟩
        case measure => simp [intOf] <;> omega
      · have hof : opnC X = false := by simpa using ho
        rw [hof] at HOP
        by_cases hB : X = 11
        · subst hB
          have HE := Lib.hid (sm_b (s := matS cs k) HX1.out)
          generalize hO : (matS cs k).out = O3 at *
          clear ho hof
          go_wp2_with (first
            | (go_at_call 39; (with_reducible refine (HOP.out _).mono ?_); rintro e u ⟨rfl, rfl⟩)
            | (at_builtin; (refine wpList_push_far (k := .i64) (bytes := 8) rfl _ _ 22 rfl Try.underlying22 fullI (by decide) w.heap.size (.slice A3 k c3) O3 (-1) _ hout rfl rfl (by omega) (by have := HOL.out; omega) ?_; intro v3' w3 hM3 hb3 hfar3; have hR := HPO.out _ _ hM3 hb3 hfar3; have hcc := HCELL.out _ (hbw0.trans hb3); clear hM3 hfar3 HPO hout)))
          go_roundw
          case rel =>
            have hf := hR.wipe
            have e2 : matS cs (k + 1) = ⟨O3 ++ [-1], []⟩ := HE.out
            exact ⟨k + 1, 0, by omega, by omega, by go_num, Lib.hid (by rw [e2]; rfl), Lib.hid (by rw [e2]; exact hf)⟩
          case measure => simp [intOf] <;> omega
        · have pB : (X == 11) = false := by simpa using hB
          by_cases hp : X = 23 ∧ 0 < m
          · obtain ⟨rfl, hm0⟩ := hp
            obtain ⟨q, rfl⟩ : ∃ q, m = q + 1 := ⟨m - 1, by omega⟩
            obtain ⟨rest, j, hr1, hr2, hjk⟩ := opn_last HM.out
            have HE := Lib.hid (sm_pdi (s := matS cs k) HX1.out hr1)
            rw [hr1] at HPO
            have HR2 := Lib.hid hr2
            generalize hO : (matS cs k).out = O3 at *
            have hjk2 : j ≠ k := by omega
            have hjk3 : k ≠ j := by omega
            clear ho hof hB hr1 hr2
            have hm1 : decide ((0 : Int) < ((q : Int) + 1)) = true := decide_eq_true (by omega)
            go_wp2_with (first
              | (go_at_call 39; (with_reducible refine (HOP.out _).mono ?_); rintro e u ⟨rfl, rfl⟩)
              | (at_builtin; (refine wpList_push_far (k := .i64) (bytes := 8) rfl _ _ 22 rfl Try.underlying22 fullI (by decide) w.heap.size (.slice A3 k c3) O3 (-1) _ hout rfl rfl (by omega) (by have := HOL.out; omega) ?_; intro v3' w3 hM3 hb3 hfar3; have hR := HPO.out _ _ hM3 hb3 hfar3; have hcc := HCELL.out _ (hbw0.trans hb3); clear hM3 hfar3 HPO hout; obtain ⟨g3, c3', rfl, hc3⟩ := hR.outB HOL2.out; obtain ⟨g4, c4', hv4, hc4⟩ := hR.waitB (m := q) (by rw [List.length_append, HR2.out]; rfl); injection hv4 with x1 x2 x3; subst x1; subst x3; have hne : g4 ≠ g3 := (fun e => hR.apart g4 rfl (by rw [e]; rfl)); have hne2 : g3 ≠ g4 := (fun e => hne e.symm); have hcj : w3.cell? ⟨g4, q, none⟩ = some (.int .i64 (j : Int)) := (by
                  have := hR.stk.cellAt q (by rw [ints_len, List.length_append, HR2.out]; simp)
                  rw [this]
                  congr 2
                  simp only [ints_snoc]
                  rw [List.getElem_append_right (by rw [ints_len, HR2.out]; omega)]
                  simp [ints_len, HR2.out]); have hf1 := (fun j => hR.out.free j); obtain ⟨z1, hz1⟩ : ∃ z1, w3.cell? ⟨g3, k, none⟩ = some (.int .i64 z1) := ⟨_, hR.out.cellAt k (by rw [HOL2.out]; omega)⟩; obtain ⟨z2, hz2⟩ : ∃ z2, w3.cell? ⟨g3, j, none⟩ = some (.int .i64 z2) := ⟨_, hR.out.cellAt j (by rw [HOL2.out]; omega)⟩)))
            go_roundw
            case rel =>
              have hf := hR.pdi (k := k) HR2.out (by rw [HOL2.out]; omega) (by rw [HOL2.out]; omega)
              have e2 : matS cs (k + 1) = ⟨((O3 ++ [-1]).set k (j : Int)).set j (k : Int), rest⟩ := HE.out
              exact ⟨k + 1, q, by omega, by omega, by go_num, Lib.hid (by rw [e2]; exact HR2.out), Lib.hid (by rw [e2]; exact hf)⟩
            case measure => simp [intOf] <;> omega
          · have HE : Hid (stepM cs (matS cs k) k = ⟨(matS cs k).out ++ [-1], (matS cs k).opn⟩) := Lib.hid (by
              by_cases h23 : X = 23
              · subst h23
                exact sm_pdi0 HX1.out (List.eq_nil_of_length_eq_zero (by rw [HM.out]; omega))
              · exact sm_skip HX1.out hof hB h23)
            have hpp : (X == 23) = false ∨ (X = 23 ∧ m = 0) := by
              by_cases h23 : X = 23
              · exact .inr ⟨h23, by omega⟩
              · exact .inl (by simpa using h23)
            generalize hO : (matS cs k).out = O3 at *
            clear ho hof hB hp
            rcases hpp with hp1 | ⟨rfl, rfl⟩
            all_goals
              go_wp2_with (first
                | (go_at_call 39; (with_reducible refine (HOP.out _).mono ?_); rintro e u ⟨rfl, rfl⟩)
                | (at_builtin; (refine wpList_push_far (k := .i64) (bytes := 8) rfl _ _ 22 rfl Try.underlying22 fullI (by decide) w.heap.size (.slice A3 k c3) O3 (-1) _ hout rfl rfl (by omega) (by have := HOL.out; omega) ?_; intro v3' w3 hM3 hb3 hfar3; have hR := HPO.out _ _ hM3 hb3 hfar3; have hcc := HCELL.out _ (hbw0.trans hb3); clear hM3 hfar3 HPO hout)))
              go_roundw
              case rel =>
                have e2 : matS cs (k + 1) = ⟨O3 ++ [-1], (matS cs k).opn⟩ := HE.out
                first
                  | exact ⟨k + 1, 0, by omega, by omega, by go_num, Lib.hid (by rw [e2]; exact HM.out), Lib.hid (by rw [e2]; exact hR)⟩
                  | exact ⟨k + 1, m, by omega, by omega, by go_num, Lib.hid (by rw [e2]; exact HM.out), Lib.hid (by rw [e2]; exact hR)⟩
              case measure => simp [intOf] <;> omega
    · obtain rfl : k = n := by omega
      have ho := HS.out.out
      have hb := HS.out.below
      have hE : matL cs = (matS cs k).out := by unfold matL; rw [← HN.out]
      clear HS
      go_wp2
      go_ret
      exact ⟨_, rfl, by rw [hE]; exact ho, hb⟩
end Go.Proofs.Ytjdkpnmejkbkiaa
