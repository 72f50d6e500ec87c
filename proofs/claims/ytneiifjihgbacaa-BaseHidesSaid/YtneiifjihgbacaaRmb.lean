/-
  Contract of the document's Match at whatever length an argument can have: initiators and PDIs by a stack. Condition: the classes take no more than 2^47 bytes.
-/
import Derived.Test.YtneiifjihgbacaaRmch
set_option linter.unusedVariables false
set_option linter.unusedSimpArgs false
namespace Go.Proofs.Ytneiifjihgbacaa
open Go.ChangeShapes Go.WideShapes Go.ChangeAt Go.RowKit

/-- append of one element, and what it leaves as it was -/
theorem wpList_push_big {P : Program} {ops : Array Oper} {rest : List Oper} {o : Oper} {a : Act} {Q : Exit → Act → World → Prop} {k : IntKind} {e : TypeId} {bytes : Nat} (hgd : o.guard = none) (s x : Operand) (t : TypeId)
    (ho : o.op = .call { callee := .builtin .append, args := #[s, x], argTypes := #[t, t] })
    (ht : P.underlying t = some (.slice e)) (hi : (P.info? e).map (fun i => (i.zero, i.size, i.bytes)) = some (some (.int k 0), 1, bytes))
    (B : Nat) (v : Value) (xs : List Int) (y : Int) (wr : World) (hown : Mine k e wr B v xs) (hs : a.eval s = v) (hx : a.eval x = .slice (some ⟨wr.heap.size, 0, none⟩) 1 1)
    (hB : B ≤ wr.heap.size) (hn : xs.length + 1 ≤ 17592186044416) (hb : (xs.length + 1) * bytes ≤ 140737488355328)
    (h : ∀ v' w', Mine k e w' B v' (xs ++ [y]) → Below B wr w' → (∀ b, b < wr.heap.size → v.ownBlock ≠ some b → v'.ownBlock ≠ some b ∧ w'.heap[b]? = wr.heap[b]?) → wpList P ops Q rest (a.put o.dst v') w') : wpList P ops Q (o :: rest) a (wr.alloc (.cells #[.int k y] e)) := by
  obtain ⟨i0, hi', hz0, hz1, hz2⟩ := info_parts hi
  have hown' : (wr.alloc (.cells #[.int k y] e)).ownsRow B e 1 v xs.length (xs.map (Value.int k)) := World.ownsRow.alloc hown _
  refine wpList_append_lies (P := P) _ hgd s x t ho B e i0 (.int k 0) 1 bytes ht hi' hz0 hz1 hz2 rfl (by decide) v xs.length _ hs hown' ⟨wr.heap.size, 0, none⟩ 1 1 [.int k y] hx rfl (push_cell _ _ _) (by intro u hu; simp at hu; subst hu; rfl)
    (by omega) (by unfold maxLen; omega) hb (by simp; omega) _ rfl fun g cap w1 h1 hg hl _ => ?_
  obtain ⟨m1, m2⟩ := pushed hown (Below.refl B wr) hB h1 hg
  refine h _ w1 m1 m2 fun b hb' hne => ⟨?_, ?_⟩
  · intro e1
    have e2 : some g = some b := e1
    injection e2 with e2
    subst e2
    rcases hl with hl | hl
    · exact hne hl
    · simp at hl; omega
  · rw [hg.block b (by simp; omega) (fun e1 => hne e1.symm)]
    exact Below.heap_alloc _ _ _ hb'

set_option maxRecDepth 20000 in
set_option maxHeartbeats 4000000 in
theorem rmatch_big (A : Option Addr) (n c : Nat) (cs : List Int) (w : World) (hn : n = cs.length) (hmax : n ≤ 17592186044416) (h : Has w w.heap.size A (cs.map (Value.int .i64))) :
    Calls Try.prog 13 #[.slice A n c] w fun e w' => ∃ v, e = .returned v ∧ Mine .i64 3 w' w.heap.size v (matL cs) ∧ Below w.heap.size w w' := by
  have HN := Lib.hid hn
  have HH := Lib.hid (fun (W : World) (hb : Below w.heap.size w W) => (h.below hb).more hb.size)
  clear hn h
  go_enter Try.func13, Try.ntmps13
  go_wp2
  go_loopw [3, 4, 5] (fun v3 v4 v5 wr => ∃ k m : Nat, k ≤ n ∧ m ≤ k ∧ v5 = .int .i64 k ∧ Hid ((matS cs k).opn.length = m) ∧ Hid (RMat w (matS cs k).out (matS cs k).opn v3 v4 wr)) (fun _ _ v5 _ => n - (intOf v5).toNat)
  case atStart => exact ⟨0, 0, by omega, by omega, rfl, Lib.hid rfl, Lib.hid ⟨Mine.nil_ _ _ _ _, Mine.nil_ _ _ _ _, apart_nil _, Below.refl _ _⟩⟩
  case round =>
    obtain ⟨k, m, hkn, hmk, rfl, HM, HS⟩ := hrel
    by_cases hlt : k < n
    · have hlt1 : k < cs.length := by have := HN.out; omega
      obtain ⟨b0, o0, hA, hzz1, hzz2⟩ := (HH.out _ HS.out.below).at_int hlt1
      clear hzz1 hzz2
      subst hA
      have HCELL := Lib.hid (fun W (hb : Below w.heap.size w W) => (show W.cell? ⟨b0, o0 + k, none⟩ = some (.int .i64 cs[k]) by
        obtain ⟨b1, o1, hA, _, hcc⟩ := (HH.out _ hb).at_int hlt1
        injection hA with hA; injection hA with e1 e2; subst e1; subst e2
        exact hcc))
      have hx : cs[k]? = some cs[k] := List.getElem?_eq_getElem hlt1
      generalize cs[k] = X at HCELL hx
      have HX1 := Lib.hid hx
      have hol : (matS cs k).out.length = k := (inv_mat cs k).len
      obtain ⟨A3, c3, rfl, hk3⟩ := HS.out.outA hol
      obtain ⟨A4, c4, rfl, hm4⟩ := HS.out.waitA HM.out
      have hout := HS.out.out
      have hBw := HS.out.below.size
      have HPO := Lib.hid (fun W v' h1 h2 h3 => HS.out.pushO (W' := W) (v' := v') (y := -1) h1 h2 h3)
      have HOL : Hid ((matS cs k).out.length + 1 ≤ 17592186044416) := Lib.hid (by omega)
      have HOL2 : Hid (((matS cs k).out ++ [-1]).length = k + 1) := Lib.hid (by rw [List.length_append, hol]; rfl)
      have hbw0 := HS.out.below
      clear hx hlt1 HS hol
      have HOP := Lib.hid (fun W => opens_ok X W)
      by_cases ho : opnC X = true
      · have HE := Lib.hid (sm_open (s := matS cs k) HX1.out ho)
        rw [ho] at HOP
        have HML := Lib.hid (show (ints (matS cs k).opn).length + 1 ≤ 17592186044416 by rw [ints_len, HM.out]; omega)
        generalize hO : (matS cs k).out = O3 at *
        go_wp2_with (first
          | (go_at_call 22; (with_reducible refine (HOP.out _).mono ?_); rintro e u ⟨rfl, rfl⟩)
          | (at_builtin; (refine wpList_push_big (k := .i64) (bytes := 8) rfl _ _ 29 rfl Try.underlying29 fullI w.heap.size (.slice A3 k c3) O3 (-1) _ hout rfl rfl (by omega) (by have := HOL.out; omega) (by have := HOL.out; omega) ?_; intro v3' w3 hM3 hb3 hfar3; have hR := HPO.out _ _ hM3 hb3 hfar3; have hcc := HCELL.out _ (hbw0.trans hb3); have hstk := hR.stk; have hBw3 := hR.below.size; clear hM3 hfar3 HPO hout))
          | (at_builtin; (refine wpList_push_big (k := .i64) (bytes := 8) rfl _ _ 29 rfl Try.underlying29 fullI w.heap.size (.slice A4 m c4) (ints (matS cs k).opn) (k : Int) _ hstk rfl rfl (by omega) (by have := HML.out; omega) (by have := HML.out; omega) ?_; intro v4' w4 hM4 hb4 hfar4)))
        go_roundw
        case rel =>
          have hf := hR.pushS hM4 hb4 hfar4
          have e2 : matS cs (k + 1) = ⟨O3 ++ [-1], (matS cs k).opn ++ [k]⟩ := HE.out
          exact ⟨k + 1, m + 1, by omega, by omega, by go_num, Lib.hid (by rw [e2]; simp [HM.out]), Lib.hid (by rw [e2]; exact hf)⟩
        case measure => simp [intOf] <;> omega
      · have hof : opnC X = false := by simpa using ho
        rw [hof] at HOP
        by_cases hB : X = 11
        · subst hB
          have HE := Lib.hid (sm_b (s := matS cs k) HX1.out)
          generalize hO : (matS cs k).out = O3 at *
          clear ho hof
          go_wp2_with (first
            | (go_at_call 22; (with_reducible refine (HOP.out _).mono ?_); rintro e u ⟨rfl, rfl⟩)
            | (at_builtin; (refine wpList_push_big (k := .i64) (bytes := 8) rfl _ _ 29 rfl Try.underlying29 fullI w.heap.size (.slice A3 k c3) O3 (-1) _ hout rfl rfl (by omega) (by have := HOL.out; omega) (by have := HOL.out; omega) ?_; intro v3' w3 hM3 hb3 hfar3; have hR := HPO.out _ _ hM3 hb3 hfar3; have hcc := HCELL.out _ (hbw0.trans hb3); clear hM3 hfar3 HPO hout)))
          go_roundw
          case rel =>
            have hf := hR.wipe
            have e2 : matS cs (k + 1) = ⟨O3 ++ [-1], []⟩ := HE.out
            exact ⟨k + 1, 0, by omega, by omega, by go_num, Lib.hid (by rw [e2]; rfl), Lib.hid (by rw [e2]; exact hf)⟩
          case measure => simp [intOf] <;> omega
        · have pB : (X == 11) = false := by simpa using hB
          by_cases hp : X = 23 ∧ 0 < m
          · obtain ⟨rfl, hm0⟩ := hp
            obtain ⟨q, rfl⟩ : ∃ q, m = q + 1 := ⟨m - 1, by omega⟩
            obtain ⟨rest, j, hr1, hr2, hjk⟩ := opn_last HM.out
            have HE := Lib.hid (sm_pdi (s := matS cs k) HX1.out hr1)
            rw [hr1] at HPO
            have HR2 := Lib.hid hr2
            generalize hO : (matS cs k).out = O3 at *
            have hjk2 : j ≠ k := by omega
            have hjk3 : k ≠ j := by omega
            clear ho hof hB hr1 hr2
            have hm1 : decide ((0 : Int) < ((q : Int) + 1)) = true := decide_eq_true (by omega)
            go_wp2_with (first
              | (go_at_call 22; (with_reducible refine (HOP.out _).mono ?_); rintro e u ⟨rfl, rfl⟩)
              | (at_builtin; (refine wpList_push_big (k := .i64) (bytes := 8) rfl _ _ 29 rfl Try.underlying29 fullI w.heap.size (.slice A3 k c3) O3 (-1) _ hout rfl rfl (by omega) (by have := HOL.out; omega) (by have := HOL.out; omega) ?_; intro v3' w3 hM3 hb3 hfar3; have hR := HPO.out _ _ hM3 hb3 hfar3; have hcc := HCELL.out _ (hbw0.trans hb3); clear hM3 hfar3 HPO hout; obtain ⟨g3, c3', rfl, hc3⟩ := hR.outB HOL2.out; obtain ⟨g4, c4', hv4, hc4⟩ := hR.waitB (m := q) (by rw [List.length_append, HR2.out]; rfl); injection hv4 with x1 x2 x3; subst x1; subst x3; have hne : g4 ≠ g3 := (fun e => hR.apart g4 rfl (by rw [e]; rfl)); have hne2 : g3 ≠ g4 := (fun e => hne e.symm); have hcj : w3.cell? ⟨g4, q, none⟩ = some (.int .i64 (j : Int)) := (by
                  have := hR.stk.cellAt q (by rw [ints_len, List.length_append, HR2.out]; simp)
                  rw [this]
                  congr 2
                  simp only [ints_snoc]
                  rw [List.getElem_append_right (by rw [ints_len, HR2.out]; omega)]
                  simp [ints_len, HR2.out]); have hf1 := (fun j => hR.out.free j); obtain ⟨z1, hz1⟩ : ∃ z1, w3.cell? ⟨g3, k, none⟩ = some (.int .i64 z1) := ⟨_, hR.out.cellAt k (by rw [HOL2.out]; omega)⟩; obtain ⟨z2, hz2⟩ : ∃ z2, w3.cell? ⟨g3, j, none⟩ = some (.int .i64 z2) := ⟨_, hR.out.cellAt j (by rw [HOL2.out]; omega)⟩)))
            go_roundw
            case rel =>
              have hf := hR.pdi (k := k) HR2.out (by rw [HOL2.out]; omega) (by rw [HOL2.out]; omega)
              have e2 : matS cs (k + 1) = ⟨((O3 ++ [-1]).set k (j : Int)).set j (k : Int), rest⟩ := HE.out
              exact ⟨k + 1, q, by omega, by omega, by go_num, Lib.hid (by rw [e2]; exact HR2.out), Lib.hid (by rw [e2]; exact hf)⟩
            case measure => simp [intOf] <;> omega
          · have HE : Hid (stepM cs (matS cs k) k = ⟨(matS cs k).out ++ [-1], (matS cs k).opn⟩) := Lib.hid (by
              by_cases h23 : X = 23
              · subst h23
                exact sm_pdi0 HX1.out (List.eq_nil_of_length_eq_zero (by rw [HM.out]; omega))
              · exact sm_skip HX1.out hof hB h23)
            have hpp : (X == 23) = false ∨ (X = 23 ∧ m = 0) := by
              by_cases h23 : X = 23
              · exact .inr ⟨h23, by omega⟩
              · exact .inl (by simpa using h23)
            generalize hO : (matS cs k).out = O3 at *
            clear ho hof hB hp
            rcases hpp with hp1 | ⟨rfl, rfl⟩
            all_goals
              go_wp2_with (first
                | (go_at_call 22; (with_reducible refine (HOP.out _).mono ?_); rintro e u ⟨rfl, rfl⟩)
                | (at_builtin; (refine wpList_push_big (k := .i64) (bytes := 8) rfl _ _ 29 rfl Try.underlying29 fullI w.heap.size (.slice A3 k c3) O3 (-1) _ hout rfl rfl (by omega) (by have := HOL.out; omega) (by have := HOL.out; omega) ?_; intro v3' w3 hM3 hb3 hfar3; have hR := HPO.out _ _ hM3 hb3 hfar3; have hcc := HCELL.out _ (hbw0.trans hb3); clear hM3 hfar3 HPO hout)))
              go_roundw
              case rel =>
                have e2 : matS cs (k + 1) = ⟨O3 ++ [-1], (matS cs k).opn⟩ := HE.out
                first
                  | exact ⟨k + 1, 0, by omega, by omega, by go_num, Lib.hid (by rw [e2]; exact HM.out), Lib.hid (by rw [e2]; exact hR)⟩
                  | exact ⟨k + 1, m, by omega, by omega, by go_num, Lib.hid (by rw [e2]; exact HM.out), Lib.hid (by rw [e2]; exact hR)⟩
              case measure => simp [intOf] <;> omega
    · obtain rfl : k = n := by omega
      have ho := HS.out.out
      have hb := HS.out.below
      have hE : matL cs = (matS cs k).out := by unfold matL; rw [← HN.out]
      clear HS
      go_wp2
      go_ret
      exact ⟨_, rfl, by rw [hE]; exact ho, hb⟩


/-- an argument that is a slice of integers takes no more bytes than the reach -/
theorem ints_sized {H : Type} {enc : TypeId × Value → H} {W : World} {t e : TypeId} {k : IntKind} {A : Option Addr} {n c : Nat} {d : DataW H} {p : List MemPlace} {ts : List TypeId} {ds : List (DataW H)} {j : Nat}
    (ht : Try.prog.underlying t = some (.slice e)) (he : Try.prog.underlying e = some (.int k)) (hc : Try.prog.cellsOf e = 1)
    (h : DataW.Trod enc Try.prog W 0 (fun _ => true) true t (.slice A n c) d p)
    (hs : (DataW.weightsEach Try.prog ts ds).all (· ≤ reachBytes) = true) (hts : ts[j]? = some t) (hds : ds[j]? = some d) : n * Try.prog.bytesOf e ≤ reachBytes := by
  obtain ⟨fuel, hf⟩ := h
  rcases open_ints ht he hc hf with ⟨hcs, hx⟩ | ⟨a, len', cap', zs, hcs, _, hl, hm, hz, hx, hcell, hwz⟩
  · simp [Value.cells] at hcs
    obtain ⟨rfl, rfl, rfl⟩ := hcs
    simp
  · simp [Value.cells] at hcs
    obtain ⟨rfl, rfl, rfl⟩ := hcs
    simp only [Prod.mk.injEq] at hx
    obtain ⟨rfl, rfl⟩ := hx
    have h1 := sized_slice hs hts hds ht
    refine Nat.le_trans (Nat.mul_le_mul_right _ ?_) h1
    simp only [if_true] at hz
    simp only [lits, List.length_map, List.length_take, List.length_drop]
    omega

end Go.Proofs.Ytneiifjihgbacaa
