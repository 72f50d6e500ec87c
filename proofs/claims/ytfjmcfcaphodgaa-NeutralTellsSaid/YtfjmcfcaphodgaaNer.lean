/-
  Contract: the document's Neutral (two loops inside one, each left at the first sign that is not neutral). Condition: at most 1000 classes.
-/
import Derived.Test.YtfjmcfcaphodgaaNei
set_option linter.unusedVariables false
set_option linter.unusedSimpArgs false
namespace Go.Proofs.Ytfjmcfcaphodgaa
open Go.ChangeShapes Go.WideShapes Go.ChangeAt Go.RowKit Go.Sort

set_option maxRecDepth 20000 in
set_option maxHeartbeats 8000000 in
theorem rneutral_ok (A : Option Addr) (n c : Nat) (level s e : Int) (cs : List Int) (w : World) (hn : n = cs.length) (hmax : n ≤ 1000) (h : Has w w.heap.size A (cs.map (Value.int .i64))) :
    Calls Try.prog 10 #[.slice A n c, .int .i64 level, .int .i64 s, .int .i64 e] w fun x w' => ∃ v, x = .returned v ∧ Mine .i64 3 w' w.heap.size v (nuL cs level s e) ∧ Below w.heap.size w w' := by
  have HH := Lib.hid (fun (W : World) (hb : Below w.heap.size w W) => (h.below hb).more hb.size)
  have HN := Lib.hid hn
  have HMK := fun W => run_make_row' (P := Try.prog) 22 3 (.int .i64 0) 8 Try.underlying22 fullI rfl .i64 .i64 n (by omega) (by omega) W
  obtain ⟨F, hF⟩ : ∃ F : Nat → Int, nuAt cs level s e = F := ⟨_, rfl⟩
  have HFE : Hid (∀ j, F j = oneN level (lastN (edgeN s) (cs.take j)) (firstN (edgeN e) (cs.drop (j + 1))) (cs.getD j 0)) := Lib.hid fun j => by rw [← hF]; rfl
  have HR : Hid (madeF F n n = nuL cs level s e) := Lib.hid (by rw [madeF_end, hn, ← hF]; rfl)
  have hm := mine_made (w := w) F hmax
  have HM0 := Lib.hid (And.intro hm ((Below.refl w.heap.size w).alloc (Nat.le_refl _) (.cells (madeCells #[Value.int .i64 0] n) 3)))
  have HS := Lib.hid (fun W => redge_ok s W)
  have HE := Lib.hid (fun W => redge_ok e W)
  have HEM := Lib.hid (fun W => rembed_ok level W)
  obtain ⟨ee, hee⟩ : ∃ ee, edgeN e = ee := ⟨_, rfl⟩
  obtain ⟨ss, hss⟩ : ∃ ss, edgeN s = ss := ⟨_, rfl⟩
  rw [hss] at HS HFE
  rw [hee] at HE HFE
  clear hn h hF hm hee hss
  go_enter Try.func10, Try.ntmps10
  go_wp2
  obtain ⟨W0, hW0⟩ : ∃ W0, w.alloc (.cells (madeCells #[Value.int .i64 0] n) 3) = W0 := ⟨_, rfl⟩
  obtain ⟨G, hG⟩ : ∃ G, w.heap.size = G := ⟨_, rfl⟩
  rw [hW0, hG] at HM0
  simp only [hW0, hG]
  rw [hG] at HH
  have HG := Lib.hid hG
  clear hW0 HMK hG
  go_loopw [10] (fun v wr => ∃ k : Nat, k ≤ n ∧ v = .int .i64 k ∧ Hid (Mine .i64 3 wr G (.slice (some ⟨G, 0, none⟩) n n) (madeF F n k) ∧ Below G w wr)) (fun v _ => n - (intOf v).toNat)
  case atStart => exact ⟨0, by omega, rfl, HM0⟩
  case round =>
    clear HM0
    obtain ⟨i, hin, rfl, HM⟩ := hrel
    by_cases hlt : i < n
    · have hk1 : i < cs.length := by have := HN.out; omega
      obtain ⟨b0, o0, rfl, hb0, hcc⟩ := (HH.out _ HM.out.2).at_int hk1
      have hgd : cs[i] = cs.getD i 0 := by rw [List.getD_eq_getElem?_getD, List.getElem?_eq_getElem hk1]; rfl
      rw [hgd] at hcc
      obtain ⟨g, eg, hB, hg, hc, hf, hs⟩ := HM.out.1.spot (madeF_at F n i hlt)
      injection eg with eg
      injection eg with eg
      subst eg
      have hfk := HFE.out i
      have ht := fun a b => HM.out.1.twice (madeF_at F n i hlt) a b
      have hbl := fun b => HM.out.2.setCell (p := ⟨G, i, none⟩) hB b
      have hbl2 := fun a b => (HM.out.2.setCell (p := ⟨G, i, none⟩) hB a).setCell (p := ⟨G, i, none⟩) hB b
      have HN0 := Lib.hid (fun W => neutral1_ok (cs.getD i 0) W)
      cases hx : neuC (cs.getD i 0) with
      | false =>
        rw [hx] at HN0
        have hz := hs (F i)
        rw [madeF_step F n i hlt] at hz
        unfold oneN at hfk
        rw [if_neg (by rw [hx]; decide)] at hfk
        rw [hfk] at hz
        have HZ := Lib.hid (And.intro hz (hbl (.int .i64 (cs.getD i 0))))
        have hcc2 : (wr.setCell ⟨G, i, none⟩ (.int .i64 (cs.getD i 0))).cell? ⟨b0, o0 + i, none⟩ = some (.int .i64 (cs.getD i 0)) := by
          obtain ⟨b1, o1, e1, _, hcx⟩ := (HH.out _ HZ.out.2).at_int hk1
          injection e1 with e1
          injection e1 with e1 e2
          subst e1; subst e2
          rw [hgd] at hcx
          exact hcx
        generalize cs.getD i 0 = X at *
        clear hs hz hgd hk1 hb0 HM hB hg ht hbl hbl2 hfk hx
        go_wp2_with (first
          | (go_at_call 13; (with_reducible refine (HN0.out _).mono ?_); rintro x u ⟨rfl, rfl⟩))
        go_roundw
        case rel => exact ⟨i + 1, by omega, by go_num, HZ⟩
        case measure => simp [intOf] <;> omega
      | true =>
        rw [hx] at HN0
        unfold oneN at hfk
        rw [if_pos hx] at hfk
        have HFN := Lib.hid hfk
        obtain ⟨X, hX⟩ : ∃ X, cs.getD i 0 = X := ⟨_, rfl⟩
        obtain ⟨W1, hW1⟩ : ∃ W1, wr.setCell ⟨G, i, none⟩ (.int .i64 X) = W1 := ⟨_, rfl⟩
        have hB1 := hbl (.int .i64 X)
        rw [hW1] at hB1
        have HCL : Hid (∀ q, q < n → W1.cell? ⟨b0, o0 + q, none⟩ = some (.int .i64 (cs.getD q 0))) := Lib.hid (fun q hq => by
          obtain ⟨b1, o1, e1, _, hcx⟩ := (HH.out _ hB1).at_int (k := q) (by have := HN.out; omega)
          injection e1 with e1
          injection e1 with e1 e2
          subst e1; subst e2
          rw [hcx, List.getD_eq_getElem?_getD, List.getElem?_eq_getElem (by have := HN.out; omega)]
          rfl)
        have HSET : Hid (∀ y, F i = y → Mine .i64 3 (W1.setCell ⟨G, i, none⟩ (.int .i64 y)) G (.slice (some ⟨G, 0, none⟩) n n) (madeF F n (i + 1)) ∧ Below G w (W1.setCell ⟨G, i, none⟩ (.int .i64 y))) := Lib.hid (fun y hy => by
          subst hy
          rw [← madeF_step F n i hlt, ← hW1]
          exact ⟨(ht X (F i)).1, hbl2 _ _⟩)
        have hc1 : W1.cell? ⟨G, i, none⟩ = some (.int .i64 X) := by rw [← hW1]; exact (ht X 0).2.1
        have hf1 : W1.frozen? ⟨G, i, none⟩ = false := by rw [← hW1]; exact (ht X 0).2.2
        have HRUN : Hid (∀ j, i + 1 ≤ j → j < n → (∀ q, i + 1 ≤ q → q < j → neuC (cs.getD q 0) = true) → neuC (cs.getD j 0) = false → firstN ee (cs.drop (i + 1)) = wayN (cs.getD j 0)) := Lib.hid (fun j h1 h2 h3 h4 => first_stop ee cs (i + 1) j h1 (by have := HN.out; omega) h3 h4)
        have HEND : Hid ((∀ q, i + 1 ≤ q → q < n → neuC (cs.getD q 0) = true) → firstN ee (cs.drop (i + 1)) = ee) := Lib.hid (fun h3 => first_end ee cs (i + 1) (by omega) (fun q h1 h2 => h3 q h1 (by have := HN.out; omega)))
        have HLRUN : Hid (∀ p, p < i → (∀ q, p < q → q < i → neuC (cs.getD q 0) = true) → neuC (cs.getD p 0) = false → lastN ss (cs.take i) = wayN (cs.getD p 0)) := Lib.hid (fun p h1 h3 h4 => by
          rw [last_run ss cs (p + 1) i (by omega) (by omega) (fun q a1 a2 => h3 q (by omega) a2)]
          exact last_stop ss cs p (by omega) h4)
        have HLEND : Hid ((∀ q, q < i → neuC (cs.getD q 0) = true) → lastN ss (cs.take i) = ss) := Lib.hid (fun h3 => by
          rw [last_run ss cs 0 i (by omega) (by omega) (fun q a1 a2 => h3 q a2)]
          rfl)
        have hcc1 := HCL.out i hlt
        rw [hX] at hcc hcc1 HN0
        clear hs hgd hk1 hb0 hg ht hbl hbl2 hfk hx hX hB hB1 HFE HM
        go_wp2_with (first
          | (go_at_call 13; (with_reducible refine (HN0.out _).mono ?_); rintro x u ⟨rfl, rfl⟩)
          | (go_at_call 22; (with_reducible refine (HS.out _).mono ?_); rintro x u ⟨rfl, rfl⟩)
          | (go_at_call 22; (with_reducible refine (HE.out _).mono ?_); rintro x u ⟨rfl, rfl⟩))
        clear hW1 hcc hcc1 HN0 hc hf
        go_loopw [11, 13] (fun v11 v13 wr => ∃ (j : Nat) (z : Int), j ≤ i ∧ v13 = .int .i64 z ∧ v11 = .int .i64 ss ∧ Hid (z = (j : Int) - 1) ∧ Hid (∀ q, j ≤ q → q < i → neuC (cs.getD q 0) = true) ∧ W1 = wr) (fun _ v _ => (intOf v + 1).toNat)
        case atStart => exact ⟨i, (i : Int) - 1, by omega, by go_num, rfl, Lib.hid rfl, Lib.hid fun q h1 h2 => by omega, rfl⟩
        case round =>
          obtain ⟨j, z, hji, rfl, rfl, HZJ, HJ, rfl⟩ := hrel
          rcases j with _ | p
          · have hz : z = -1 := by have := HZJ.out; omega
            subst hz
            have HLA := Lib.hid (HLEND.out (fun q h => HJ.out q (by omega) h))
            clear HJ HZJ HLEND HLRUN
            go_wp2
            go_loopw [12, 14] (fun v12 v14 wr => ∃ j : Nat, j ≤ n ∧ v14 = .int .i64 j ∧ v12 = .int .i64 ee ∧ Hid (i + 1 ≤ j ∧ ∀ q, i + 1 ≤ q → q < j → neuC (cs.getD q 0) = true) ∧ W1 = wr) (fun _ v _ => n - (intOf v).toNat)
            case atStart => exact ⟨i + 1, by omega, by go_num, rfl, Lib.hid ⟨by omega, fun q h1 h2 => by omega⟩, rfl⟩
            case round =>
              obtain ⟨j, hjn, rfl, rfl, HJ, rfl⟩ := hrel
              by_cases hjl : j < n
              · have hcj := HCL.out j hjl
                have hrun := HRUN.out j HJ.out.1 hjl HJ.out.2
                have HJ2 := HJ.out.2
                have HN1 := Lib.hid (fun W => neutral1_ok (cs.getD j 0) W)
                have HW := Lib.hid (fun W => way_ok (cs.getD j 0) W)
                obtain ⟨Y, hY⟩ : ∃ Y, cs.getD j 0 = Y := ⟨_, rfl⟩
                rw [hY] at hcj hrun HN1 HW
                cases hy : neuC Y with
                | true =>
                  rw [hy] at HN1
                  have HJ3 : Hid (i + 1 ≤ j + 1 ∧ ∀ q, i + 1 ≤ q → q < j + 1 → neuC (cs.getD q 0) = true) := Lib.hid ⟨by have := HJ.out.1; omega, fun q h1 h2 => by
                    by_cases e : q = j
                    · rw [e, hY]; exact hy
                    · exact HJ2 q h1 (by omega)⟩
                  clear hrun HJ2 hy hY HW HJ
                  go_wp2_with (first
                    | (go_at_call 13; (with_reducible refine (HN1.out _).mono ?_); rintro x u ⟨rfl, rfl⟩))
                  go_roundw
                  case rel => exact ⟨j + 1, by omega, by go_num, rfl, HJ3, trivial⟩
                  case measure => simp [intOf] <;> omega
                | false =>
                  rw [hy] at HN1
                  have HFB := hrun hy
                  generalize wayN Y = FB at *
                  clear hrun HJ2 hy hY HJ
                  have HFK2 : Hid (F i = if ss = FB then ss else embN level) := Lib.hid (by rw [HFN.out, HLA.out, HFB])
                  clear HFB
                  by_cases hab : ss = FB
                  · subst hab
                    have HZ := Lib.hid (HSET.out ss (by rw [HFK2.out, if_pos rfl]))
                    clear HFK2
                    go_wp2_with (first
                      | (go_at_call 13; (with_reducible refine (HN1.out _).mono ?_); rintro x u ⟨rfl, rfl⟩)
                      | (go_at_call 23; (with_reducible refine (HW.out _).mono ?_); rintro x u ⟨rfl, rfl⟩)
                      | (go_at_call 12; (with_reducible refine (HEM.out _).mono ?_); rintro x u ⟨rfl, rfl⟩))
                    go_roundw
                    case rel => exact ⟨i + 1, by omega, by go_num, HZ⟩
                    case measure => simp [intOf] <;> omega
                  · have HZ := Lib.hid (HSET.out (embN level) (by rw [HFK2.out, if_neg hab]))
                    have eab : (ss == FB) = false := by simpa using hab
                    clear HFK2 hab
                    generalize embN level = EM at *
                    go_wp2_with (first
                      | (go_at_call 13; (with_reducible refine (HN1.out _).mono ?_); rintro x u ⟨rfl, rfl⟩)
                      | (go_at_call 23; (with_reducible refine (HW.out _).mono ?_); rintro x u ⟨rfl, rfl⟩)
                      | (go_at_call 12; (with_reducible refine (HEM.out _).mono ?_); rintro x u ⟨rfl, rfl⟩))
                    go_roundw
                    case rel => exact ⟨i + 1, by omega, by go_num, HZ⟩
                    case measure => simp [intOf] <;> omega
              · obtain rfl : j = n := by omega
                have HFB := HEND.out HJ.out.2
                clear HJ
                have HFK2 : Hid (F i = if ss = ee then ss else embN level) := Lib.hid (by rw [HFN.out, HLA.out, HFB])
                clear HFB
                by_cases hab : ss = ee
                · subst hab
                  have HZ := Lib.hid (HSET.out ss (by rw [HFK2.out, if_pos rfl]))
                  clear HFK2
                  go_wp2_with (first
                    | (go_at_call 12; (with_reducible refine (HEM.out _).mono ?_); rintro x u ⟨rfl, rfl⟩))
                  go_roundw
                  case rel => exact ⟨i + 1, by omega, by go_num, HZ⟩
                  case measure => simp [intOf] <;> omega
                · have HZ := Lib.hid (HSET.out (embN level) (by rw [HFK2.out, if_neg hab]))
                  have eab : (ss == ee) = false := by simpa using hab
                  clear HFK2 hab
                  generalize embN level = EM at *
                  go_wp2_with (first
                    | (go_at_call 12; (with_reducible refine (HEM.out _).mono ?_); rintro x u ⟨rfl, rfl⟩))
                  go_roundw
                  case rel => exact ⟨i + 1, by omega, by go_num, HZ⟩
                  case measure => simp [intOf] <;> omega
          · have hz : z = (p : Int) := by have := HZJ.out; omega
            subst hz
            have hpn : p < n := by omega
            have hcp := HCL.out p hpn
            have hrun := HLRUN.out p (by omega) (fun q h1 h2 => HJ.out q (by omega) h2)
            have HN1 := Lib.hid (fun W => neutral1_ok (cs.getD p 0) W)
            have HW := Lib.hid (fun W => way_ok (cs.getD p 0) W)
            obtain ⟨Y, hY⟩ : ∃ Y, cs.getD p 0 = Y := ⟨_, rfl⟩
            rw [hY] at hcp hrun HN1 HW
            cases hy : neuC Y with
            | true =>
              rw [hy] at HN1
              have HJ2 : Hid (∀ q, p ≤ q → q < i → neuC (cs.getD q 0) = true) := Lib.hid fun q h1 h2 => by
                by_cases e : q = p
                · rw [e, hY]; exact hy
                · exact HJ.out q (by omega) h2
              clear hrun hy hY HW HJ HZJ
              go_wp2_with (first
                | (go_at_call 13; (with_reducible refine (HN1.out _).mono ?_); rintro x u ⟨rfl, rfl⟩))
              go_roundw
              case rel => exact ⟨p, (p : Int) - 1, by omega, by go_num, rfl, Lib.hid rfl, HJ2, trivial⟩
              case measure => simp [intOf] <;> omega
            | false =>
              rw [hy] at HN1
              have HLA := Lib.hid (hrun hy)
              generalize wayN Y = LA at *
              clear hrun hy hY HJ HZJ HLEND HLRUN
              go_wp2_with (first
                | (go_at_call 13; (with_reducible refine (HN1.out _).mono ?_); rintro x u ⟨rfl, rfl⟩)
                | (go_at_call 23; (with_reducible refine (HW.out _).mono ?_); rintro x u ⟨rfl, rfl⟩))
              go_loopw [12, 14] (fun v12 v14 wr => ∃ j : Nat, j ≤ n ∧ v14 = .int .i64 j ∧ v12 = .int .i64 ee ∧ Hid (i + 1 ≤ j ∧ ∀ q, i + 1 ≤ q → q < j → neuC (cs.getD q 0) = true) ∧ W1 = wr) (fun _ v _ => n - (intOf v).toNat)
              case atStart => exact ⟨i + 1, by omega, by go_num, rfl, Lib.hid ⟨by omega, fun q h1 h2 => by omega⟩, rfl⟩
              case round =>
                obtain ⟨j, hjn, rfl, rfl, HJ, rfl⟩ := hrel
                by_cases hjl : j < n
                · have hcj := HCL.out j hjl
                  have hrun := HRUN.out j HJ.out.1 hjl HJ.out.2
                  have HJ2 := HJ.out.2
                  have HN1 := Lib.hid (fun W => neutral1_ok (cs.getD j 0) W)
                  have HW := Lib.hid (fun W => way_ok (cs.getD j 0) W)
                  obtain ⟨Y, hY⟩ : ∃ Y, cs.getD j 0 = Y := ⟨_, rfl⟩
                  rw [hY] at hcj hrun HN1 HW
                  cases hy : neuC Y with
                  | true =>
                    rw [hy] at HN1
                    have HJ3 : Hid (i + 1 ≤ j + 1 ∧ ∀ q, i + 1 ≤ q → q < j + 1 → neuC (cs.getD q 0) = true) := Lib.hid ⟨by have := HJ.out.1; omega, fun q h1 h2 => by
                      by_cases e : q = j
                      · rw [e, hY]; exact hy
                      · exact HJ2 q h1 (by omega)⟩
                    clear hrun HJ2 hy hY HW HJ
                    go_wp2_with (first
                      | (go_at_call 13; (with_reducible refine (HN1.out _).mono ?_); rintro x u ⟨rfl, rfl⟩))
                    go_roundw
                    case rel => exact ⟨j + 1, by omega, by go_num, rfl, HJ3, trivial⟩
                    case measure => simp [intOf] <;> omega
                  | false =>
                    rw [hy] at HN1
                    have HFB := hrun hy
                    generalize wayN Y = FB at *
                    clear hrun HJ2 hy hY HJ
                    have HFK2 : Hid (F i = if LA = FB then LA else embN level) := Lib.hid (by rw [HFN.out, HLA.out, HFB])
                    clear HFB
                    by_cases hab : LA = FB
                    · subst hab
                      have HZ := Lib.hid (HSET.out LA (by rw [HFK2.out, if_pos rfl]))
                      clear HFK2
                      go_wp2_with (first
                        | (go_at_call 13; (with_reducible refine (HN1.out _).mono ?_); rintro x u ⟨rfl, rfl⟩)
                        | (go_at_call 23; (with_reducible refine (HW.out _).mono ?_); rintro x u ⟨rfl, rfl⟩)
                        | (go_at_call 12; (with_reducible refine (HEM.out _).mono ?_); rintro x u ⟨rfl, rfl⟩))
                      go_roundw
                      case rel => exact ⟨i + 1, by omega, by go_num, HZ⟩
                      case measure => simp [intOf] <;> omega
                    · have HZ := Lib.hid (HSET.out (embN level) (by rw [HFK2.out, if_neg hab]))
                      have eab : (LA == FB) = false := by simpa using hab
                      clear HFK2 hab
                      generalize embN level = EM at *
                      go_wp2_with (first
                        | (go_at_call 13; (with_reducible refine (HN1.out _).mono ?_); rintro x u ⟨rfl, rfl⟩)
                        | (go_at_call 23; (with_reducible refine (HW.out _).mono ?_); rintro x u ⟨rfl, rfl⟩)
                        | (go_at_call 12; (with_reducible refine (HEM.out _).mono ?_); rintro x u ⟨rfl, rfl⟩))
                      go_roundw
                      case rel => exact ⟨i + 1, by omega, by go_num, HZ⟩
                      case measure => simp [intOf] <;> omega
                · obtain rfl : j = n := by omega
                  have HFB := HEND.out HJ.out.2
                  clear HJ
                  have HFK2 : Hid (F i = if LA = ee then LA else embN level) := Lib.hid (by rw [HFN.out, HLA.out, HFB])
                  clear HFB
                  by_cases hab : LA = ee
                  · subst hab
                    have HZ := Lib.hid (HSET.out LA (by rw [HFK2.out, if_pos rfl]))
                    clear HFK2
                    go_wp2_with (first
                      | (go_at_call 12; (with_reducible refine (HEM.out _).mono ?_); rintro x u ⟨rfl, rfl⟩))
                    go_roundw
                    case rel => exact ⟨i + 1, by omega, by go_num, HZ⟩
                    case measure => simp [intOf] <;> omega
                  · have HZ := Lib.hid (HSET.out (embN level) (by rw [HFK2.out, if_neg hab]))
                    have eab : (LA == ee) = false := by simpa using hab
                    clear HFK2 hab
                    generalize embN level = EM at *
                    go_wp2_with (first
                      | (go_at_call 12; (with_reducible refine (HEM.out _).mono ?_); rintro x u ⟨rfl, rfl⟩))
                    go_roundw
                    case rel => exact ⟨i + 1, by omega, by go_num, HZ⟩
                    case measure => simp [intOf] <;> omega
    · obtain rfl : i = n := by omega
      go_wp2
      go_ret
      rw [HG.out]
      exact ⟨_, rfl, by rw [← HR.out]; exact HM.out.1, HM.out.2⟩
end Go.Proofs.Ytfjmcfcaphodgaa
