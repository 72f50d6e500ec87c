/-
  Contracts of the document's Runs, Same of 05 at two lists that are alike, and of long and level of the statements. Condition: at most 1000 levels.
-/
import Derived.Test.YtnocdminhcpmpaaRoj
set_option linter.unusedVariables false
set_option linter.unusedSimpArgs false
namespace Go.Proofs.Ytnocdminhcpmpaa
open Go.ChangeShapes Go.WideShapes Go.ChangeAt Go.RowKit Go.Sort

/-- what the document's Runs holds: levels, order, the runs so far, apart -/
structure RnS (w : World) (B : Nat) (wr : World) (u v o : Value) (M O : List Nat) (R : List Rn) : Prop where
  lev : Mine .i64 3 wr B u (inN M)
  ord : Mine .i64 3 wr B v (inN O)
  out : MineS wr B o R
  f1 : Apart u o
  f2 : Apart v o
  bel : Below B w wr
section
variable {w wr W : World} {B : Nat} {u v o o' : Value} {M O : List Nat} {R : List Rn}
theorem RnS.drewN (h : RnS w B wr u v o M O R) (q : Nat) : RnS w B (wr.drewN q) u v o M O R := ⟨h.lev, h.ord, h.out, h.f1, h.f2, below_drewN h.bel q⟩
theorem RnS.push {x : Rn} (h : RnS w B wr u v o M O R) (hM : MineS W B o' (R ++ [x])) (hb : Below B wr W) (hf : ∀ b, b < wr.heap.size → o.ownBlock ≠ some b → o'.ownBlock ≠ some b ∧ W.heap[b]? = wr.heap[b]?) : RnS w B W u v o' M O (R ++ [x]) :=
  ⟨h.lev.stays fun b hb2 hlt => (hf b hlt (h.f1 b hb2)).2, h.ord.stays fun b hb2 hlt => (hf b hlt (h.f2 b hb2)).2, hM, fun b hb2 => (hf b (h.lev.own_lt b hb2).2 (h.f1 b hb2)).1, fun b hb2 => (hf b (h.ord.own_lt b hb2).2 (h.f2 b hb2)).1, h.bel.trans hb⟩
theorem RnS.at1 {A : Option Addr} {n c i x : Nat} (h : RnS w B wr (.slice A n c) v o M O R) (hi : M[i]? = some x) : ∃ g, A = some ⟨g, 0, none⟩ ∧ wr.cell? ⟨g, i, none⟩ = some (.int .i64 (x : Int)) := by
  obtain ⟨g, rfl, _, _, hc, _, _⟩ := h.lev.spot (inN_get M i x hi)
  exact ⟨g, rfl, hc⟩
theorem RnS.at2 {A : Option Addr} {n c i x : Nat} (h : RnS w B wr u (.slice A n c) o M O R) (hi : O[i]? = some x) : ∃ g, A = some ⟨g, 0, none⟩ ∧ wr.cell? ⟨g, i, none⟩ = some (.int .i64 (x : Int)) := by
  obtain ⟨g, rfl, _, _, hc, _, _⟩ := h.ord.spot (inN_get O i x hi)
  exact ⟨g, rfl, hc⟩
end
theorem flat_at {β : Type} (F : Rn → List β) (R : List Rn) (j : Nat) (r : Rn) (h : R[j]? = some r) (hne : F r ≠ []) : ∃ x, (R.flatMap F)[((R.take j).flatMap F).length]? = some x ∧ x ∈ F r := by
  have hlt := (List.getElem?_eq_some_iff.1 h).1
  have e : R.flatMap F = (R.take j).flatMap F ++ (F r ++ (R.drop (j + 1)).flatMap F) := by
    rw [← List.flatMap_cons, ← List.flatMap_append]
    congr 1
    have h1 := (List.take_append_drop j R).symm
    rw [List.drop_eq_getElem_cons hlt] at h1
    rw [List.getElem?_eq_getElem hlt] at h
    injection h with h
    rwa [h] at h1
  rw [e, List.getElem?_append_right (Nat.le_refl _), Nat.sub_self]
  cases hF : F r with
  | nil => exact absurd hF hne
  | cons x s => exact ⟨x, rfl, by simp⟩
set_option maxRecDepth 20000 in
set_option maxHeartbeats 8000000 in
theorem rruns_ok (A : Option Addr) (n c : Nat) (xs : List Int) (w : World) (hn : n = xs.length) (hmax : n ≤ 1000) (h : Has w w.heap.size A (xs.map (Value.int .i64))) :
    Calls Try.prog 17 #[.slice A n c] w fun e w' => ∃ v, e = .returned v ∧ MineS w' w.heap.size v (runX (lvX xs) n) ∧ Below w.heap.size w w' := by
  have HC := Lib.hid (rcounts_ok A n c xs w hn hmax h)
  have HV := Lib.hid (fun (W : World) (hb : Below w.heap.size w W) => rvisual_ok A n c xs W hn hmax ((h.below hb).more hb.size))
  have hmx := run_max (lvX xs) n
  have hex := run_flat (lvX xs) n
  have hlen0 := ord_len (lvX xs) n
  have hrl := run_len (lvX xs) n
  generalize lowK (lvX xs) n = lo at *
  generalize runX (lvX xs) n = R at *
  generalize ordX (lvX xs) n = O at *
  generalize lvX xs = lv at *
  have HO : Hid (O.length = n) := Lib.hid hlen0
  have HX : Hid (∀ (j : Nat) (r : Rn), R[j]? = some r → MaxQ lv n r) := Lib.hid fun j r hj => hmx r (List.mem_of_getElem? hj)
  have HI : Hid (∀ (j : Nat) (r : Rn), R[j]? = some r → ((R.take (j + 1)).flatMap (exQ lo)).length = ((R.take j).flatMap (exQ lo)).length + (r.2.1 - r.1) ∧ ∃ x, O[((R.take j).flatMap (exQ lo)).length]? = some x ∧ r.1 ≤ x ∧ x < r.2.1) := Lib.hid fun j r hj => by
    refine ⟨by rw [take_flat _ R j r hj, List.length_append, ex_len], ?_⟩
    obtain ⟨x, hx, hm⟩ := flat_at (exQ lo) R j r hj (fun e => by
      have h1 := ex_len lo r
      rw [e] at h1
      have := (hmx r (List.mem_of_getElem? hj)).1
      simp at h1; omega)
    rw [← hex] at hx
    exact ⟨x, hx, ex_mem hm⟩
  have HE : Hid (∀ j, R.length ≤ j → ((R.take j).flatMap (exQ lo)).length = n) := Lib.hid fun j hj => by rw [List.take_of_length_le hj, ← hex, hlen0]
  clear h hn hmx hex hlen0
  go_enter Try.func17, Try.ntmps17
  go_wp2_with (first
    | (go_at_call 29; (with_reducible refine HC.out.mono ?_); rintro x z0 ⟨v, rfl, m0, b0⟩; obtain ⟨A3, c3, rfl, hc3, _, _⟩ := m0.size; rw [inN_len, lvl_len] at *)
    | (go_at_call 12; (with_reducible refine (HV.out _ b0).mono ?_); rintro x z1 ⟨v, rfl, m1, b1⟩; obtain ⟨A4, c4, rfl, hc4, _, _⟩ := m1.size; rw [inN_len, HO.out] at hc4 m1 ⊢))
  have HM0 : Hid (RnS w w.heap.size z1 (.slice A3 n c3) (.slice A4 n c4) (.slice none 0 0) (lvlL lv n) O (R.take 0)) :=
    Lib.hid ⟨m0.stays fun b _ hlt => b1.block b hlt, m1.low b0.size, MineN.nil_ _ _ _, (apart_nil _).symm, (apart_nil _).symm, b0.trans (b1.mono b0.size)⟩
  clear m0 b0 m1 b1 HC HV hc3 hc4
  go_loopw [5, 6] (fun v5 v6 wr => ∃ (j i : Nat), j ≤ R.length ∧ i ≤ n ∧ v6 = .int .i64 (i : Int) ∧ Hid (i = ((R.take j).flatMap (exQ lo)).length) ∧ Hid (RnS w w.heap.size wr (.slice A3 n c3) (.slice A4 n c4) v5 (lvlL lv n) O (R.take j))) (fun _ v _ => n - (intOf v).toNat)
  case atStart => exact ⟨0, 0, by omega, by omega, rfl, Lib.hid rfl, HM0⟩
  case round =>
    clear HM0
    obtain ⟨j, i, hjn, hin, rfl, HIJ, HM⟩ := hrel
    by_cases hlt : j < R.length
    · obtain ⟨r, hr⟩ : ∃ r, R[j]? = some r := ⟨_, List.getElem?_eq_getElem hlt⟩
      obtain ⟨hi1, x, hx, hx1, hx2⟩ := HI.out j r hr
      obtain ⟨q1, q2, q3, q4, q5⟩ := HX.out j r hr
      rw [← HIJ.out] at hi1 hx
      have hil : i < n := by
        have := (List.getElem?_eq_some_iff.1 hx).1
        have := HO.out
        omega
      have hsum : i + (r.2.1 - r.1) ≤ n := by
        have h1 : ((R.take (j + 1)).flatMap (exQ lo)).length ≤ n := by
          rw [← HE.out R.length (Nat.le_refl _), List.take_length]
          have h2 : R.flatMap (exQ lo) = (R.take (j + 1)).flatMap (exQ lo) ++ (R.drop (j + 1)).flatMap (exQ lo) := by rw [← List.flatMap_append, List.take_append_drop]
          rw [h2, List.length_append]; omega
        omega
      have htk : R.take (j + 1) = R.take j ++ [r] := by rw [List.take_add_one, hr]; rfl
      obtain ⟨a, b, v⟩ := r
      simp only at q1 q2 q3 q4 q5 hx1 hx2 hi1 hsum
      have HI2 := Lib.hid hi1
      have HTK := Lib.hid htk
      have hlx := lvl_get lv n x (by omega)
      rw [q3 x hx1 hx2] at hlx
      have HQ := Lib.hid (And.intro q3 (And.intro q4 q5))
      have HXX := Lib.hid (And.intro hx hlx)
      obtain ⟨g4, hA4, hcx⟩ := HM.out.at2 hx
      obtain ⟨g3, hA3, hcl⟩ := HM.out.at1 hlx
      subst hA4; subst hA3
      clear hr hi1 htk q3 q4 q5 hx hlx HIJ
      obtain ⟨W0, hW0⟩ : ∃ W, W = wr := ⟨_, rfl⟩
      subst hW0
      have hN := HM.out
      clear HM
      go_wp2
      go_loopw [7] (fun v7 wr2 => ∃ f : Nat, a ≤ f ∧ f ≤ x ∧ v7 = .int .i64 (f : Int) ∧ ∃ q, wr2 = W0.drewN q) (fun v _ => (intOf v).toNat)
      case atStart => exact ⟨x, by omega, by omega, rfl, 0, rfl⟩
      case round =>
        obtain ⟨f, hf1, hf2, rfl, q, rfl⟩ := hrel
        by_cases hltf : a < f
        · obtain ⟨e, he⟩ : ∃ e, f = e + 1 := ⟨f - 1, by omega⟩
          have hct := hN.at1 (lvl_get lv n e (by omega))
          obtain ⟨g', hg', hct⟩ := hct
          cases hg'
          rw [HQ.out.1 e (by omega) (by omega)] at hct
          have hf0 : ((0 : Int) < (f : Int)) := by omega
          have hf0n : 0 < f := by omega
          have hfe : ((f : Int) - 1) = (e : Int) := by omega
          have hex : e < n := by omega
          have HE2 := Lib.hid he
          clear he
          go_wp2
          go_quiet (fail)
          go_wp2
          go_roundw
          case rel => exact ⟨e, by have := HE2.out; omega, by have := HE2.out; omega, by go_num, _, rfl⟩
          case measure => have := HE2.out; simp [intOf] <;> omega
        · obtain rfl : f = a := by omega
          by_cases hf0 : f = 0
          · have hf0' : ¬ ((0 : Int) < (f : Int)) := by omega
            have hf0n : ¬ 0 < f := by omega
            have HL2 := Lib.hid hf0
            clear hf0
            go_wp2
            go_quiet (fail)
            clear HL2
            go_wp2
            go_loopw [8] (fun v8 wr2 => ∃ t : Nat, x + 1 ≤ t ∧ t ≤ b ∧ v8 = .int .i64 (t : Int) ∧ ∃ q, wr2 = W0.drewN q) (fun v _ => b - (intOf v).toNat)
            case atStart => exact ⟨x + 1, by omega, by omega, by go_num, _, rfl⟩
            case round =>
              obtain ⟨t, ht1, ht2, rfl, q, rfl⟩ := hrel
              by_cases hltt : t < b
              · have hct := hN.at1 (lvl_get lv n t (by omega))
                obtain ⟨g', hg', hct⟩ := hct
                cases hg'
                rw [HQ.out.1 t (by omega) hltt] at hct
                have htn : ((t : Int) < (n : Int)) := by omega
                go_wp2
                go_quiet (fail)
                go_wp2
                go_roundw
                case rel => exact ⟨t + 1, by omega, by omega, by go_num, _, rfl⟩
                case measure => simp [intOf] <;> omega
              · obtain rfl : t = b := by omega
                by_cases hbn : t = n
                · have htn : ¬ ((t : Int) < (n : Int)) := by omega
                  have htn2 : ¬ (t < n) := by omega
                  clear hbn
                  go_wp2
                  go_quiet (fail)
                  have HM9 := Lib.hid (fun q => hN.drewN q)
                  have hB9 : w.heap.size ≤ W0.heap.size := hN.bel.size
                  have hl9 : (R.take j).length ≤ 1000000 := by rw [List.length_take]; omega
                  go_wp2_with (at_builtin; (refine wpList_pushN (R := LSp) rfl _ _ 27 rfl _ Try.underlying27 fullSp rfl (by decide) (by decide) w.heap.size _ (R.take j) (f, t, v) _ _ rfl (HM9.out _).out rfl rfl hB9 hl9 ?_; intro v' w3 hM3 hb3 hfar))
                  go_roundw
                  case rel => exact ⟨j + 1, i + (t - f), by omega, hsum, by have := HI2.out; go_num, Lib.hid HI2.out.symm, Lib.hid (by rw [HTK.out]; exact (HM9.out _).push hM3 hb3 hfar)⟩
                  case measure => simp [intOf] <;> omega
                · have hbn2 : t < n := by omega
                  have htn : ((t : Int) < (n : Int)) := by omega
                  have hct := hN.at1 (lvl_get lv n t hbn2)
                  obtain ⟨g', hg', hct⟩ := hct
                  cases hg'
                  have hne : ¬ ((lv t : Int) = (v : Int)) := by
                    rcases HQ.out.2.2 with e | e
                    · exact absurd e hbn
                    · omega
                  generalize lv t = V at *
                  go_wp2
                  go_quiet (fail)
                  have HM9 := Lib.hid (fun q => hN.drewN q)
                  have hB9 : w.heap.size ≤ W0.heap.size := hN.bel.size
                  have hl9 : (R.take j).length ≤ 1000000 := by rw [List.length_take]; omega
                  go_wp2_with (at_builtin; (refine wpList_pushN (R := LSp) rfl _ _ 27 rfl _ Try.underlying27 fullSp rfl (by decide) (by decide) w.heap.size _ (R.take j) (f, t, v) _ _ rfl (HM9.out _).out rfl rfl hB9 hl9 ?_; intro v' w3 hM3 hb3 hfar))
                  go_roundw
                  case rel => exact ⟨j + 1, i + (t - f), by omega, hsum, by have := HI2.out; go_num, Lib.hid HI2.out.symm, Lib.hid (by rw [HTK.out]; exact (HM9.out _).push hM3 hb3 hfar)⟩
                  case measure => simp [intOf] <;> omega
          · obtain ⟨e, he⟩ : ∃ e, f = e + 1 := ⟨f - 1, by omega⟩
            have hct := hN.at1 (lvl_get lv n e (by omega))
            obtain ⟨g', hg', hct⟩ := hct
            cases hg'
            have hne : ¬ ((lv e : Int) = (v : Int)) := by
              rcases HQ.out.2.1 with e1 | e1
              · exact absurd e1 hf0
              · rw [he, Nat.add_sub_cancel] at e1
                omega
            have hf0' : ((0 : Int) < (f : Int)) := by omega
            have hf0n : 0 < f := by omega
            have hfe : ((f : Int) - 1) = (e : Int) := by omega
            have hex : e < n := by omega
            have HL2 := Lib.hid he
            clear he
            generalize lv e = V at *
            go_wp2
            go_quiet (fail)
            clear HL2
            go_wp2
            go_loopw [8] (fun v8 wr2 => ∃ t : Nat, x + 1 ≤ t ∧ t ≤ b ∧ v8 = .int .i64 (t : Int) ∧ ∃ q, wr2 = W0.drewN q) (fun v _ => b - (intOf v).toNat)
            case atStart => exact ⟨x + 1, by omega, by omega, by go_num, _, rfl⟩
            case round =>
              obtain ⟨t, ht1, ht2, rfl, q, rfl⟩ := hrel
              by_cases hltt : t < b
              · have hct := hN.at1 (lvl_get lv n t (by omega))
                obtain ⟨g', hg', hct⟩ := hct
                cases hg'
                rw [HQ.out.1 t (by omega) hltt] at hct
                have htn : ((t : Int) < (n : Int)) := by omega
                go_wp2
                go_quiet (fail)
                go_wp2
                go_roundw
                case rel => exact ⟨t + 1, by omega, by omega, by go_num, _, rfl⟩
                case measure => simp [intOf] <;> omega
              · obtain rfl : t = b := by omega
                by_cases hbn : t = n
                · have htn : ¬ ((t : Int) < (n : Int)) := by omega
                  have htn2 : ¬ (t < n) := by omega
                  clear hbn
                  go_wp2
                  go_quiet (fail)
                  have HM9 := Lib.hid (fun q => hN.drewN q)
                  have hB9 : w.heap.size ≤ W0.heap.size := hN.bel.size
                  have hl9 : (R.take j).length ≤ 1000000 := by rw [List.length_take]; omega
                  go_wp2_with (at_builtin; (refine wpList_pushN (R := LSp) rfl _ _ 27 rfl _ Try.underlying27 fullSp rfl (by decide) (by decide) w.heap.size _ (R.take j) (f, t, v) _ _ rfl (HM9.out _).out rfl rfl hB9 hl9 ?_; intro v' w3 hM3 hb3 hfar))
                  go_roundw
                  case rel => exact ⟨j + 1, i + (t - f), by omega, hsum, by have := HI2.out; go_num, Lib.hid HI2.out.symm, Lib.hid (by rw [HTK.out]; exact (HM9.out _).push hM3 hb3 hfar)⟩
                  case measure => simp [intOf] <;> omega
                · have hbn2 : t < n := by omega
                  have htn : ((t : Int) < (n : Int)) := by omega
                  have hct := hN.at1 (lvl_get lv n t hbn2)
                  obtain ⟨g', hg', hct⟩ := hct
                  cases hg'
                  have hne : ¬ ((lv t : Int) = (v : Int)) := by
                    rcases HQ.out.2.2 with e | e
                    · exact absurd e hbn
                    · omega
                  generalize lv t = V at *
                  go_wp2
                  go_quiet (fail)
                  have HM9 := Lib.hid (fun q => hN.drewN q)
                  have hB9 : w.heap.size ≤ W0.heap.size := hN.bel.size
                  have hl9 : (R.take j).length ≤ 1000000 := by rw [List.length_take]; omega
                  go_wp2_with (at_builtin; (refine wpList_pushN (R := LSp) rfl _ _ 27 rfl _ Try.underlying27 fullSp rfl (by decide) (by decide) w.heap.size _ (R.take j) (f, t, v) _ _ rfl (HM9.out _).out rfl rfl hB9 hl9 ?_; intro v' w3 hM3 hb3 hfar))
                  go_roundw
                  case rel => exact ⟨j + 1, i + (t - f), by omega, hsum, by have := HI2.out; go_num, Lib.hid HI2.out.symm, Lib.hid (by rw [HTK.out]; exact (HM9.out _).push hM3 hb3 hfar)⟩
                  case measure => simp [intOf] <;> omega
    · have e := HE.out j (by omega)
      have hil : i = n := by rw [← e]; exact HIJ.out
      subst hil
      have hM := HM.out
      rw [List.take_of_length_le (by omega)] at hM
      go_wp2
      go_ret
      exact ⟨_, rfl, hM.out, hM.bel⟩
end Go.Proofs.Ytnocdminhcpmpaa
