/-
  Contracts: the program's and the document's Implicit. Condition: at most 1000 classes, a level of at most 2^40.
-/
import Derived.Test.YtfjmcfcaphodgaaNef
import Derived.BigQuiet
import Derived.Deep.OwnRows
set_option linter.unusedVariables false
set_option linter.unusedSimpArgs false
namespace Go.Proofs.Ytfjmcfcaphodgaa
open Go.ChangeShapes Go.WideShapes Go.ChangeAt Go.RowKit Go.Sort

def impL (cs : List Int) (level : Int) : List Int := (List.range cs.length).map fun j => impN level (cs.getD j 0)
theorem imp_len (cs : List Int) (level : Int) : (impL cs level).length = cs.length := by simp [impL]
theorem imp_get (cs : List Int) (level : Int) (i : Nat) (h : i < (impL cs level).length) : (impL cs level)[i] = impN level (cs.getD i 0) := by simp [impL]

set_option maxHeartbeats 2000000 in
theorem implicit_ok (A : Option Addr) (n c : Nat) (level : Int) (cs : List Int) (w : World) (hn : n = cs.length) (hmax : n ≤ 1000) (hlo : -9223372036854775808 ≤ level) (hhi : level ≤ 1099511627776) (h : Has w w.heap.size A (cs.map (Value.int .i64))) :
    Calls Try.prog 14 #[.slice A n c, .int .i64 level] w fun x w' => ∃ v, x = .returned v ∧ Mine .i64 3 w' w.heap.size v (impL cs level) ∧ Below w.heap.size w w' := by
  have HH := Lib.hid (fun (W : World) (hb : Below w.heap.size w W) => (h.below hb).more hb.size)
  have HN := Lib.hid hn
  have HO := Lib.hid (fun W => odd_ok level W)
  have HMK := fun W => run_make_row' (P := Try.prog) 22 3 (.int .i64 0) 8 Try.underlying22 fullI rfl .i64 .i64 n (by omega) (by omega) W
  obtain ⟨F, hF⟩ : ∃ F : Nat → Int, (fun j => impN level (cs.getD j 0)) = F := ⟨_, rfl⟩
  have HFE : Hid (∀ j, F j = level + riseN (cs.getD j 0) (decide (level.tmod 2 ≠ 0))) := Lib.hid fun j => by rw [← hF]; exact imp_rise level _
  have HR : Hid (madeF F n n = impL cs level) := Lib.hid (by rw [madeF_end, hn, ← hF]; rfl)
  have hm := mine_made (w := w) F hmax
  have HM0 := Lib.hid (And.intro hm ((Below.refl w.heap.size w).alloc (Nat.le_refl _) (.cells (madeCells #[Value.int .i64 0] n) 3)))
  generalize decide (level.tmod 2 ≠ 0) = od at *
  clear hn h hF hm
  go_enter Try.func14, Try.ntmps14
  go_wp2
  obtain ⟨W1, hW1⟩ : ∃ W1, w.alloc (.cells (madeCells #[Value.int .i64 0] n) 3) = W1 := ⟨_, rfl⟩
  obtain ⟨G, hG⟩ : ∃ G, w.heap.size = G := ⟨_, rfl⟩
  rw [hW1, hG] at HM0
  simp only [hW1, hG]
  rw [hG] at HH
  clear hW1 HMK
  go_loopw [13] (fun v wr => ∃ k : Nat, k ≤ n ∧ v = .int .i64 k ∧ Hid (Mine .i64 3 wr G (.slice (some ⟨G, 0, none⟩) n n) (madeF F n k) ∧ Below G w wr)) (fun v _ => n - (intOf v).toNat)
  case atStart => exact ⟨0, by omega, rfl, HM0⟩
  case round =>
    clear HM0
    obtain ⟨k, hkn, rfl, HM⟩ := hrel
    by_cases hlt : k < n
    · have hk1 : k < cs.length := by have := HN.out; omega
      obtain ⟨b0, o0, rfl, hb0, hcc⟩ := (HH.out _ HM.out.2).at_int hk1
      have hgd : cs[k] = cs.getD k 0 := by rw [List.getD_eq_getElem?_getD, List.getElem?_eq_getElem hk1]; rfl
      rw [hgd] at hcc
      obtain ⟨g, eg, hB, hg, hc, hf, hs⟩ := HM.out.1.spot (madeF_at F n k hlt)
      injection eg with eg
      injection eg with eg
      subst eg
      have hz := hs (F k)
      rw [madeF_step F n k hlt] at hz
      have hfk := HFE.out k
      have HRI := Lib.hid (fun W => rise_ok (cs.getD k 0) od W)
      have hrb := rise_bnd (cs.getD k 0) od
      generalize riseN (cs.getD k 0) od = r at *
      generalize cs.getD k 0 = X at *
      have HZ := Lib.hid (And.intro hz (HM.out.2.setCell (p := ⟨G, k, none⟩) hB (.int .i64 (F k))))
      generalize F k = Y at *
      obtain ⟨hr0, hr2⟩ := hrb
      have hwr : IntKind.i64.wrap (level + r) = Y := by rw [hfk]; exact IntWalk.i64_in _ (by omega)
      have HY := Lib.hid hfk
      clear hs hz hgd hk1 hb0 HM hB hg hfk
      go_wp2_with (first
        | (go_at_call 24; (with_reducible refine (HO.out _).mono ?_); rintro x u ⟨rfl, rfl⟩)
        | (go_at_call 25; (with_reducible refine (HRI.out _).mono ?_); rintro x u ⟨rfl, rfl⟩))
      go_roundw
      case rel => exact ⟨k + 1, by omega, by go_num, HZ⟩
      case measure => simp [intOf] <;> omega
    · obtain rfl : k = n := by omega
      go_wp2
      go_ret
      rw [hG]
      exact ⟨_, rfl, by rw [← HR.out]; exact HM.out.1, HM.out.2⟩

/-- a place stored into twice -/
theorem Mine.twice {k : IntKind} {e : TypeId} {w : World} {B n c : Nat} {g : Nat} {xs : List Int} {i : Nat} {y : Int} (h : Mine k e w B (.slice (some ⟨g, 0, none⟩) n c) xs) (hi : xs[i]? = some y) (a b : Int) :
    Mine k e ((w.setCell ⟨g, i, none⟩ (.int k a)).setCell ⟨g, i, none⟩ (.int k b)) B (.slice (some ⟨g, 0, none⟩) n c) (xs.set i b) ∧ (w.setCell ⟨g, i, none⟩ (.int k a)).cell? ⟨g, i, none⟩ = some (.int k a) ∧ (w.setCell ⟨g, i, none⟩ (.int k a)).frozen? ⟨g, i, none⟩ = false := by
  have hlt := (List.getElem?_eq_some_iff.1 hi).1
  have h1 := h.set i hlt a
  have hi2 : (xs.set i a)[i]? = some a := by rw [List.getElem?_set, if_pos rfl, if_pos hlt]
  obtain ⟨g', e1, _, _, hc, hf, hs⟩ := h1.spot hi2
  injection e1 with e1
  injection e1 with e1
  subst e1
  have := hs b
  rw [List.set_set] at this
  exact ⟨this, hc, hf⟩

set_option maxHeartbeats 4000000 in
theorem rimplicit_ok (A : Option Addr) (n c : Nat) (level : Int) (cs : List Int) (w : World) (hn : n = cs.length) (hmax : n ≤ 1000) (hlo : -9223372036854775808 ≤ level) (hhi : level ≤ 1099511627776) (h : Has w w.heap.size A (cs.map (Value.int .i64))) :
    Calls Try.prog 15 #[.slice A n c, .int .i64 level] w fun x w' => ∃ v, x = .returned v ∧ Mine .i64 3 w' w.heap.size v (impL cs level) ∧ Below w.heap.size w w' := by
  have HH := Lib.hid (fun (W : World) (hb : Below w.heap.size w W) => (h.below hb).more hb.size)
  have HN := Lib.hid hn
  have HMK := fun W => run_make_row' (P := Try.prog) 22 3 (.int .i64 0) 8 Try.underlying22 fullI rfl .i64 .i64 n (by omega) (by omega) W
  obtain ⟨F, hF⟩ : ∃ F : Nat → Int, (fun j => impN level (cs.getD j 0)) = F := ⟨_, rfl⟩
  have HFE : Hid (∀ j, F j = impN level (cs.getD j 0)) := Lib.hid fun j => by rw [← hF]
  have HR : Hid (madeF F n n = impL cs level) := Lib.hid (by rw [madeF_end, hn, ← hF]; rfl)
  have hm := mine_made (w := w) F hmax
  have HM0 := Lib.hid (And.intro hm ((Below.refl w.heap.size w).alloc (Nat.le_refl _) (.cells (madeCells #[Value.int .i64 0] n) 3)))
  clear hn h hF hm
  go_enter Try.func15, Try.ntmps15
  go_wp2
  obtain ⟨W1, hW1⟩ : ∃ W1, w.alloc (.cells (madeCells #[Value.int .i64 0] n) 3) = W1 := ⟨_, rfl⟩
  obtain ⟨G, hG⟩ : ∃ G, w.heap.size = G := ⟨_, rfl⟩
  rw [hW1, hG] at HM0
  simp only [hW1, hG]
  rw [hG] at HH
  clear hW1 HMK
  go_loopw [6] (fun v wr => ∃ k : Nat, k ≤ n ∧ v = .int .i64 k ∧ Hid (Mine .i64 3 wr G (.slice (some ⟨G, 0, none⟩) n n) (madeF F n k) ∧ Below G w wr)) (fun v _ => n - (intOf v).toNat)
  case atStart => exact ⟨0, by omega, rfl, HM0⟩
  case round =>
    clear HM0
    obtain ⟨k, hkn, rfl, HM⟩ := hrel
    by_cases hlt : k < n
    · have hk1 : k < cs.length := by have := HN.out; omega
      obtain ⟨b0, o0, rfl, hb0, hcc⟩ := (HH.out _ HM.out.2).at_int hk1
      have hgd : cs[k] = cs.getD k 0 := by rw [List.getD_eq_getElem?_getD, List.getElem?_eq_getElem hk1]; rfl
      rw [hgd] at hcc
      obtain ⟨g, eg, hB, hg, hc, hf, hs⟩ := HM.out.1.spot (madeF_at F n k hlt)
      injection eg with eg
      injection eg with eg
      subst eg
      have hz := hs (F k)
      rw [madeF_step F n k hlt] at hz
      have hfk := HFE.out k
      have ht := fun a b => HM.out.1.twice (madeF_at F n k hlt) a b
      have hbl := fun b => HM.out.2.setCell (p := ⟨G, k, none⟩) hB b
      have hbl2 := fun a b => (HM.out.2.setCell (p := ⟨G, k, none⟩) hB a).setCell (p := ⟨G, k, none⟩) hB b
      obtain ⟨hz2, hc2, hf2⟩ := ht level (F k)
      rw [madeF_step F n k hlt] at hz2
      have HZ1 := Lib.hid (And.intro hz (hbl (.int .i64 (F k))))
      have HZ2 := Lib.hid (And.intro hz2 (hbl2 (.int .i64 level) (.int .i64 (F k))))
      generalize cs.getD k 0 = X at *
      generalize F k = Y at *
      unfold impN at hfk
      obtain ⟨q, hq⟩ : ∃ q, level.tmod 2 = q := ⟨_, rfl⟩
      rw [hq] at hfk
      have hq1 : -1 ≤ q ∧ q ≤ 1 := by
        have := Int.tmod_lt_of_pos level (show (0 : Int) < 2 by decide)
        have := Int.lt_tmod_of_pos level (show (0 : Int) < 2 by decide)
        omega
      have wr1 : IntKind.i64.wrap (level + 1) = level + 1 := IntWalk.i64_in _ (by omega)
      have wr2 : IntKind.i64.wrap (level + 2) = level + 2 := IntWalk.i64_in _ (by omega)
      clear hs hz hz2 hgd hk1 hb0 HM hB hg ht hbl hbl2
      by_cases h0 : q = 0
      · subst h0
        rw [if_neg (by decide)] at hfk
        by_cases h2 : X = 2
        · subst h2
          rw [if_pos rfl] at hfk
          subst hfk
          go_wp2
          go_roundw
          case rel => exact ⟨k + 1, by omega, by go_num, HZ2⟩
          case measure => simp [intOf] <;> omega
        rw [if_neg h2] at hfk
        by_cases h4 : X = 4
        · subst h4
          rw [if_pos (.inl rfl)] at hfk
          subst hfk
          go_wp2
          go_roundw
          case rel => exact ⟨k + 1, by omega, by go_num, HZ2⟩
          case measure => simp [intOf] <;> omega
        by_cases h7 : X = 7
        · subst h7
          rw [if_pos (.inr rfl)] at hfk
          subst hfk
          go_wp2
          go_roundw
          case rel => exact ⟨k + 1, by omega, by go_num, HZ2⟩
          case measure => simp [intOf] <;> omega
        rw [if_neg (by omega)] at hfk
        have e2 : (X == 2) = false := by simpa using h2
        have e4 : (X == 4) = false := by simpa using h4
        have e7 : (X == 7) = false := by simpa using h7
        clear h2 h4 h7
        subst hfk
        go_wp2
        go_roundw
        case rel => exact ⟨k + 1, by omega, by go_num, HZ1⟩
        case measure => simp [intOf] <;> omega
      · rw [if_pos h0] at hfk
        have e0 : (q != 0) = true := by simpa using h0
        clear h0
        by_cases h1 : X = 1
        · subst h1
          rw [if_pos (.inl rfl)] at hfk
          subst hfk
          go_wp2
          go_roundw
          case rel => exact ⟨k + 1, by omega, by go_num, HZ2⟩
          case measure => simp [intOf] <;> omega
        by_cases h4 : X = 4
        · subst h4
          rw [if_pos (.inr (.inl rfl))] at hfk
          subst hfk
          go_wp2
          go_roundw
          case rel => exact ⟨k + 1, by omega, by go_num, HZ2⟩
          case measure => simp [intOf] <;> omega
        by_cases h7 : X = 7
        · subst h7
          rw [if_pos (.inr (.inr rfl))] at hfk
          subst hfk
          go_wp2
          go_roundw
          case rel => exact ⟨k + 1, by omega, by go_num, HZ2⟩
          case measure => simp [intOf] <;> omega
        rw [if_neg (by omega)] at hfk
        have e1 : (X == 1) = false := by simpa using h1
        have e4 : (X == 4) = false := by simpa using h4
        have e7 : (X == 7) = false := by simpa using h7
        clear h1 h4 h7
        subst hfk
        go_wp2
        go_roundw
        case rel => exact ⟨k + 1, by omega, by go_num, HZ1⟩
        case measure => simp [intOf] <;> omega
    · obtain rfl : k = n := by omega
      go_wp2
      go_ret
      rw [hG]
      exact ⟨_, rfl, by rw [← HR.out]; exact HM.out.1, HM.out.2⟩
end Go.Proofs.Ytfjmcfcaphodgaa
