/-
  Contracts of what the statements of this layer call beside the layer itself: Same of 01, num, many, great, even. No condition but sizes.
-/
import Derived.Test.YtekjejbcdnghjaaDoorZd
import Derived.Test.YtekjejbcdnghjaaDoorZHtw
import Derived.Test.YtekjejbcdnghjaaDoorZStr
import Derived.Deep.QuietTactic
import Derived.BigQuiet
set_option linter.unusedVariables false
set_option linter.unusedSimpArgs false
namespace Go.Proofs.YtekjejbcdnghjaaDoor
open Go.ChangeShapes Go.WideShapes Go.ChangeAt Go.RowKit Go.Sort

set_option maxHeartbeats 1000000 in
theorem eqs_ok (A B : Option Addr) (c d n : Nat) (xs : List Int) (w : World) (hnx : n = xs.length) (hn : n ≤ 1000000) (h1 : Has w w.heap.size A (xs.map (Value.int .i64))) (h2 : Has w w.heap.size B (xs.map (Value.int .i64))) :
    Calls Tryd.prog 12 #[.slice A n c, .slice B n d] w fun e w' => e = .returned (.bool true) ∧ Below w.heap.size w w' := by
  have HN := Lib.hid hnx
  clear hnx
  go_enter Tryd.func12, Tryd.ntmps12
  go_wp2
  go_loopw [5] (fun i wr => ∃ k : Nat, k ≤ n ∧ i = .int .i64 k ∧ ∃ q, wr = w.drewN q) (fun i _ => n - (intOf i).toNat)
  case atStart => exact ⟨0, by omega, rfl, 0, rfl⟩
  case round =>
    obtain ⟨k, hk, rfl, q, rfl⟩ := hrel
    by_cases hlt : k < n
    · have hlt2 : k < xs.length := by rw [← HN.out]; exact hlt
      obtain ⟨b, off, rfl, hb, hc⟩ := h1.at_int hlt2
      obtain ⟨b2, off2, rfl, hb2, hc2⟩ := h2.at_int hlt2
      generalize xs[k] = X at hc hc2
      clear h1 h2
      go_wp2
      go_quiet (fail)
      go_wp2
      go_roundw
      case rel => exact ⟨k + 1, by omega, by go_num, _, rfl⟩
      case measure => simp [intOf] <;> omega
    · obtain rfl : k = n := by omega
      go_wp2
      go_ret
      exact ⟨rfl, below_drewN (Below.refl _ _) _⟩

theorem num_ok (z : Int) (w : World) : Calls Tryd.prog 16 #[.int .i64 z] w fun e w' => e = .returned (.int .i64 z) ∧ w = w' := by
  go_enter Tryd.func16, Tryd.ntmps16
  go_wp2
  go_ret
  exact ⟨rfl, rfl⟩

/-- patterns too many, or too long -/
def manyB (zs : List ByteArray) : Bool := decide (20 < zs.length) || zs.any fun s => decide (40 < s.size)
theorem many_small {zs : List ByteArray} (h : manyB zs = false) : zs.length ≤ 20 ∧ ∀ z ∈ zs, z.size ≤ 40 := by
  unfold manyB at h
  simp only [Bool.or_eq_false_iff, decide_eq_false_iff_not, List.any_eq_false, decide_eq_true_eq] at h
  exact ⟨by omega, fun z hz => by have := h.2 z hz; omega⟩
set_option maxHeartbeats 1000000 in
theorem many_ok (A : Option Addr) (c : Nat) (zs : List ByteArray) (w : World) (hn : zs.length ≤ 9223372036854775807) (hz : ∀ z ∈ zs, z.size ≤ 9223372036854775807) (h : Has w w.heap.size A (zs.map Value.string)) :
    Calls Tryd.prog 17 #[.slice A zs.length c] w fun e w' => e = .returned (.bool (manyB zs)) ∧ w = w' := by
  obtain ⟨V, hV⟩ : ∃ V, manyB zs = V := ⟨_, rfl⟩
  rw [hV]
  unfold manyB at hV
  by_cases h20 : 20 < zs.length
  · rw [decide_eq_true h20, Bool.true_or] at hV
    subst hV
    have h20' : (zs.length : Int) > 20 := by omega
    go_enter Tryd.func17, Tryd.ntmps17
    go_wp2
    go_ret
    exact ⟨rfl, rfl⟩
  · rw [decide_eq_false h20, Bool.false_or] at hV
    have HV := Lib.hid hV
    have HZ := Lib.hid hz
    have h20' : ¬ (zs.length : Int) > 20 := by omega
    clear hV hz
    go_enter Tryd.func17, Tryd.ntmps17
    go_wp2
    go_loop [3] (fun i => ∃ k : Nat, k ≤ zs.length ∧ i = .int .i64 k ∧ Hid (∀ j (hj : j < zs.length), j < k → ¬ 40 < zs[j].size)) (fun i => zs.length - (intOf i).toNat)
    case atStart => exact ⟨0, by omega, rfl, Lib.hid (fun j hj h => absurd h (by omega))⟩
    case round =>
      obtain ⟨k, hk, rfl, HK⟩ := hrel
      by_cases hlt : k < zs.length
      · obtain ⟨b, off, rfl, hb, hc⟩ := h.at_str hlt
        have HT : Hid (40 < zs[k].size → V = true) := Lib.hid (fun h4 => by
          rw [← HV.out, List.any_eq_true]
          exact ⟨zs[k], List.getElem_mem hlt, decide_eq_true h4⟩)
        have HN : Hid (¬ 40 < zs[k].size → ∀ j (hj : j < zs.length), j < k + 1 → ¬ 40 < zs[j].size) := Lib.hid (fun h4 j hj hjk => by
          rcases Nat.lt_or_ge j k with e | e
          · exact HK.out j hj e
          · have : j = k := by omega
            subst this
            exact h4)
        have hsz := HZ.out _ (List.getElem_mem hlt)
        obtain ⟨s, hs⟩ : ∃ s, zs[k] = s := ⟨_, rfl⟩
        rw [hs] at hc hsz
        simp only [hs] at HT HN
        clear hs h
        by_cases h4 : 40 < s.size
        · have h4' : (s.size : Int) > 40 := by omega
          have HE := Lib.hid (HT.out h4)
          clear HT HN
          go_wp2
          go_ret
          exact ⟨by rw [HE.out]; rfl, rfl⟩
        · have h4' : ¬ (s.size : Int) > 40 := by omega
          have HE := Lib.hid (HN.out h4)
          clear HT HN
          go_wp2
          go_round
          case rel => exact ⟨k + 1, by omega, by go_num, HE⟩
          case measure => simp [intOf]; omega
      · obtain rfl : k = zs.length := by omega
        have HE : Hid (V = false) := Lib.hid (by
          rw [← HV.out, List.any_eq_false]
          intro z hz
          obtain ⟨i, hi, rfl⟩ := List.mem_iff_getElem.1 hz
          simpa using HK.out i hi hi)
        go_wp2
        go_ret
        exact ⟨by rw [HE.out]; rfl, rfl⟩

theorem infoR : (Tryd.prog.info? 21).map (fun i => (i.zero, i.size, i.bytes)) = some (some (.int .i32 0), 1, 4) := by kernel_rfl
theorem great_take (t : List Int) (k : Nat) (h : k < t.length) : (t.take (k + 1)).map greatZ = (t.take k).map greatZ ++ [greatZ t[k]] := by
  rw [List.take_add_one, List.getElem?_eq_getElem h, Option.toList_some, List.map_append]; rfl
set_option maxHeartbeats 1000000 in
theorem great_ok (A : Option Addr) (c : Nat) (t : List Int) (w : World) (hn : t.length ≤ 1000000) (h : Has w w.heap.size A (t.map (Value.int .i32))) (hw : ∀ z ∈ t, (Lit.int .i32 z).wf = true) :
    Calls Tryd.prog 24 #[.slice A t.length c] w fun e w' => SliceOf .i32 w w' e (t.map greatZ) := by
  have H2 := Lib.hid h
  clear h
  go_enter Tryd.func24, Tryd.ntmps24
  go_wp2
  go_loopw [3, 4] (fun v i wr => ∃ k : Nat, k ≤ t.length ∧ i = .int .i64 k ∧ Mine .i32 21 wr w.heap.size v ((t.take k).map greatZ) ∧ Below w.heap.size w wr) (fun _ i _ => t.length - (intOf i).toNat)
  case atStart => exact ⟨0, by omega, rfl, Mine.nil_ _ _ _ _, Below.refl _ _⟩
  case round =>
    obtain ⟨k, hk, rfl, hM, hbl⟩ := hrel
    have hB := hbl.size
    have hlen : ((t.take k).map greatZ).length ≤ 1000000 := by rw [List.length_map, List.length_take]; omega
    by_cases hlt : k < t.length
    · obtain ⟨b, off, rfl, hb, hca⟩ := H2.out.at_int hlt
      have hcc := (hbl.cell (p := ⟨b, off + k, none⟩) hb).trans hca
      have HT := great_take t k hlt
      obtain ⟨X, hX⟩ : ∃ X, t[k] = X := ⟨_, rfl⟩
      rw [hX] at hcc HT
      obtain ⟨Y, hY⟩ : ∃ Y, greatZ X = Y := ⟨_, rfl⟩
      rw [hY] at HT
      unfold greatZ at hY
      have HT := Lib.hid HT
      obtain ⟨xs, hxs⟩ : ∃ xs, (t.take k).map greatZ = xs := ⟨_, rfl⟩
      rw [hxs] at HT hM hlen
      clear hX hca hb hxs
      by_cases h1 : X ≥ 97
      · by_cases h2 : X ≤ 122
        · rw [if_pos ⟨h1, h2⟩] at hY
          subst hY
          have hk32 : X - 97 + 65 = X - 32 := by omega
          go_wp2_with (at_builtin; refine wpList_push rfl _ _ 22 rfl Tryd.underlying22 infoR (by omega) w.heap.size _ xs (X - 32) w _ hM rfl rfl hbl hB (by omega) ?_; intro v' w3 hM3 hb3)
          go_roundw
          case rel => exact ⟨k + 1, by omega, by go_num, by rw [HT.out]; exact hM3, hb3⟩
          case measure => simp [intOf]; omega
        · rw [if_neg (by omega)] at hY
          subst hY
          go_wp2_with (at_builtin; refine wpList_push rfl _ _ 22 rfl Tryd.underlying22 infoR (by omega) w.heap.size _ xs X w _ hM rfl rfl hbl hB (by omega) ?_; intro v' w3 hM3 hb3)
          go_roundw
          case rel => exact ⟨k + 1, by omega, by go_num, by rw [HT.out]; exact hM3, hb3⟩
          case measure => simp [intOf]; omega
      · rw [if_neg (by omega)] at hY
        subst hY
        go_wp2_with (at_builtin; refine wpList_push rfl _ _ 22 rfl Tryd.underlying22 infoR (by omega) w.heap.size _ xs X w _ hM rfl rfl hbl hB (by omega) ?_; intro v' w3 hM3 hb3)
        go_roundw
        case rel => exact ⟨k + 1, by omega, by go_num, by rw [HT.out]; exact hM3, hb3⟩
        case measure => simp [intOf]; omega
    · obtain rfl : k = t.length := by omega
      rw [List.take_length] at hM
      go_wp2
      go_ret
      exact ⟨_, rfl, hM.sliceV hbl⟩

/-- digits that are all even -/
def evenB (d : List Int) : Bool := d.all fun x => decide (x.tmod 2 = 0)
set_option maxHeartbeats 1000000 in
theorem even_ok (A : Option Addr) (c : Nat) (d : List Int) (w : World) (hn : d.length ≤ 1000000) (h : Has w w.heap.size A (d.map (Value.int .i64))) :
    Calls Tryd.prog 25 #[.slice A d.length c] w fun e w' => e = .returned (.bool (evenB d)) ∧ w = w' := by
  obtain ⟨V, hV⟩ : ∃ V, evenB d = V := ⟨_, rfl⟩
  rw [hV]
  unfold evenB at hV
  have HV := Lib.hid hV
  clear hV
  go_enter Tryd.func25, Tryd.ntmps25
  go_wp2
  go_loop [3] (fun i => ∃ k : Nat, k ≤ d.length ∧ i = .int .i64 k ∧ Hid (∀ j (hj : j < d.length), j < k → d[j].tmod 2 = 0)) (fun i => d.length - (intOf i).toNat)
  case atStart => exact ⟨0, by omega, rfl, Lib.hid (fun j hj h => absurd h (by omega))⟩
  case round =>
    obtain ⟨k, hk, rfl, HK⟩ := hrel
    by_cases hlt : k < d.length
    · obtain ⟨b, off, rfl, hb, hc⟩ := h.at_int hlt
      have HT : Hid (d[k].tmod 2 ≠ 0 → V = false) := Lib.hid (fun h4 => by
        rw [← HV.out, List.all_eq_false]
        exact ⟨d[k], List.getElem_mem hlt, by simpa using h4⟩)
      have HN : Hid (d[k].tmod 2 = 0 → ∀ j (hj : j < d.length), j < k + 1 → d[j].tmod 2 = 0) := Lib.hid (fun h4 j hj hjk => by
        rcases Nat.lt_or_ge j k with e | e
        · exact HK.out j hj e
        · have : j = k := by omega
          subst this
          exact h4)
      obtain ⟨X, hX⟩ : ∃ X, d[k] = X := ⟨_, rfl⟩
      rw [hX] at hc
      simp only [hX] at HT HN
      obtain ⟨R, hR⟩ : ∃ R, X.tmod 2 = R := ⟨_, rfl⟩
      rw [hR] at HT HN
      clear hX h
      by_cases h4 : R = 0
      · have HE := Lib.hid (HN.out h4)
        clear HT HN
        subst h4
        go_wp2
        go_round
        case rel => exact ⟨k + 1, by omega, by go_num, HE⟩
        case measure => simp [intOf]; omega
      · have HE := Lib.hid (HT.out h4)
        clear HT HN
        go_wp2
        go_ret
        exact ⟨by rw [HE.out]; rfl, rfl⟩
    · obtain rfl : k = d.length := by omega
      have HE : Hid (V = true) := Lib.hid (by
        rw [← HV.out, List.all_eq_true]
        intro z hz
        obtain ⟨i, hi, rfl⟩ := List.mem_iff_getElem.1 hz
        exact decide_eq_true (HK.out i hi hi))
      go_wp2
      go_ret
      exact ⟨by rw [HE.out]; rfl, rfl⟩
end Go.Proofs.YtekjejbcdnghjaaDoor
