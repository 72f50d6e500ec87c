/-
  The program's Points: a word between dots, its weights. Condition: a word of at most a million letters.
-/
import Derived.Test.YtekjejbcdnghjaaDoorHpe
import Derived.Test.YtekjejbcdnghjaaDoorHrf
import Derived.Deep.RegionLaw
set_option linter.unusedVariables false
set_option linter.unusedSimpArgs false
namespace Go.Proofs.YtekjejbcdnghjaaDoor
open Go.ChangeShapes Go.WideShapes Go.ChangeAt Go.RowKit Go.Sort

theorem small_ok (r : Int) (w : World) : Calls Tryd.prog 77 #[.int .i32 r] w fun e w' => e = .returned (.int .i32 (smallZ r)) ∧ w = w' := by
  unfold smallZ
  by_cases h1 : r ≥ 65
  · by_cases h2 : r ≤ 90
    · rw [if_pos ⟨h1, h2⟩]
      have e1 : IntKind.i32.wrap (r - 65) = r - 65 := IntWalk.i32_in _ (by omega)
      have e2 : IntKind.i32.wrap (r - 65 + 97) = r + 32 := by rw [IntWalk.i32_in _ (by omega)]; omega
      go_enter Tryd.func77, Tryd.ntmps77
      go_wp2
      go_ret
      exact ⟨rfl, rfl⟩
    · rw [if_neg (by omega)]
      go_enter Tryd.func77, Tryd.ntmps77
      go_wp2
      go_ret
      exact ⟨rfl, rfl⟩
  · rw [if_neg (by omega)]
    go_enter Tryd.func77, Tryd.ntmps77
    go_wp2
    go_ret
    exact ⟨rfl, rfl⟩
theorem small_wf {r : Int} (h : (Lit.int .i32 r).wf = true) : (Lit.int .i32 (smallZ r)).wf = true := by
  unfold smallZ
  split
  · exact WalkArith.wf_i32 (by omega)
  · exact h
theorem dots_wf {wd : List Int} (h : ∀ z ∈ wd, (Lit.int .i32 z).wf = true) : ∀ z ∈ dotsW wd, (Lit.int .i32 z).wf = true := fun z hz => by
  unfold dotsW at hz
  simp only [List.cons_append, List.mem_cons, List.mem_append, List.mem_map, List.mem_singleton, List.not_mem_nil, or_false] at hz
  rcases hz with rfl | ⟨r, hr, rfl⟩ | rfl
  · rfl
  · exact small_wf (h r hr)
  · rfl

theorem run_roomR (n : Nat) (hn : n ≤ 1000) (W : World) : (Instr.makeSlice 22 (.int .i64 0) (.int .i64 (n : Int))).run Tryd.prog W = .ok (.slice (some ⟨W.heap.size, 0, none⟩) 0 n) (W.alloc (.cells (madeCells #[Value.int .i32 0] n) 21)) := by
  obtain ⟨i, hi, hzz⟩ := Option.map_eq_some_iff.1 infoI32
  simp only [Prod.mk.injEq] at hzz
  obtain ⟨hz, hs, hb⟩ := hzz
  have := run_make (P := Tryd.prog) W 22 21 i (.int .i32 0) Tryd.underlying22 hi hz .i64 .i64 0 (n : Int) (by omega) (by omega) (by rw [hb]; omega) (by omega)
  rw [this, hs, Nat.mul_one]
  rfl
theorem mine_roomR {w : World} {n : Nat} (hn : n ≤ 1000) : Mine .i32 21 (w.alloc (.cells (madeCells #[Value.int .i32 0] n) 21)) w.heap.size (.slice (some ⟨w.heap.size, 0, none⟩) 0 n) [] := by
  refine ⟨by simp, .inr ⟨w.heap.size, n, _, by simp, Nat.le_refl _, heap_alloc_new w _, by simp, by unfold maxLen; omega, by simp [madeCells], by simp⟩⟩

set_option maxRecDepth 20000 in
set_option maxHeartbeats 4000000 in
theorem dotted_ok (B : Option Addr) (c' : Nat) (wd : List Int) (w : World) (hw : wd.length ≤ 100) (h2 : Has w w.heap.size B (wd.map (Value.int .i32))) :
    Calls Tryd.prog 61 #[.slice B wd.length c'] w fun e w' => SliceOf .i32 w w' e (dotsW wd) := by
  obtain ⟨m, hm⟩ : ∃ m : Nat, m = wd.length + 2 := ⟨_, rfl⟩
  have hmI : (wd.length : Int) + 2 = (m : Int) := by omega
  have hm9 : m ≤ 1000 := by omega
  clear hm
  have HMK := fun W => run_roomR m hm9 W
  have hmine := fun W => mine_roomR (w := W) hm9
  obtain ⟨T, hT⟩ : ∃ T, dotsW wd = T := ⟨_, rfl⟩
  have HTE := Lib.hid hT
  have HB := Lib.hid h2
  rw [hT]
  clear h2 hT
  have hM0 := hmine w
  have hb0 : Below w.heap.size w (w.alloc (.cells (madeCells #[Value.int .i32 0] m) 21)) := (Below.refl _ _).alloc (Nat.le_refl _) _
  obtain ⟨W0, hW0⟩ : ∃ W0, w.alloc (.cells (madeCells #[Value.int .i32 0] m) 21) = W0 := ⟨_, rfl⟩
  have hmk : (Instr.makeSlice 22 (.int .i64 0) (.int .i64 (m : Int))).run Tryd.prog w = .ok (.slice (some ⟨w.heap.size, 0, none⟩) 0 m) W0 := by rw [← hW0]; exact HMK w
  rw [hW0] at hM0 hb0
  have hs0 := hb0.size
  clear HMK hmine hW0
  go_enter Tryd.func61, Tryd.ntmps61
  go_wp2_with (at_builtin; refine wpList_push rfl _ _ 22 rfl Tryd.underlying22 infoI32 (by omega) w.heap.size _ [] 46 w _ hM0 rfl rfl hb0 hs0 (by simp) ?_; intro v1 w1 hM1 hb1)
  have HS := Lib.hid (And.intro hM1 hb1)
  clear hM0 hb0 hs0 hM1 hb1 hmk
  go_loopw [3, 15] (fun v i wr => ∃ k : Nat, k ≤ wd.length ∧ i = .int .i64 k ∧ Mine .i32 21 wr w.heap.size v (46 :: (wd.take k).map smallZ) ∧ Below w.heap.size w wr) (fun _ i _ => wd.length - (intOf i).toNat)
  case atStart => exact ⟨0, by omega, rfl, HS.out.1, HS.out.2⟩
  case round =>
    clear HS
    obtain ⟨k, hk, rfl, hM, hbl⟩ := hrel
    have hB := hbl.size
    have hlen : (46 :: (wd.take k).map smallZ).length ≤ 200 := by simp; omega
    by_cases hlt : k < wd.length
    · obtain ⟨b, off, rfl, hb, hca⟩ := HB.out.at_int hlt
      have hcc := (hbl.cell (p := ⟨b, off + k, none⟩) hb).trans hca
      have HT := dots_take wd k hlt
      obtain ⟨X, hX⟩ : ∃ X, wd[k] = X := ⟨_, rfl⟩
      rw [hX] at hcc HT
      have HT := Lib.hid HT
      have cg := fun w => small_ok X w
      obtain ⟨Y, hY⟩ : ∃ Y, smallZ X = Y := ⟨_, rfl⟩
      rw [hY] at HT
      simp only [hY] at cg
      obtain ⟨xs, hxs⟩ : ∃ xs, 46 :: (wd.take k).map smallZ = xs := ⟨_, rfl⟩
      rw [hxs] at HT hM hlen
      clear hX hY hca hb hxs
      go_wp2_with (first
        | (go_at_call 77; refine (cg _).mono ?_; rintro e w9 ⟨rfl, rfl⟩)
        | (at_builtin; refine wpList_push rfl _ _ 22 rfl Tryd.underlying22 infoI32 (by omega) w.heap.size _ xs Y w _ hM rfl rfl hbl hB (by omega) ?_; intro v' w3 hM3 hb3))
      go_roundw
      case rel => exact ⟨k + 1, by omega, by go_num, by rw [HT.out]; exact hM3, hb3⟩
      case measure => simp [intOf]; omega
    · obtain rfl : k = wd.length := by omega
      have HD := dots_end wd
      rw [HTE.out] at HD
      obtain ⟨xs, hxs⟩ : ∃ xs, 46 :: (wd.take wd.length).map smallZ = xs := ⟨_, rfl⟩
      rw [hxs] at HD hM hlen
      have HD := Lib.hid HD
      clear hxs
      go_wp2_with (at_builtin; refine wpList_push rfl _ _ 22 rfl Tryd.underlying22 infoI32 (by omega) w.heap.size _ xs 46 w _ hM rfl rfl hbl hB (by omega) ?_; intro v' w5 hM5 hb5; rw [HD.out] at hM5)
      go_ret
      exact ⟨_, rfl, hM5.sliceV hb5⟩

set_option maxRecDepth 20000 in
set_option maxHeartbeats 8000000 in
theorem weights_ok (cnt : Int) (B0 n R : Nat) (P M : Path → Option Nat) (V : Path → Value) (acc : List Pat) (B : Option Addr) (c' : Nat) (wd : List Int) (w : World) (hTP : TrieP cnt w B0 n R P M V acc) (hok : ∀ p ∈ acc, OkP p.1 p.2)
    (hw : wd.length ≤ 64) (hwf : ∀ z ∈ wd, (Lit.int .i32 z).wf = true) (h2 : Has w w.heap.size B (wd.map (Value.int .i32))) :
    Calls Tryd.prog 39 #[.pointer (some ⟨R, 0, none⟩), .slice B wd.length c'] w fun e w' =>
      ∃ G m W6 b, e = .returned (.slice (some ⟨G, 1, none⟩) (wd.length + 1) (m - 1)) ∧ m = wd.length + 3 ∧ BeS G m w W6 w' b ∧ BestOf (Contr acc (dotsW wd)) b := by
  have cd := dotted_ok B c' wd w (by omega) h2
  have hTw := dots_wf hwf
  have hTl := dotsW_length wd
  obtain ⟨T, hT⟩ : ∃ T, dotsW wd = T := ⟨_, rfl⟩
  rw [hT] at cd hTw hTl ⊢
  obtain ⟨m, hm⟩ : ∃ m : Nat, m = T.length + 1 := ⟨_, rfl⟩
  have hmI : (T.length : Int) + 1 = (m : Int) := by omega
  have hm1 : T.length + 1 ≤ m := by omega
  have hm2 : m ≤ T.length + 1 := by omega
  have hT66 : T.length ≤ 66 := by omega
  have HMM := Lib.hid hm
  have HTL := Lib.hid hTl
  have HMK := fun W => run_make_row' (P := Tryd.prog) 23 3 (.int .i64 0) 8 Tryd.underlying23 fullI rfl .i64 .i64 m (by omega) (by omega) W
  have HTP := Lib.hid hTP
  have HOK := Lib.hid hok
  have HTW := Lib.hid hTw
  have HW64 := Lib.hid hw
  clear hTP hok hTw hT h2 hwf hm hTl hw
  go_enter Tryd.func39, Tryd.ntmps39
  go_wp2_with (go_at_call 61; refine cd.mono ?_; rintro e w5 ⟨v, rfl, A6, c6, rfl, hc6, hh6, hb5⟩; clear cd)
  obtain ⟨W6, hW6⟩ : ∃ W6, w5.alloc (.cells (madeCells #[Value.int .i64 0] m) 3) = W6 := ⟨_, rfl⟩
  have hbe : BeS w5.heap.size m w W6 W6 (List.replicate m 0) := by rw [← hW6]; exact ⟨mine_zeros (by omega), by simp, Keeps.refl _ _, hb5.alloc hb5.size _, hb5.size⟩
  have h66 : Has W6 w5.heap.size A6 (T.map (Value.int .i32)) := by rw [← hW6]; exact hh6.below ((Below.refl _ _).alloc (Nat.le_refl _) _)
  have hs6 : w5.heap.size ≤ W6.heap.size := by rw [← hW6]; simp
  obtain ⟨G, hG⟩ : ∃ G, w5.heap.size = G := ⟨_, rfl⟩
  rw [hG] at hbe h66 hs6
  have HBE := Lib.hid (And.intro hbe (BestOf.zeros (C := CA acc T 0) (fun j c => ca_zero acc T j c) m))
  have H66 := Lib.hid h66
  have HS6 := Lib.hid hs6
  have hct := hc6.1
  simp only [hW6, hG]
  clear hh6 hb5 hbe h66 hs6 hW6 hG HMK hmI hc6
  go_loopw [16] (fun i wr => ∃ (k : Nat) (b : List Int), k ≤ T.length ∧ i = .int .i64 k ∧ Hid (BeS G m w W6 wr b ∧ BestOf (CA acc T k) b)) (fun i _ => T.length - (intOf i).toNat)
  case atStart => exact ⟨0, _, by omega, rfl, HBE⟩
  case round =>
    clear HBE
    obtain ⟨k, b, hk, rfl, HS⟩ := hrel
    by_cases hlt : k < T.length
    · have hs1 := fun W => is_lo (some ⟨G, 0, none⟩) m m k (k : Int) rfl (by omega) W
      have hs2 := fun W => rs_lo A6 T.length c6 k (k : Int) rfl (by omega) W
      obtain ⟨q, hq⟩ : ∃ q, m - k = q := ⟨_, rfl⟩
      have e1 : subA (some ⟨G, 0, none⟩) m k = some ⟨G, k, none⟩ := by unfold subA; rw [if_neg (by omega)]; simp [Addr.add] <;> omega
      rw [e1, hq] at hs1
      have hx6 := H66.out.sub k c6 (by simpa using hct)
      rw [← List.map_drop] at hx6
      have HRA := Lib.hid (fun (u : World) (hB : BeS G m w W6 u b) => raise_ok cnt B0 n R G m q k P M V acc b T (subA A6 c6 k) (c6 - k) w W6 u HTP.out HOK.out HTW.out hB (by omega) HMM.out hlt (by omega) hx6 HS6.out HS.out.2)
      simp only [List.length_drop] at HRA
      obtain ⟨TA, hTA⟩ : ∃ TA, subA A6 c6 k = TA := ⟨_, rfl⟩
      obtain ⟨tl, htl⟩ : ∃ tl, T.length - k = tl := ⟨_, rfl⟩
      obtain ⟨tc, htc⟩ : ∃ tc, c6 - k = tc := ⟨_, rfl⟩
      rw [hTA, htl, htc] at hs2
      simp only [hTA, htl, htc] at HRA
      clear e1 hq hx6 hTA htl htc
      go_wp2
      go_region_law ((go_simp; go_at_call 62; refine (HRA.out _ (HS.out.1.drewN _)).mono ?_; rintro e w9 ⟨b9, rfl, hB9, hb9⟩))
      all_goals
        have HS9 := Lib.hid (And.intro hB9 hb9)
        clear hB9 hb9 HRA
        go_wp2
        go_roundw
        case rel => exact ⟨k + 1, b9, by omega, by go_num, HS9⟩
        case measure => simp [intOf]; omega
    · obtain rfl : k = T.length := by omega
      have hT2 : 2 ≤ T.length := by have := HTL.out; omega
      have hs1 := fun W => is_lh (some ⟨G, 0, none⟩) m m 1 T.length 1 (T.length : Int) rfl rfl (by omega) (by omega) W
      have e1 : subA (some ⟨G, 0, none⟩) m 1 = some ⟨G, 1, none⟩ := by unfold subA; rw [if_neg (by omega)]; simp [Addr.add] <;> omega
      have e2 : T.length - 1 = wd.length + 1 := by have := HTL.out; omega
      rw [e1, e2] at hs1
      have HF : Hid (BestOf (Contr acc T) b) := Lib.hid (HS.out.2.congr (ca_end acc T))
      clear e1 e2
      go_wp2
      go_ret
      exact ⟨G, m, W6, b, rfl, by have := HMM.out; have := HTL.out; omega, HS.out.1, HF.out⟩
end Go.Proofs.YtekjejbcdnghjaaDoor
