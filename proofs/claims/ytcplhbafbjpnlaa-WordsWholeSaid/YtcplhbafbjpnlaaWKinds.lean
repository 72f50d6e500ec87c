/-
  Contract of the program's kindsOf: the kinds of all clusters. Condition: at most 1000 code points.
-/
import Derived.Test.YtcplhbafbjpnlaaWCls
import Derived.Test.YtcplhbafbjpnlaaCuts
import Derived.BigQuiet
set_option linter.unusedVariables false
set_option linter.unusedSimpArgs false
namespace Go.Proofs.Ytcplhbafbjpnlaa
open Go.ChangeShapes Go.WideShapes Go.ChangeAt Go.RowKit Go.Sort

theorem cut_facts (zs : List Int) (k X Y : Nat) (h : (cutsL (cls zs))[k]? = some (X, Y)) : X < Y ∧ Y ≤ zs.length ∧ (KL zs).take (k + 1) = (KL zs).take k ++ [kOf zs X Y] := by
  obtain ⟨h1, h2, h3⟩ := cuts_get' _ _ _ h
  have h4 := (mem_bnds.1 (List.mem_of_getElem? h2)).1
  rw [cls_len] at h4
  refine ⟨h3, h4, ?_⟩
  have hk : (KL zs)[k]? = some (kOf zs X Y) := by unfold KL; rw [List.getElem?_map, h]; rfl
  rw [List.take_add_one, hk]; rfl

set_option maxHeartbeats 2000000 in
theorem kindsOf_ok (A A1 : Option Addr) (c c1 : Nat) (zs : List Int) (w : World) (hn : zs.length ≤ 1000) (hc : zs.length ≤ c) (h : Has w w.heap.size A (zs.map (Value.int .i32))) (h1 : HasC w w.heap.size A1 (cutsL (cls zs))) :
    Calls Try.prog 23 #[.slice A zs.length c, .slice A1 (cutsL (cls zs)).length c1] w fun e w' => SliceOf .i64 w w' e ((0 :: KL zs) ++ [0, 0]) := by
  have hL := cls_len zs
  have hcl := count_len (cls zs)
  have hbn : (bnds (cls zs)).length ≤ 1001 := by have := Bs_len (cls zs) ((cls zs).length + 1); unfold bnds; omega
  have hkl := KL_len zs
  have hF := Lib.hid (cut_facts zs)
  have hcn : (cutsL (cls zs)).length ≤ 1000 := by omega
  have hkn : (KL zs).length = (cutsL (cls zs)).length := by omega
  clear hL hcl hbn hkl
  generalize cutsL (cls zs) = cs at *
  generalize KL zs = K at *
  have hU0 : Below w.heap.size w (w.alloc (.cells #[.int .i64 0] 3)) := (Below.refl _ _).alloc (Nat.le_refl _) _
  have hm0 : Mine .i64 3 (w.alloc (.cells #[.int .i64 0] 3)) w.heap.size (.slice (some ⟨w.heap.size, 0, none⟩) 1 1) (0 :: K.take 0) := Mine.one _ _ _ _ _ (Nat.le_refl _)
  have HKN := Lib.hid hkn
  clear hkn
  obtain ⟨R, hR⟩ : ∃ R, (0 :: K) ++ [0, 0] = R := ⟨_, rfl⟩
  rw [hR]
  have HR := Lib.hid hR
  clear hR
  go_enter Try.func23, Try.ntmps23
  go_wp2
  go_loopw [5, 11] (fun v i wr => ∃ k : Nat, k ≤ cs.length ∧ i = .int .i64 k ∧ Mine .i64 3 wr w.heap.size v (0 :: K.take k) ∧ Below w.heap.size w wr) (fun _ i _ => cs.length - (intOf i).toNat)
  case atStart => exact ⟨0, by omega, rfl, hm0, hU0⟩
  case round =>
    clear hm0 hU0
    obtain ⟨k, hk, rfl, hown, hbw⟩ := hrel
    by_cases hlt : k < cs.length
    · obtain ⟨bC, offC, rfl, hbC, hcc1, hcc2⟩ := (h1.carry hbw).at_ hlt
      obtain ⟨⟨X, Y⟩, hXY⟩ : ∃ p, cs[k] = p := ⟨_, rfl⟩
      rw [hXY] at hcc1 hcc2
      simp only at hcc1 hcc2
      obtain ⟨hXlt, hY, hT⟩ := hF.out k X Y (by rw [List.getElem?_eq_getElem hlt, hXY])
      have HN := Lib.hid (show 0 :: K.take (k + 1) = (0 :: K.take k) ++ [kOf zs X Y] by rw [hT]; rfl)
      have hlen : (0 :: K.take k).length ≤ 1002 := by rw [List.length_cons, List.length_take]; omega
      obtain ⟨bb, off, rfl, hbb, hzc⟩ := (h.carry hbw).at_int (show X < zs.length by omega)
      have HK := Lib.hid (fun w h => kindOf_at (some ⟨bb, off + X, none⟩) (c - X) X Y (Y - X) zs w hn (by omega) hY rfl h)
      have HX := Lib.hid ((h.carry hbw).rng X Y)
      have hcX : ¬ c = X := by omega
      have hsz := hbw.size
      have hB1 : Below w.heap.size w (wr.alloc (.cells #[.int .i64 X, .int .i64 Y] 29)) := hbw.alloc hsz _
      have hM1 := hown.alloc (.cells #[.int .i64 X, .int .i64 Y] 29)
      generalize 0 :: K.take k = acc at hown hlen HN hM1
      generalize kOf zs X Y = y at HK HN
      clear hXY hT h h1 hzc
      go_wp2_with (first
        | (go_at_call 40; refine (HK.out _ (HX.out.carry ((Below.refl _ _).alloc (Nat.le_refl _) _))).mono ?_; rintro e u ⟨rfl, hu⟩; have hM2 := hM1.below hu.1; have hB2 := below_trans hB1 hu.1 hB1.size)
        | (at_builtin; refine wpList_push rfl _ _ 25 rfl Try.underlying25 Try.full3 (by omega) w.heap.size _ acc y w _ hM2 rfl rfl hB2 hB2.size (by omega) ?_; intro v2 w2 hM3 hb3))
      go_roundw
      case rel => exact ⟨k + 1, by omega, by go_num, by rw [HN.out]; exact hM3, hb3⟩
      case measure => simp [intOf] <;> omega
    · obtain rfl : k = cs.length := by omega
      rw [List.take_of_length_le (by rw [HKN.out]; exact Nat.le_refl _)] at hown
      clear h h1
      have hlen : (0 :: K).length ≤ 1002 := by rw [List.length_cons, HKN.out]; omega
      generalize 0 :: K = acc at *
      go_wp2_with (at_builtin; refine wpList_pushs rfl _ _ 25 rfl Try.underlying25 Try.full3 (by omega) w.heap.size _ acc [0, 0] w _ _ rfl hown rfl 2 rfl rfl hbw hbw.size (by omega) (by decide) ?_; intro v2 w2 hM3 hb3)
      go_ret
      rw [HR.out] at hM3
      exact ⟨_, rfl, hM3.sliceV hb3⟩
end Go.Proofs.Ytcplhbafbjpnlaa
