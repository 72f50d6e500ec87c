/-
  Contract of the program's Norm: any spans. No condition but bounds on lengths and numbers.
-/
import Derived.Test.YtojplkkmpnaibaaPaint
import Derived.Test.YtojplkkmpnaibaaNormMath
set_option linter.unusedVariables false
namespace Go.Proofs.Ytojplkkmpnaibaa
open Go.ChangeShapes Go.WideShapes Go.ChangeAt Go.RowKit

set_option maxHeartbeats 4000000 in
theorem norm_ok (A : Option Addr) (c n : Nat) (l : List Sp) (N : Int) (w : World) (hnl : n = l.length) (hn : n ≤ 4000) (hN : N ≤ 10000) (hh : HasS w w.heap.size A l) :
    Calls Try.prog 13 #[.slice A n c, .int .i64 N] w fun e w' => MineSOf w w' e (of (vals l N)) := by
  by_cases hN0 : N ≤ 0
  · rw [vals_neg _ _ hN0, of_nil]
    go_enter Try.func13, Try.ntmps13
    go_wp2
    go_ret
    exact ⟨_, rfl, MineS.nil_ _ _, Below.refl _ _⟩
  have H34 := Lib.hid (fun w1 (h : HasS w1 w1.heap.size A l) => clip_ok A c n l N w1 hnl (by omega) h)
  have hcl := length_clip N l
  have H35 := Lib.hid (fun A1 c1 w1 (h : HasS w1 w1.heap.size A1 (clipP N l)) => cellEnds_ok A1 c1 (clipP N l).length (clipP N l) N w1 rfl (by omega) h)
  obtain ⟨m, hm, hm0⟩ := ends_two (N := N) (l := l) (by omega)
  have hml : m ≤ 10000 := by have := length_endsP N (clipP N l); omega
  have H36 := Lib.hid (fun A1 c1 be ce w1 h hbe hends => paint_ok A1 c1 (clipP N l).length (clipP N l) be 0 ce m (endsP N (clipP N l)) w1 rfl (by omega) hm hml h (endsP_spec N (clipP N l)).1
    (fun s hs => ⟨((endsP_spec N (clipP N l)).2 _).2 (by unfold ends0; exact List.mem_append_right _ (List.mem_flatMap.2 ⟨s, hs, by simp⟩)), ((endsP_spec N (clipP N l)).2 _).2 (by unfold ends0; exact List.mem_append_right _ (List.mem_flatMap.2 ⟨s, hs, by simp⟩))⟩) hbe hends)
  have HS := Lib.hid (fun k hk => norm_step (N := N) (l := l) (by omega) hm (k := k) hk)
  have HE := Lib.hid (norm_end (N := N) (l := l) (by omega) hm)
  have HZ := Lib.hid (ends_zero (N := N) (l := l) (by omega) hm)
  have HVL : Hid (∀ k, k < m → (VL (endsP N (clipP N l)) m (clipP N l))[k]? = some (lastVal (clipP N l) (eAt (endsP N (clipP N l)) k))) := Lib.hid (fun k hk => by unfold VL; simp [hk])
  have HVN : Hid ((VL (endsP N (clipP N l)) m (clipP N l)).length = m) := Lib.hid (by simp [VL])
  have HLN : Hid (∀ k : Nat, (of ((vals l N).take k)).length ≤ 100000) := Lib.hid (fun k => by
    have := length_of ((vals l N).take k)
    rw [List.length_take, length_vals] at this
    omega)
  generalize VL (endsP N (clipP N l)) m (clipP N l) = vs at H36 HVL HVN
  obtain ⟨n1, hn1⟩ : ∃ n1, (clipP N l).length = n1 := ⟨_, rfl⟩
  rw [hn1] at H35 H36
  generalize endsP N (clipP N l) = E at H35 hm H36 HS HE HZ HVL
  have HM := Lib.hid hm
  have hEne : E ≠ [] := fun h => by rw [h] at hm; simp at hm
  generalize vals l N = xs at HS HE HLN ⊢
  generalize clipP N l = parts at H34 H35 H36 HS HVL hn1
  have hml2 : E.length = m + 1 := hm.symm
  clear hm hnl hcl
  go_enter Try.func13, Try.ntmps13
  go_wp2_with (first
    | (go_at_call 34; refine (H34.out _ hh).mono ?_; rintro e w1 ⟨v1, rfl, hown1, hb1⟩; obtain ⟨A1, c1, hv1, hc1, _, hs1⟩ := hown1.has; rw [hn1] at hv1; subst hv1; clear hown1)
    | (go_at_call 35; refine (H35.out A1 c1 _ hs1).mono ?_; rintro e w2 ⟨v2, rfl, hown2, hb2⟩; obtain ⟨g, c2, hv2, hg1, hg2, hcell2⟩ := hown2.form hEne; rw [hml2] at hv2; subst hv2; have hs2 := hs1.carry hb2; have hb12 := below_trans hb1 hb2 hb1.size; clear hown2)
    | (go_at_call 36; refine (H36.out A1 c1 g c2 _ hs2 hg2 (fun j hj => by rw [Nat.zero_add]; have h := hcell2 j _ (List.getElem?_eq_getElem hj); rw [h]; simp [List.getD, List.getElem?_eq_getElem hj])).mono ?_; rintro e w3 ⟨v3, rfl, hown3, hb3⟩; obtain ⟨A3, c3, hv3, hs3⟩ := hown3.reads; rw [HVN.out] at hv3; subst hv3; have hb13 := below_trans hb12 hb3 hb12.size; clear hown3))
  have hg3 : g < w3.heap.size := by have := hb3.size; omega
  have HEN : Hid (∀ j, j ≤ m → w3.cell? ⟨g, j, none⟩ = some (.int .i64 (eAt E j))) := Lib.hid (fun j hj => by
    have hj2 : j < E.length := by omega
    have h := hcell2 j _ (List.getElem?_eq_getElem hj2)
    refine (hb3.cell (p := ⟨g, j, none⟩) hg2).trans (h.trans ?_)
    unfold eAt
    simp [List.getD, List.getElem?_eq_getElem hj2])
  clear hcell2 hs1 hs2 hb1 hb2 hb12 hb3 hg1 hg2
  go_loopw [7, 22] (fun v j wr => ∃ k : Nat, k ≤ m ∧ j = .int .i64 k ∧ MineS wr w3.heap.size v (of (xs.take (eAt E k).toNat)) ∧ Below w3.heap.size w3 wr) (fun _ j _ => m - (intOf j).toNat)
  case atStart => exact ⟨0, by omega, rfl, by rw [HZ.out]; exact MineS.nil_ _ _, Below.refl _ _⟩
  case round =>
    obtain ⟨k, hk, rfl, hown, hbl⟩ := hrel
    by_cases hlt : k < m
    · have hsz := hbl.size
      have hvk : k < vs.length := by rw [HVN.out]; exact hlt
      obtain ⟨b3, o3, rfl, hb3, hc3⟩ := hs3.at_int hvk
      have hvv := HVL.out k hlt
      rw [List.getElem?_eq_getElem hvk] at hvv
      injection hvv with hvv
      have hstep := HS.out k hlt
      rw [← hvv] at hstep
      obtain ⟨V, hV⟩ : ∃ V, vs[k] = V := ⟨_, rfl⟩
      rw [hV] at hc3 hstep
      have hce := (hbl.cell (p := ⟨g, k + 1, none⟩) hg3).trans (HEN.out (k + 1) (by omega))
      have hcv := (hbl.cell (p := ⟨b3, o3 + k, none⟩) hb3).trans hc3
      obtain ⟨T, hT⟩ : ∃ T, eAt E (k + 1) = T := ⟨_, rfl⟩
      have hT2 : eAt E (k + 1) = T := hT
      rw [hT] at hce hstep
      have hlen := HLN.out (eAt E k).toNat
      generalize of (xs.take (eAt E k).toNat) = acc at hown hstep hlen
      have HX := Lib.hid (ext_ok w3.heap.size u7 acc T V wr hown hsz hlen)
      replace hstep := Lib.hid hstep
      replace hT2 := Lib.hid hT2
      have kl : (k : Int) + 1 < (m : Int) + 1 := by omega
      have kn : (0 : Int) ≤ (k : Int) + 1 := by omega
      have kt : ((k : Int) + 1).toNat = k + 1 := by omega
      clear hvv hV hT hown hc3 hlen
      go_wp2_with (go_at_call 37; refine HX.out.mono ?_; rintro e w5 ⟨v', rfl, hown', hb'⟩)
      go_roundw
      case rel => exact ⟨k + 1, by omega, by go_num, by rw [hT2.out, ← hstep.out]; exact hown', hbl.trans hb'⟩
      case measure => simp [intOf]; omega
    · obtain rfl : k = m := by omega
      rw [HE.out] at hown
      go_wp2
      go_ret
      exact ⟨_, rfl, hown.low hb13.size, below_trans hb13 hbl hb13.size⟩
end Go.Proofs.Ytojplkkmpnaibaa
