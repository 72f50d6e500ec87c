/-
  The program's needing, hasAll and Has of layer 23. Condition: at most 1000000 fonts, mappings, code points.
-/
import Derived.Test.YtnpcakeagpbgiaaGreatZFbw
set_option linter.unusedVariables false
set_option linter.unusedSimpArgs false
namespace Go.Proofs.YtnpcakeagpbgiaaGreat
open Go.ChangeShapes Go.WideShapes Go.ChangeAt Go.RowKit Go.Sort

theorem infoF : (Tryz.prog.info? 21).map (fun i => (i.zero, i.size, i.bytes)) = some (some (.int .i32 0), 1, 4) := by kernel_rfl
/-- the code points that need a glyph -/
def needL (t : List Int) : List Int := t.filter needsB
theorem needL_take (t : List Int) (k : Nat) (h : k < t.length) : needL (t.take (k + 1)) = if needsB t[k] = true then needL (t.take k) ++ [t[k]] else needL (t.take k) := by
  unfold needL
  rw [List.take_add_one, List.getElem?_eq_getElem h, Option.toList_some, List.filter_append]
  by_cases hb : needsB t[k] = true
  · rw [if_pos hb, List.filter_cons_of_pos hb]; rfl
  · rw [if_neg hb, List.filter_cons_of_neg hb]; simp
theorem needL_le (t : List Int) (k : Nat) : (needL (t.take k)).length ≤ t.length := Nat.le_trans (List.length_filter_le _ _) (by rw [List.length_take]; omega)
set_option maxHeartbeats 2000000 in
theorem needing_ok (A : Option Addr) (c n : Nat) (t : List Int) (w : World) (hzn : n = t.length) (hn : n ≤ 1000000) (h : Has w w.heap.size A (t.map (Value.int .i32))) :
    Calls Tryz.prog 26 #[.slice A n c] w fun e w' => ∃ v, e = .returned v ∧ Mine .i32 21 w' w.heap.size v (needL t) ∧ Below w.heap.size w w' := by
  subst hzn
  have H2 := Lib.hid h
  clear h
  go_enter Tryz.func26, Tryz.ntmps26
  go_wp2
  go_loopw [3, 8] (fun v i wr => ∃ k : Nat, k ≤ t.length ∧ i = .int .i64 k ∧ Mine .i32 21 wr w.heap.size v (needL (t.take k)) ∧ Below w.heap.size w wr) (fun _ i _ => t.length - (intOf i).toNat)
  case atStart => exact ⟨0, by omega, rfl, Mine.nil_ _ _ _ _, Below.refl _ _⟩
  case round =>
    obtain ⟨k, hk, rfl, hM, hbl⟩ := hrel
    have hB := hbl.size
    have hlen := needL_le t k
    by_cases hlt : k < t.length
    · obtain ⟨b, off, rfl, hb, hca⟩ := H2.out.at_int hlt
      have hcc := (hbl.cell (p := ⟨b, off + k, none⟩) hb).trans hca
      have HT := needL_take t k hlt
      obtain ⟨X, hX⟩ : ∃ X, t[k] = X := ⟨_, rfl⟩
      rw [hX] at hcc HT
      have HN := Lib.hid (pneeds_ok X)
      obtain ⟨xs, hxs⟩ : ∃ xs, needL (t.take k) = xs := ⟨_, rfl⟩
      rw [hxs] at HT hM hlen
      generalize needsB X = V at *
      have HT := Lib.hid HT
      have HM := Lib.hid hM
      have HB := Lib.hid hbl
      clear hX hca hb hxs hM hbl
      cases V
      · go_wp2_with (go_at_call 49; (refine (HN.out _).mono ?_); rintro e u ⟨rfl, hu⟩)
        have HZ : Hid (Mine .i32 21 u w.heap.size _ (needL (t.take (k + 1))) ∧ Below w.heap.size w u) := Lib.hid ⟨by rw [HT.out]; exact HM.out.up hu, HB.out.trans (hu.1.mono hB)⟩
        clear hu HM HB HN
        go_roundw
        case rel => exact ⟨k + 1, by omega, by go_num, HZ.out.1, HZ.out.2⟩
        case measure => simp [intOf]; omega
      · go_wp2_with (first
          | (go_at_call 49; (refine (HN.out _).mono ?_); rintro e u ⟨rfl, hu⟩; (have HMU := Lib.hid (HM.out.up hu)); (have HBU := Lib.hid (HB.out.trans (hu.1.mono hB))); (have hBU := HBU.out.size); clear hu)
          | (at_builtin; refine wpList_push rfl _ _ 23 rfl Tryz.underlying23 infoF (by omega) w.heap.size _ xs X w _ HMU.out rfl rfl HBU.out hBU (by omega) ?_; intro v' w3 hM3 hb3))
        have HZ : Hid (Mine .i32 21 w3 w.heap.size v' (needL (t.take (k + 1))) ∧ Below w.heap.size w w3) := Lib.hid ⟨by rw [HT.out]; exact hM3, hb3⟩
        clear hM3 hb3
        go_roundw
        case rel => exact ⟨k + 1, by omega, by go_num, HZ.out.1, HZ.out.2⟩
        case measure => simp [intOf]; omega
    · obtain rfl : k = t.length := by omega
      rw [List.take_length] at hM
      go_wp2
      go_ret
      exact ⟨_, rfl, hM, hbl⟩

theorem zeroF (w : World) : (zeroValue 4).run Tryz.prog w = .ok (.bool false) w := zeroB w
set_option maxHeartbeats 2000000 in
/-- the closure: font i has r not -/
theorem hasclo_ok (g n b1 b2 : Nat) (F : List (List mapS.Dat)) (t : List Int) (i : Nat) (r : Int) (w : World) (hS : Stk w g n F t) (hi : i < F.length) (hr : r ∈ t) (hwf : (Lit.int .i32 r).wf = true) (h1 : w.cell? ⟨b1, 0, none⟩ = some (.slice (some ⟨g, 0, none⟩) n n)) (h2 : w.cell? ⟨b2, 0, none⟩ = some (.int .i64 (i : Int))) :
    Calls Tryz.prog 48 #[.int .i32 r, .pointer (some ⟨b1, 0, none⟩), .pointer (some ⟨b2, 0, none⟩)] w fun e w' => e = .returned (.bool (!hadB F[i] r)) ∧ Up w w' := by
  obtain ⟨b, k, f, hb, hc, hm, hf⟩ := hS.maps i hi
  have hin : i < n := by rw [hS.len]; exact hi
  have hf := hf r hr
  generalize hadB F[i] r = V at *
  have HM := Lib.hid hm
  clear hS hm hr
  go_enter Tryz.func48, Tryz.ntmps48
  go_wp2_with (at_lookup; refine wpList_lookup_bool _ rfl _ _ 62 rfl 21 4 .i32 Tryz.underlying21 Tryz.underlying62 (zeroB _) b _ f rfl HM.out r rfl hwf V hf ?_)
  go_ret
  exact ⟨rfl, Up.refl _⟩
theorem any_more {zs : List Int} {k : Nat} {p : Int → Bool} (hk : k < zs.length) (h0 : (zs.take k).any p = false) (h : p zs[k] = false) : (zs.take (k + 1)).any p = false := by
  rw [List.take_add_one, List.getElem?_eq_getElem hk, List.any_append, h0]
  simp [h]
theorem any_here {zs : List Int} {k : Nat} {p : Int → Bool} (hk : k < zs.length) (h : p zs[k] = true) : zs.any p = true := List.any_eq_true.2 ⟨zs[k], List.getElem_mem hk, h⟩
set_option maxHeartbeats 2000000 in
theorem hasindex_ok (P : Int → Bool) (b1 b2 : Nat) (A : Option Addr) (c n : Nat) (zs : List Int) (w : World) (hzn : n = zs.length) (hn : n ≤ 1000000) (h : Has w w.heap.size A (zs.map (Value.int .i32)))
    (HC : ∀ W r, Up w W → r ∈ zs → Calls Tryz.prog 48 #[.int .i32 r, .pointer (some ⟨b1, 0, none⟩), .pointer (some ⟨b2, 0, none⟩)] W fun e w' => e = .returned (.bool (P r)) ∧ Up W w') :
    Calls Tryz.prog 66 #[.slice A n c, .func (.func 48) #[] #[.pointer (some ⟨b1, 0, none⟩), .pointer (some ⟨b2, 0, none⟩)]] w fun e w' => (∃ r : Int, e = .returned (.int .i64 r) ∧ decide (0 ≤ r) = zs.any P) ∧ Up w w' := by
  subst hzn
  have HC := Lib.hid HC
  have H2 := Lib.hid h
  clear h
  go_enter Tryz.func66, Tryz.ntmps66
  go_wp2
  go_loopw [8] (fun v wr => ∃ k : Nat, k ≤ zs.length ∧ v = .int .i64 k ∧ Hid ((zs.take k).any P = false ∧ Up w wr)) (fun v _ => zs.length - (intOf v).toNat)
  case atStart => exact ⟨0, by omega, rfl, Lib.hid ⟨rfl, Up.refl _⟩⟩
  case round =>
    obtain ⟨k, hk, rfl, HA⟩ := hrel
    by_cases hlt : k < zs.length
    · obtain ⟨b, off, rfl, hb, hca⟩ := H2.out.at_int hlt
      have hcc := (HA.out.2.1.cell (p := ⟨b, off + k, none⟩) hb).trans hca
      have hf := any_here (p := P) hlt
      have ht := any_more hlt HA.out.1
      have HK := HC.out wr zs[k] HA.out.2 (List.getElem_mem hlt)
      obtain ⟨X, hX⟩ : ∃ X, zs[k] = X := ⟨_, rfl⟩
      rw [hX] at hcc hf ht HK
      have HK := Lib.hid HK
      clear hX hca hb
      cases hq : P X
      · have HV := Lib.hid (ht hq)
        rw [hq] at HK
        clear hf ht hq
        go_wp2_with (first | (go_at_call 48; (with_reducible refine HK.out.mono ?_); rintro e u ⟨rfl, hu⟩))
        have HZ : Hid ((zs.take (k + 1)).any P = false ∧ Up w u) := Lib.hid ⟨HV.out, HA.out.2.trans hu⟩
        clear hu HA
        go_roundw
        case rel => exact ⟨k + 1, by omega, by go_num, HZ⟩
        case measure => simp [intOf] <;> omega
      · have HV := Lib.hid (hf hq)
        rw [hq] at HK
        clear hf ht hq
        go_wp2_with (first | (go_at_call 48; (with_reducible refine HK.out.mono ?_); rintro e u ⟨rfl, hu⟩))
        go_ret
        exact ⟨⟨k, rfl, by rw [HV.out]; exact decide_eq_true (by omega)⟩, HA.out.2.trans hu⟩
    · obtain rfl : k = zs.length := by omega
      have HV := HA.out.1
      rw [List.take_length] at HV
      have HV := Lib.hid HV
      go_wp2
      go_ret
      exact ⟨⟨-1, rfl, by rw [HV.out]; rfl⟩, HA.out.2⟩
set_option maxHeartbeats 2000000 in
theorem hascont_ok (P : Int → Bool) (b1 b2 : Nat) (A : Option Addr) (c n : Nat) (zs : List Int) (w : World) (hzn : n = zs.length) (hn : n ≤ 1000000) (h : Has w w.heap.size A (zs.map (Value.int .i32)))
    (HC : ∀ W r, Up w W → r ∈ zs → Calls Tryz.prog 48 #[.int .i32 r, .pointer (some ⟨b1, 0, none⟩), .pointer (some ⟨b2, 0, none⟩)] W fun e w' => e = .returned (.bool (P r)) ∧ Up W w') :
    Calls Tryz.prog 47 #[.slice A n c, .func (.func 48) #[] #[.pointer (some ⟨b1, 0, none⟩), .pointer (some ⟨b2, 0, none⟩)]] w fun e w' => e = .returned (.bool (zs.any P)) ∧ Up w w' := by
  have HI := Lib.hid (hasindex_ok P b1 b2 A c n zs w hzn hn h HC)
  clear h hzn HC
  go_enter Tryz.func47, Tryz.ntmps47
  go_wp2_with (first | (go_at_call 66; (with_reducible refine HI.out.mono ?_); rintro e u ⟨⟨r, rfl, hr⟩, hu⟩))
  go_ret
  exact ⟨by rw [← hr]; rfl, hu⟩
set_option maxHeartbeats 2000000 in
/-- has font i all of them? -/
theorem hasall_ok (g n : Nat) (F : List (List mapS.Dat)) (t : List Int) (i : Nat) (A : Option Addr) (p cc : Nat) (C : List Int) (w : World) (hS : Stk w g n F t) (hi : i < F.length) (hp : p = C.length) (hpn : p ≤ 1000000) (hC : ∀ r ∈ C, r ∈ t ∧ (Lit.int .i32 r).wf = true) (h : Has w w.heap.size A (C.map (Value.int .i32))) :
    Calls Tryz.prog 25 #[.slice (some ⟨g, 0, none⟩) n n, .int .i64 (i : Int), .slice A p cc] w fun e w' => e = .returned (.bool (C.all (hadB F[i]))) ∧ Up w w' := by
  have hu0 : Up w ((w.alloc (.cells #[.slice (some ⟨g, 0, none⟩) n n] 47)).alloc (.cells #[.int .i64 (i : Int)] 3)) := ((Up.refl w).alloc _).alloc _
  have h1 : ((w.alloc (.cells #[.slice (some ⟨g, 0, none⟩) n n] 47)).alloc (.cells #[.int .i64 (i : Int)] 3)).cell? ⟨w.heap.size, 0, none⟩ = some (.slice (some ⟨g, 0, none⟩) n n) := by
    rw [((Below.refl _ (w.alloc (.cells #[.slice (some ⟨g, 0, none⟩) n n] 47))).alloc (Nat.le_refl _) _).cell (p := ⟨w.heap.size, 0, none⟩) (by simp)]
    exact (at_new w _ _).cell 0 _ rfl
  have h2 : ((w.alloc (.cells #[.slice (some ⟨g, 0, none⟩) n n] 47)).alloc (.cells #[.int .i64 (i : Int)] 3)).cell? ⟨w.heap.size + 1, 0, none⟩ = some (.int .i64 (i : Int)) := by
    simp
  have HB := Lib.hid (hascont_ok (fun r => !hadB F[i] r) w.heap.size (w.heap.size + 1) A cc p C _ hp hpn (h.carry hu0.1) (fun W r hu hr => hasclo_ok g n w.heap.size (w.heap.size + 1) F t i r W (hS.carry (hu0.trans hu).1) hi (hC r hr).1 (hC r hr).2 ((hu.1.cell (p := ⟨w.heap.size, 0, none⟩) (by simp; omega)).trans h1) ((hu.1.cell (p := ⟨w.heap.size + 1, 0, none⟩) (by simp)).trans h2)))
  have HV : Hid (C.all (hadB F[i]) = (!C.any (fun r => !hadB F[i] r))) := Lib.hid (by rw [List.all_eq_not_any_not])
  have HU := Lib.hid hu0
  generalize C.all (hadB F[i]) = V at *
  generalize C.any (fun r => !hadB F[i] r) = V2 at *
  clear hu0 h1 h2 hS h hC hp
  go_enter Tryz.func25, Tryz.ntmps25
  go_wp2_with (first | (go_at_call 47; (with_reducible refine HB.out.mono ?_); rintro e u ⟨rfl, hu⟩))
  go_ret
  exact ⟨by rw [HV.out]; rfl, HU.out.trans hu⟩
theorem hasB_need (M : List mapS.Dat) (t : List Int) : (needL t).all (hadB M) = hasB M t := by
  unfold needL hasB
  rw [List.all_filter]
  congr 1
  funext r
  unfold okB hadB
  cases needsB r <;> simp [bne]
theorem needL_in {t : List Int} {r : Int} (h : r ∈ needL t) : r ∈ t := (List.mem_filter.1 h).1
set_option maxHeartbeats 4000000 in
theorem phas_ok (x : fontS.Dat) (v0 v1 v3 v4 v5 : Value) (A T : Option Addr) (c n d m : Nat) (t : List Int) (w : World) (hrow : fontS.row x = [v0, v1, .slice A n c, v3, v4, v5]) (hn : (mapsOf x).length ≤ 1000000) (hml : m = t.length) (hm : m ≤ 1000000) (hwf : ∀ z ∈ t, (Lit.int .i32 z).wf = true)
    (h : Lies w w.heap.size fontS x) (ht : Has w w.heap.size T (t.map (Value.int .i32))) (h0 : v0.cells = #[v0]) (h1 : v1.cells = #[v1]) (h3 : v3.cells = #[v3]) (h4 : v4.cells = #[v4]) (h5 : v5.cells = #[v5]) :
    Calls Tryz.prog 14 #[.agg #[v0, v1, .slice A n c, v3, v4, v5], .slice T m d] w fun e w' => e = .returned (.bool (hasB (mapsOf x) t)) ∧ Below w.heap.size w w' := by
  have hc0 : At (w.alloc (.cells #[v0, v1, .slice A n c, v3, v4, v5] 43)) w.heap.size 43 #[v0, v1, .slice A n c, v3, v4, v5] := at_new w _ _
  have b0 := hc0.cell 0 _ rfl
  have b1 := hc0.cell 1 _ rfl
  have b2 := hc0.cell 2 _ rfl
  have b3 := hc0.cell 3 _ rfl
  have b4 := hc0.cell 4 _ rfl
  have b5 := hc0.cell 5 _ rfl
  have hup0 : Below w.heap.size w (w.alloc (.cells #[v0, v1, .slice A n c, v3, v4, v5] 43)) := (Below.refl _ _).alloc (Nat.le_refl _) _
  generalize hW1 : w.alloc (.cells #[v0, v1, .slice A n c, v3, v4, v5] 43) = W1 at *
  have hs1 : W1.heap.size = w.heap.size + 1 := by rw [← hW1]; simp
  have hg2 : At (W1.alloc (.cells #[v0, v1, .slice A n c, v3, v4, v5] 43)) W1.heap.size 43 #[v0, v1, .slice A n c, v3, v4, v5] := at_new W1 _ _
  have hup : Below w.heap.size w (W1.alloc (.cells #[v0, v1, .slice A n c, v3, v4, v5] 43)) := hup0.alloc hup0.size _
  have HS := Lib.hid (stockOf_ok (some ⟨W1.heap.size, 0, none⟩) T 1 1 d m [x] t _ rfl (by omega) (fun y hy => by rw [List.mem_singleton.1 hy]; exact hn) hml hm hwf
    (fonts_lit 1 _ hup hg2 h (fun i hi q u hq => by
      rw [hrow] at hq
      obtain rfl : i = 0 := by omega
      rw [show 0 * 6 + q = q by omega]
      simpa using hq) (by omega)) (ht.carry hup))
  have HN := Lib.hid (fun W (hb : Below w.heap.size w W) => needing_ok T d m t W hml hm (ht.carry hb))
  have HL := Lib.hid (show (needL t).length ≤ 1000000 by have := needL_le t t.length; rw [List.take_length] at this; omega)
  have HA : Hid (∀ (g : Nat) (W : World) (A1 : Option Addr) (c1 : Nat), Stk W g 1 (allMaps [x]) t → Has W W.heap.size A1 ((needL t).map (Value.int .i32)) → Calls Tryz.prog 25 #[.slice (some ⟨g, 0, none⟩) 1 1, .int .i64 0, .slice A1 (needL t).length c1] W fun e w' => e = .returned (.bool (hasB (mapsOf x) t)) ∧ Up W w') := Lib.hid (fun g W A1 c1 hS hh => by
    have h9 := hasall_ok g 1 (allMaps [x]) t 0 A1 (needL t).length c1 (needL t) W hS (by rw [allMaps_len]; exact Nat.zero_lt_one) rfl HL.out (fun r hr => ⟨needL_in hr, hwf r (needL_in hr)⟩) hh
    rw [allMaps_get [x] 0 Nat.zero_lt_one] at h9
    rw [← hasB_need]
    exact h9)
  have HUP := Lib.hid hup
  clear h ht hrow hwf hup hg2 hup0 hc0 hml hn
  generalize hasB (mapsOf x) t = V at *
  rw [hs1] at HS
  subst hW1
  clear hs1
  go_enter Tryz.func14, Tryz.ntmps14
  go_wp2_with (first
    | (go_at_call 16; go_loud (with_reducible refine HS.out.mono ?_); rintro e u ⟨g, rfl, hS1, hb1, hg1⟩; (have HB1 := Lib.hid (HUP.out.trans (hb1.mono HUP.out.size))); (have HS1 := Lib.hid hS1); clear hS1 hb1 hg1)
    | (go_at_call 26; go_loud (with_reducible refine (HN.out _ HB1.out).mono ?_); rintro e u2 ⟨v2, rfl, hM2, hb2⟩; (obtain ⟨A1, c1, rfl, _, _, hh⟩ := hM2.size); (have HC := Lib.hid (HA.out g u2 A1 c1 (HS1.out.carry hb2) hh)); (have HB2 := Lib.hid (HB1.out.trans (hb2.mono HB1.out.size))); clear hM2 hb2 hh)
    | (go_at_call 25; go_loud (with_reducible refine HC.out.mono ?_); rintro e u3 ⟨rfl, hu3⟩))
  go_ret
  exact ⟨rfl, HB2.out.trans (hu3.1.mono HB2.out.size)⟩
end Go.Proofs.YtnpcakeagpbgiaaGreat
