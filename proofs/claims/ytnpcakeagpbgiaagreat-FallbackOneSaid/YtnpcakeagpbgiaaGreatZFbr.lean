/-
  Contracts of the document's own code of layers 22 and 23: at, Glyph, Needs, Has, is. No condition but bounds on lengths.
-/
import Derived.Test.YtnpcakeagpbgiaaGreatZFbm
import Derived.Test.YtnpcakeagpbgiaaGreatZROf
import Derived.BigQuiet
import Derived.Deep.QuietTactic
import Derived.Shelf.SlSortCmp.QuietGrown
set_option linter.unusedVariables false
set_option linter.unusedSimpArgs false
namespace Go.Proofs.YtnpcakeagpbgiaaGreat
open Go.ChangeShapes Go.WideShapes Go.ChangeAt Go.RowKit Go.Sort

/-- the mappings of a font -/
@[reducible] def mapsOf (x : fontS.Dat) : List mapS.Dat := x.2.2.1.l
theorem HasN.map_at {w : World} {B : Nat} {A : Option Addr} {M : List mapS.Dat} (h : HasN mapS.lay w B A M) {k : Nat} (hk : k < M.length) :
    ∃ b off, A = some ⟨b, off, none⟩ ∧ b < B ∧ w.cell? ⟨b, off + k * 2, none⟩ = some (.int .i32 (M[k]).1) ∧ w.cell? ⟨b, off + k * 2 + 1, none⟩ = some (.int .i64 (M[k]).2.1) := by
  obtain ⟨b, off, e, hb, hc⟩ := h.at_ hk
  exact ⟨b, off, e, hb, hc 0 _ rfl, hc 1 _ rfl⟩

set_option maxHeartbeats 1000000 in
theorem rat22_ok (v0 v1 v3 v4 v5 : Value) (A : Option Addr) (c n : Nat) (M : List mapS.Dat) (r : Int) (w : World) (hnl : n = M.length) (hn : n ≤ 1000000) (h : HasN mapS.lay w w.heap.size A M) (h0 : v0.cells = #[v0]) (h1 : v1.cells = #[v1]) (h3 : v3.cells = #[v3]) (h4 : v4.cells = #[v4]) (h5 : v5.cells = #[v5]) :
    Calls Tryz.prog 63 #[.agg #[v0, v1, .slice A n c, v3, v4, v5], .int .i32 r] w fun e w' => e = .returned (.int .i64 (atI M r)) ∧ Up w w' := by
  obtain ⟨V, hV⟩ : ∃ V, atI M r = V := ⟨_, rfl⟩
  rw [hV]
  have HV := Lib.hid hV
  have HL := Lib.hid hnl
  clear hV hnl
  go_enter Tryz.func63, Tryz.ntmps63
  go_wp2
  have hc2 : (w.alloc (.cells #[v0, v1, .slice A n c, v3, v4, v5] 43)).cell? ⟨w.heap.size, 2, none⟩ = some (.slice A n c) := (at_new w _ _).cell 2 _ rfl
  have hup : Up w (w.alloc (.cells #[v0, v1, .slice A n c, v3, v4, v5] 43)) := (Up.refl w).alloc _
  have hh := Lib.hid (h.up hup)
  generalize w.alloc (.cells #[v0, v1, .slice A n c, v3, v4, v5] 43) = W0 at *
  obtain ⟨b0, hb0⟩ : ∃ b0, w.heap.size = b0 := ⟨_, rfl⟩
  have HUP := Lib.hid hup
  rw [hb0] at hc2 ⊢
  clear h h0 h1 h3 h4 h5 hb0 hup
  go_loopw [5] (fun i wr => ∃ k : Nat, k ≤ n ∧ i = .int .i64 k ∧ Hid (∀ j (hj : j < M.length), j < k → ¬ (M[j]).1 = r) ∧ wr = W0) (fun i _ => n - (intOf i).toNat)
  case atStart => exact ⟨0, by omega, rfl, Lib.hid (fun j hj h0 => absurd h0 (by omega)), rfl⟩
  case round =>
    obtain ⟨k, hk, rfl, HN, rfl⟩ := hrel
    by_cases hlt : k < n
    · have hlt1 : k < M.length := by rw [← HL.out]; exact hlt
      obtain ⟨b, off, rfl, hb, hk0, hk1⟩ := hh.out.map_at hlt1
      have HM := Lib.hid (fun (he : (M[k]).1 = r) => atI_first M k r hlt1 he fun j hj => HN.out j (by omega) hj)
      have HS := Lib.hid (fun (he : ¬ (M[k]).1 = r) j (hj : j < M.length) (hjk : j < k + 1) => (by
        by_cases h : j = k
        · subst h; exact he
        · exact HN.out j hj (by omega) : ¬ (M[j]).1 = r))
      generalize (M[k]).1 = X at hk0 HM HS
      generalize (M[k]).2.1 = Y at hk1
      clear hlt1 hh HN
      by_cases he : X = r
      · have HE : Hid (V = (k : Int)) := Lib.hid (by rw [← HV.out]; exact HM.out he)
        have d1 : (X == r) = true := by simpa using he
        clear he
        go_wp2
        go_ret
        exact ⟨by rw [HE.out]; rfl, HUP.out⟩
      · have HE := Lib.hid (HS.out he)
        have d1 : (X == r) = false := by simpa using he
        clear he
        go_wp2
        go_roundw
        case rel => exact ⟨k + 1, by omega, by go_num, HE, by trivial⟩
        case measure => simp [intOf]; omega
    · obtain rfl : k = n := by omega
      have HE : Hid (V = -1) := Lib.hid (by rw [← HV.out]; exact atI_none M r fun j hj => HN.out j hj (by rw [HL.out]; exact hj))
      go_wp2
      go_ret
      exact ⟨by rw [HE.out]; rfl, HUP.out⟩

theorem atI_in (M : List mapS.Dat) (r : Int) : -1 ≤ atI M r ∧ atI M r < M.length := by
  rcases atI_cases M r with ⟨h, _⟩ | ⟨k, hk, h, _⟩ <;> omega
set_option maxHeartbeats 1000000 in
theorem rglyph_ok (v0 v1 v3 v4 v5 : Value) (A : Option Addr) (c n : Nat) (M : List mapS.Dat) (r : Int) (w : World) (hnl : n = M.length) (hn : n ≤ 1000000) (h : HasN mapS.lay w w.heap.size A M) (h0 : v0.cells = #[v0]) (h1 : v1.cells = #[v1]) (h3 : v3.cells = #[v3]) (h4 : v4.cells = #[v4]) (h5 : v5.cells = #[v5]) :
    Calls Tryz.prog 40 #[.agg #[v0, v1, .slice A n c, v3, v4, v5], .int .i32 r] w fun e w' => e = .returned (.int .i64 (gF M r)) ∧ Up w w' := by
  obtain ⟨V, hV⟩ : ∃ V, gF M r = V := ⟨_, rfl⟩
  rw [hV]
  have HV := Lib.hid hV
  have HL := Lib.hid hnl
  have HA := Lib.hid (fun W (hu : Up w W) => rat22_ok v0 v1 v3 v4 v5 A c n M r W hnl hn (h.up hu) h0 h1 h3 h4 h5)
  have hc2 : (w.alloc (.cells #[v0, v1, .slice A n c, v3, v4, v5] 43)).cell? ⟨w.heap.size, 2, none⟩ = some (.slice A n c) := (at_new w _ _).cell 2 _ rfl
  have HB := Lib.hid hc2
  clear hc2 hnl hV
  rcases atI_cases M r with ⟨hi, hg, _⟩ | ⟨k, hk, hi, hg, _⟩
  · rw [hi] at HA
    have HE : Hid (V = 0) := Lib.hid (by rw [← HV.out]; exact hg)
    clear hi hg
    go_enter Tryz.func40, Tryz.ntmps40
    go_wp2_with (go_at_call 63; (refine (HA.out _ ((Up.refl w).alloc _)).mono ?_); rintro e w' ⟨rfl, hu⟩)
    go_ret
    exact ⟨by rw [HE.out]; rfl, ((Up.refl w).alloc _).trans hu⟩
  · rw [hi] at HA
    have HE : Hid (V = (M[k]).2.1) := Lib.hid (by rw [← HV.out]; exact hg)
    have hkn : k < n := by rw [HL.out]; exact hk
    obtain ⟨b, off, rfl, hb, hk0, hk1⟩ := h.map_at hk
    have HK := Lib.hid hk1
    generalize (M[k]).2.1 = Y at *
    clear hi hg hk0 hk1 h
    go_enter Tryz.func40, Tryz.ntmps40
    go_wp2_with (go_at_call 63; (refine (HA.out _ ((Up.refl w).alloc _)).mono ?_); rintro e w' ⟨rfl, hu⟩; have hc2 := hu.cell HB.out; have hk1 := (((Up.refl w).alloc _).trans hu).cell HK.out; have hsz := (((Up.refl w).alloc _).trans hu).1.size)
    go_ret
    exact ⟨by rw [HE.out]; rfl, ((Up.refl w).alloc _).trans hu⟩

/-- the document's needs -/
theorem rneeds_ok (r : Int) (w : World) : Calls Tryz.prog 62 #[.int .i32 r] w fun e w' => e = .returned (.bool (needsB r)) ∧ Up w w' := by
  have HO := Lib.hid (fun W => rof_ok r W)
  have HV : Hid (needsB r = (!((ofP r).cl == 1 || (ofP r).cl == 2 || (ofP r).cl == 3 || (ofP r).cl == 5) && ((ofP r).bidi != 10 && decide ((ofP r).bidi < 15)))) := Lib.hid rfl
  generalize needsB r = V at *
  generalize ofP r = p at *
  obtain ⟨bidi, cl, br, sc, jn, wd, mi, pa, op⟩ := p
  simp only [Pr.v] at HO HV
  by_cases h1 : cl = 1 ∨ cl = 2 ∨ cl = 3 ∨ cl = 5
  · have HE : Hid (V = false) := Lib.hid (by rw [HV.out]; rcases h1 with h | h | h | h <;> subst h <;> simp)
    clear HV
    rcases h1 with rfl | rfl | rfl | rfl
    all_goals
      go_enter Tryz.func62, Tryz.ntmps62
      go_wp2_with (go_at_call 86; (refine (HO.out _).mono ?_); rintro e w' ⟨rfl, hu⟩)
      go_ret
      exact ⟨by rw [HE.out]; rfl, hu.alloc _⟩
  · have e1 : (cl == 1) = false := by simp; omega
    have e2 : (cl == 2) = false := by simp; omega
    have e3 : (cl == 3) = false := by simp; omega
    have e5 : (cl == 5) = false := by simp; omega
    rw [e1, e2, e3, e5] at HV
    clear h1
    go_enter Tryz.func62, Tryz.ntmps62
    go_wp2_with (go_at_call 86; (refine (HO.out _).mono ?_); rintro e w' ⟨rfl, hu⟩)
    all_goals
      go_ret
      exact ⟨by rw [HV.out]; simp_all, hu.alloc _⟩

theorem grown_cell6 {W : World} {g : Nat} {t : TypeId} {cs : Array Value} (h : At W g t cs) (j : Nat) (v : Value) (hv : cs[j]? = some v) : ∀ n os, (grow (W.drewN n) os).cell? ⟨g, j, none⟩ = some v := fun n os => cell_grown h.lt (h.cell j v hv) n os
set_option maxHeartbeats 2000000 in
/-- the document's has -/
theorem rhas_ok (v0 v1 v3 v4 v5 : Value) (A T : Option Addr) (c n d m : Nat) (M : List mapS.Dat) (t : List Int) (w : World) (hnl : n = M.length) (hn : n ≤ 1000000) (hml : m = t.length) (hm : m ≤ 1000000) (h : HasN mapS.lay w w.heap.size A M) (ht : Has w w.heap.size T (t.map (Value.int .i32))) (h0 : v0.cells = #[v0]) (h1 : v1.cells = #[v1]) (h3 : v3.cells = #[v3]) (h4 : v4.cells = #[v4]) (h5 : v5.cells = #[v5]) :
    Calls Tryz.prog 39 #[.agg #[v0, v1, .slice A n c, v3, v4, v5], .slice T m d] w fun e w' => e = .returned (.bool (hasB M t)) ∧ Up w w' := by
  obtain ⟨V, hV⟩ : ∃ V, hasB M t = V := ⟨_, rfl⟩
  rw [hV]
  have mixed : Tryz.prog.follows .mixedOrders = true := by kernel_rfl
  have HV := Lib.hid hV
  have HL := Lib.hid hml
  have HG := Lib.hid (fun r W (hu : Up w W) => rglyph_ok v0 v1 v3 v4 v5 A c n M r W hnl hn (h.up hu) h0 h1 h3 h4 h5)
  clear hV hnl hml
  go_enter Tryz.func39, Tryz.ntmps39
  go_wp2
  have hat : At (w.alloc (.cells #[v0, v1, .slice A n c, v3, v4, v5] 43)) w.heap.size 43 #[v0, v1, .slice A n c, v3, v4, v5] := at_new w _ _
  have hup : Up w (w.alloc (.cells #[v0, v1, .slice A n c, v3, v4, v5] 43)) := (Up.refl w).alloc _
  generalize w.alloc (.cells #[v0, v1, .slice A n c, v3, v4, v5] 43) = W0 at *
  obtain ⟨b0, hb0⟩ : ∃ b0, w.heap.size = b0 := ⟨_, rfl⟩
  rw [hb0] at hat ⊢
  have HAT := Lib.hid hat
  have HT := Lib.hid ht
  have HUP := Lib.hid hup
  clear h h0 h1 h3 h4 h5 hb0 hup hat ht
  go_loopw [5] (fun i wr => ∃ k : Nat, k ≤ m ∧ i = .int .i64 k ∧ Hid (hasB M (t.drop k) = V) ∧ Up W0 wr) (fun i _ => m - (intOf i).toNat)
  case atStart => exact ⟨0, by omega, rfl, Lib.hid HV.out, Up.refl _⟩
  case round =>
    obtain ⟨k, hk, rfl, HK, hur⟩ := hrel
    by_cases hlt : k < m
    · have hlt1 : k < t.length := by rw [← HL.out]; exact hlt
      have hB := hasB_drop M t k hlt1
      rw [HK.out] at hB
      have hut := HUP.out.trans hur
      obtain ⟨b, off, rfl, hb, hcell⟩ := (HT.out.carry hut.1).at_int hlt1
      obtain ⟨X, hX⟩ : ∃ X, t[k] = X := ⟨_, rfl⟩
      rw [hX] at hcell hB
      have HN := Lib.hid (fun W => rneeds_ok X W)
      have HGX := Lib.hid (fun W (hu : Up wr W) => HG.out X W (hut.trans hu))
      have HB : Hid (V = (!(needsB X && gF M X == 0) && hasB M (t.drop (k + 1)))) := Lib.hid hB
      have hbox := (HAT.out.up hur)
      have hg0 := grown_cell6 hbox 0 _ rfl
      have hg1 := grown_cell6 hbox 1 _ rfl
      have hg2 := grown_cell6 hbox 2 _ rfl
      have hg3 := grown_cell6 hbox 3 _ rfl
      have hg4 := grown_cell6 hbox 4 _ rfl
      have hg5 := grown_cell6 hbox 5 _ rfl
      have hgt : ∀ q os, (grow (wr.drewN q) os).cell? ⟨b, off + k, none⟩ = some (.int .i32 X) := fun q os => cell_grown hb hcell q os
      generalize needsB X = nb at *
      generalize gF M X = G at *
      have HNG : Hid (∀ q os, Calls Tryz.prog 62 #[.int .i32 X] (grow (wr.drewN q) os) fun e w' => e = .returned (.bool nb) ∧ ∃ q' os', w' = grow ((grow (wr.drewN q) os).drewN q') os') := Lib.hid (fun q os => (HN.out _).mono fun _ _ ⟨he, hu⟩ => ⟨he, hu.grow⟩)
      have HGG : Hid (∀ q os, Calls Tryz.prog 40 #[.agg #[v0, v1, .slice A n c, v3, v4, v5], .int .i32 X] (grow (wr.drewN q) os) fun e w' => e = .returned (.int .i64 G) ∧ ∃ q' os', w' = grow ((grow (wr.drewN q) os).drewN q') os') := Lib.hid (fun q os => (HGX.out _ (Up.of_grow _ _ _)).mono fun _ _ ⟨he, hu⟩ => ⟨he, hu.grow⟩)
      have hU : ∀ q os, Up W0 (grow (wr.drewN q) os) := fun q os => hur.trans (Up.of_grow wr q os)
      clear hlt1 hX hB HG HT HK HN HGX hcell hbox
      cases nb with
      | false =>
        have HE : Hid (hasB M (t.drop (k + 1)) = V) := Lib.hid (by have := HB.out; simp at this; exact this.symm)
        clear HB
        go_wp2
        refine wp_region_quiet_grown mixed (by kernel_rfl) ?_
        repeat (go_big_quiet_step (first | (go_at_call 62; with_reducible exact Calls.grown_of (HNG.out _ _)) | (go_at_call 40; with_reducible exact Calls.grown_of (HGG.out _ _))))
        refine wpQuiet_nil ?_
        intro _ hw'
        obtain ⟨⟨nq, osq⟩, hw''⟩ := hw'
        subst hw''
        go_wp2
        go_roundw
        case rel => exact ⟨k + 1, by omega, by go_num, HE, hU _ _⟩
        case measure => simp [intOf]; omega
      | true =>
        by_cases hz : G = 0
        · have HE : Hid (V = false) := Lib.hid (by have := HB.out; rw [hz] at this; simpa using this)
          subst hz
          clear HB
          go_wp2
          refine wp_region_quiet_grown mixed (by kernel_rfl) ?_
          repeat (go_big_quiet_step (first | (go_at_call 62; with_reducible exact Calls.grown_of (HNG.out _ _)) | (go_at_call 40; with_reducible exact Calls.grown_of (HGG.out _ _))))
          refine wpQuiet_nil ?_
          intro _ hw'
          obtain ⟨⟨nq, osq⟩, hw''⟩ := hw'
          subst hw''
          go_wp2
          go_ret
          exact ⟨by rw [HE.out]; rfl, HUP.out.trans (hU _ _)⟩
        · have HE : Hid (hasB M (t.drop (k + 1)) = V) := Lib.hid (by have := HB.out; rw [show (G == 0) = false by simpa using hz] at this; simp at this; exact this.symm)
          have d1 : (G == 0) = false := by simpa using hz
          clear HB hz
          go_wp2
          refine wp_region_quiet_grown mixed (by kernel_rfl) ?_
          repeat (go_big_quiet_step (first | (go_at_call 62; with_reducible exact Calls.grown_of (HNG.out _ _)) | (go_at_call 40; with_reducible exact Calls.grown_of (HGG.out _ _))))
          refine wpQuiet_nil ?_
          intro _ hw'
          obtain ⟨⟨nq, osq⟩, hw''⟩ := hw'
          subst hw''
          go_wp2
          go_roundw
          case rel => exact ⟨k + 1, by omega, by go_num, HE, hU _ _⟩
          case measure => simp [intOf]; omega
    · obtain rfl : k = m := by omega
      have HE : Hid (V = true) := Lib.hid (by
        rw [← HK.out, List.drop_of_length_le (by rw [← HL.out]; omega)]; rfl)
      go_wp2
      go_ret
      exact ⟨by rw [HE.out]; rfl, HUP.out.trans hur⟩
end Go.Proofs.YtnpcakeagpbgiaaGreat
