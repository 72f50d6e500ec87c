/-
  Contracts of the document's own code of layer 23: is, Pick. Of a font among many: where it lies, what its calls answer. No condition but bounds on lengths.
-/
import Derived.Test.YtnpcakeagpbgiaaGreatZFbr
set_option linter.unusedVariables false
set_option linter.unusedSimpArgs false
namespace Go.Proofs.YtnpcakeagpbgiaaGreat
open Go.ChangeShapes Go.WideShapes Go.ChangeAt Go.RowKit Go.Sort

/-- the mappings of many fonts -/
def allMaps (F : List fontS.Dat) : List (List mapS.Dat) := F.map mapsOf
theorem allMaps_len (F : List fontS.Dat) : (allMaps F).length = F.length := List.length_map ..
theorem allMaps_get (F : List fontS.Dat) (k : Nat) (h : k < F.length) : (allMaps F)[k]'(by rw [allMaps_len]; exact h) = mapsOf F[k] := List.getElem_map ..
theorem allMaps_getD (F : List fontS.Dat) (k : Nat) (h : k < F.length) : (allMaps F).getD k [] = mapsOf F[k] := by
  rw [List.getD_eq_getElem?_getD, List.getElem?_eq_getElem (by rw [allMaps_len]; exact h), Option.getD_some, allMaps_get F k h]
/-- how a font among many lies -/
theorem font_at {w : World} {B : Nat} {A : Option Addr} {c : Nat} {F : List fontS.Dat} (h : Lies w B (.sl fontS) ⟨A, c, F⟩) (k : Nat) (hk : k < F.length) :
    ∃ (b off : Nat) (v0 v1 v3 v4 v5 : Value) (A' : Option Addr) (c' : Nat), A = some ⟨b, off, none⟩ ∧ b < B ∧
      (w.cell? ⟨b, off + k * 6, none⟩ = some v0 ∧ w.cell? ⟨b, off + k * 6 + 1, none⟩ = some v1 ∧ w.cell? ⟨b, off + k * 6 + 2, none⟩ = some (.slice A' (mapsOf F[k]).length c') ∧ w.cell? ⟨b, off + k * 6 + 3, none⟩ = some v3 ∧ w.cell? ⟨b, off + k * 6 + 4, none⟩ = some v4 ∧ w.cell? ⟨b, off + k * 6 + 5, none⟩ = some v5) ∧
      (v0.cells = #[v0] ∧ v1.cells = #[v1] ∧ v3.cells = #[v3] ∧ v4.cells = #[v4] ∧ v5.cells = #[v5]) ∧ HasN mapS.lay w B A' (mapsOf F[k]) := by
  obtain ⟨_, h2, h3⟩ := h
  obtain ⟨b, off, e, hb, hc⟩ := HasN.at_ h2 hk
  have hL := h3 _ (List.getElem_mem hk)
  exact ⟨b, off, _, _, _, _, _, F[k].2.2.1.A, F[k].2.2.1.c, e, hb, ⟨hc 0 _ rfl, hc 1 _ rfl, hc 2 _ rfl, hc 3 _ rfl, hc 4 _ rfl, hc 5 _ rfl⟩, ⟨rfl, rfl, rfl, rfl, rfl⟩, hL.2.2.1.2.1⟩

theorem risN_ok (A : Option Addr) (c n : Nat) (i : Int) (w : World) (hn : n ≤ 1000000) : Calls Tryz.prog 38 #[.slice A n c, .int .i64 i] w fun e w' => e = .returned (.bool (isB n i)) ∧ w = w' := by
  by_cases h0 : 0 ≤ i
  · by_cases h1 : i < (n : Int)
    · have e1 : isB n i = true := by simp [isB, h0, h1]
      rw [e1]
      have d0 : decide (0 ≤ i) = true := decide_eq_true h0
      have d1 : decide (i < (n : Int)) = true := decide_eq_true h1
      clear e1
      go_enter Tryz.func38, Tryz.ntmps38
      go_wp2
      go_ret
      exact ⟨rfl, rfl⟩
    · have e1 : isB n i = false := by simp [isB, h0, h1]
      rw [e1]
      clear e1
      go_enter Tryz.func38, Tryz.ntmps38
      go_wp2
      go_ret
      exact ⟨rfl, rfl⟩
  · have e1 : isB n i = false := by simp [isB, h0]
    rw [e1]
    clear e1
    go_enter Tryz.func38, Tryz.ntmps38
    go_wp2
    go_ret
    exact ⟨rfl, rfl⟩

/-- fonts that were written down: they lie in one block -/
theorem fonts_lit {w w' : World} {g : Nat} {t : TypeId} {x : fontS.Dat} (n : Nat) (cs : Array Value) (hu : Below w.heap.size w w') (hg : At w' g t cs) (h : Lies w w.heap.size fontS x) (hcs : ∀ i, i < n → ∀ q u, (fontS.row x)[q]? = some u → cs[i * 6 + q]? = some u) (hn : n ≤ 1000) :
    Lies w' w'.heap.size (.sl fontS) ⟨some ⟨g, 0, none⟩, n, List.replicate n x⟩ := by
  refine ⟨⟨by simp; omega, by simp, fun h => by cases h⟩, fun _ => ⟨g, 0, rfl, hg.lt, fun i y hy q u hq => ?_⟩, fun y hy => ?_⟩
  · rw [List.getElem?_replicate] at hy
    split at hy
    · next hi =>
      cases hy
      show w'.cell? ⟨g, 0 + i * 6 + q, none⟩ = some u
      rw [Nat.zero_add]
      exact hg.cell _ _ (hcs i hi q u hq)
    · cases hy
  · rw [List.eq_of_mem_replicate hy]
    exact h.carry hu
/-- a block of cells stays -/
theorem At.below {w w' : World} {g : Nat} {t : TypeId} {cs : Array Value} (h : At w g t cs) (hb : Below w.heap.size w w') : At w' g t cs := by
  unfold At
  rw [hb.block _ h.lt]; exact h
/-- a font as an argument -/
theorem font_arg {w : World} {B : Nat} {x : fontS.Dat} (h : Lies w B fontS x) :
    ∃ (v0 v1 v3 v4 v5 : Value) (A' : Option Addr) (c' : Nat), Value.agg (Shp.row fontS x).toArray = .agg #[v0, v1, .slice A' (mapsOf x).length c', v3, v4, v5] ∧ (v0.cells = #[v0] ∧ v1.cells = #[v1] ∧ v3.cells = #[v3] ∧ v4.cells = #[v4] ∧ v5.cells = #[v5]) ∧
      HasN mapS.lay w B A' (mapsOf x) ∧ (mapsOf x).length ≤ 9223372036854775807 :=
  ⟨_, _, _, _, _, x.2.2.1.A, x.2.2.1.c, rfl, ⟨rfl, rfl, rfl, rfl, rfl⟩, h.2.2.1.2.1, h.2.2.1.1.1⟩
theorem font_row {w : World} {B : Nat} {x : fontS.Dat} (h : Lies w B fontS x) :
    ∃ (v0 v1 v3 v4 v5 : Value) (A' : Option Addr) (c' : Nat), fontS.row x = [v0, v1, .slice A' (mapsOf x).length c', v3, v4, v5] ∧ (v0.cells = #[v0] ∧ v1.cells = #[v1] ∧ v3.cells = #[v3] ∧ v4.cells = #[v4] ∧ v5.cells = #[v5]) ∧
      HasN mapS.lay w B A' (mapsOf x) ∧ (mapsOf x).length ≤ 9223372036854775807 :=
  ⟨_, _, _, _, _, x.2.2.1.A, x.2.2.1.c, rfl, ⟨rfl, rfl, rfl, rfl, rfl⟩, h.2.2.1.2.1, h.2.2.1.1.1⟩
/-- what the document's calls answer of a font among many: at k it lies so, and has a cluster or not, and gives a code point its glyph -/
theorem rfont_facts (A T : Option Addr) (c d m : Nat) (F : List fontS.Dat) (t : List Int) (w : World) (hML : ∀ x ∈ F, (mapsOf x).length ≤ 1000000) (hml : m = t.length) (hm : m ≤ 1000000) (h : Lies w w.heap.size (.sl fontS) ⟨A, c, F⟩) (ht : Has w w.heap.size T (t.map (Value.int .i32))) (k : Nat) (hk : k < F.length) :
    ∃ (b off : Nat) (v0 v1 v2 v3 v4 v5 : Value), A = some ⟨b, off, none⟩ ∧ b < w.heap.size ∧
      (w.cell? ⟨b, off + k * 6, none⟩ = some v0 ∧ w.cell? ⟨b, off + k * 6 + 1, none⟩ = some v1 ∧ w.cell? ⟨b, off + k * 6 + 2, none⟩ = some v2 ∧ w.cell? ⟨b, off + k * 6 + 3, none⟩ = some v3 ∧ w.cell? ⟨b, off + k * 6 + 4, none⟩ = some v4 ∧ w.cell? ⟨b, off + k * 6 + 5, none⟩ = some v5) ∧
      Hid (∀ W, Up w W → Calls Tryz.prog 39 #[.agg #[v0, v1, v2, v3, v4, v5], .slice T m d] W fun e w' => e = .returned (.bool (hasB ((allMaps F).getD k []) t)) ∧ Up W w') ∧
      Hid (∀ r W, Up w W → Calls Tryz.prog 40 #[.agg #[v0, v1, v2, v3, v4, v5], .int .i32 r] W fun e w' => e = .returned (.int .i64 (gF ((allMaps F).getD k []) r)) ∧ Up W w') := by
  obtain ⟨b, off, v0, v1, v3, v4, v5, A', c', rfl, hb, hc, ⟨h0, h1, h3, h4, h5⟩, hM⟩ := font_at h k hk
  rw [allMaps_getD F k hk]
  have hl := hML _ (List.getElem_mem hk)
  exact ⟨b, off, v0, v1, _, v3, v4, v5, rfl, hb, hc, Lib.hid (fun W hu => rhas_ok v0 v1 v3 v4 v5 A' T c' _ d m _ t W rfl hl hml hm (hM.up hu) (ht.carry hu.1) h0 h1 h3 h4 h5),
    Lib.hid (fun r W hu => rglyph_ok v0 v1 v3 v4 v5 A' c' _ _ r W rfl hl (hM.up hu) h0 h1 h3 h4 h5)⟩

theorem pick_pre {F : List (List mapS.Dat)} {prefer : Int} {t : List Int} {ahead : Int} (h : hasAt F prefer t = true) : pickF F prefer t ahead = prefer := by unfold pickF; rw [if_pos h]
theorem pick_first {F : List (List mapS.Dat)} {prefer : Int} {t : List Int} {ahead : Int} {k : Nat} (h : hasAt F prefer t = false) (hk : firstI F t = some k) : pickF F prefer t ahead = k := by unfold pickF; rw [if_neg (by rw [h]; simp), hk]
theorem pick_last {F : List (List mapS.Dat)} {prefer : Int} {t : List Int} {ahead : Int} (h : hasAt F prefer t = false) (hk : firstI F t = none) : pickF F prefer t ahead = lastI F prefer t ahead := by unfold pickF; rw [if_neg (by rw [h]; simp), hk]

theorem firstOf_at {G : List (List mapS.Dat)} {t : List Int} {k : Nat} (hk : k < G.length) (h : hasB (G.getD k []) t = true) (hn : ∀ j, j < k → hasB (G.getD j []) t = false) : firstI G t = some k :=
  firstI_some hk (by rw [List.getD_eq_getElem?_getD, List.getElem?_eq_getElem hk] at h; exact h) fun j hj => by
    have := hn j hj
    rwa [List.getD_eq_getElem?_getD, List.getElem?_eq_getElem (by omega)] at this
theorem firstOf_no {G : List (List mapS.Dat)} {t : List Int} (hn : ∀ j, j < G.length → hasB (G.getD j []) t = false) : firstI G t = none :=
  firstI_none fun j hj => by
    have := hn j hj
    rwa [List.getD_eq_getElem?_getD, List.getElem?_eq_getElem hj] at this
theorem last_ahead {G : List (List mapS.Dat)} {t : List Int} {prefer ahead : Int} (h : headAt G ahead t = true) : lastI G prefer t ahead = ahead := by unfold lastI; rw [if_pos h]
theorem last_pre {G : List (List mapS.Dat)} {t : List Int} {prefer ahead : Int} (h : headAt G ahead t = false) : lastI G prefer t ahead = if isB G.length prefer = true then prefer else 0 := by unfold lastI; rw [if_neg (by rw [h]; simp)]

set_option maxHeartbeats 4000000 in
theorem rpick_ok (A T : Option Addr) (c n d m : Nat) (F : List fontS.Dat) (t : List Int) (prefer ahead : Int) (w : World) (hnl : n = F.length) (hn : n ≤ 1000000) (hML : ∀ x ∈ F, (mapsOf x).length ≤ 1000000) (hml : m = t.length) (hm : m ≤ 1000000)
    (h : Lies w w.heap.size (.sl fontS) ⟨A, c, F⟩) (ht : Has w w.heap.size T (t.map (Value.int .i32))) :
    Calls Tryz.prog 21 #[.slice A n c, .int .i64 prefer, .slice T m d, .int .i64 ahead] w fun e w' => e = .returned (.int .i64 (pickF (allMaps F) prefer t ahead)) ∧ Up w w' := by
  have mixed : Tryz.prog.follows .mixedOrders = true := by kernel_rfl
  have HF := Lib.hid (fun k (hk : k < n) => rfont_facts A T c d m F t w hML hml hm h ht k (by omega))
  have HT := Lib.hid ht
  have HM := Lib.hid hml
  have hlen : (allMaps F).length = n := by rw [allMaps_len]; exact hnl.symm
  generalize allMaps F = G at *
  clear hML hml h ht hnl
  have HI := Lib.hid (fun i W => risN_ok A c n i W hn)
  have HLen := Lib.hid hlen
  obtain ⟨V, hV⟩ : ∃ V, pickF G prefer t ahead = V := ⟨_, rfl⟩
  rw [hV]
  have HV := Lib.hid hV
  clear hV hlen
  cases hp : hasAt G prefer t with
  | true =>
    have hp2 := hp
    simp only [hasAt, Bool.and_eq_true, HLen.out] at hp2
    obtain ⟨hpi, hph⟩ := hp2
    have HE : Hid (V = prefer) := Lib.hid (by rw [← HV.out]; exact pick_pre hp)
    obtain ⟨p, rfl, hpn⟩ := isB_nat hpi
    obtain ⟨b, off, v0, v1, v2, v3, v4, v5, rfl, hb, ⟨k0, k1, k2, k3, k4, k5⟩, HH, _⟩ := HF.out p hpn
    have HIp := Lib.hid (fun W => hpi ▸ HI.out (p : Int) W)
    rw [Int.toNat_natCast] at hph
    rw [hph] at HH
    clear hp hpi hph
    go_enter Tryz.func21, Tryz.ntmps21
    go_wp2_with (first | (go_at_call 38; (with_reducible refine (HIp.out _).mono ?_); rintro e w' ⟨rfl, rfl⟩) | (go_at_call 39; (with_reducible refine (HH.out _ (Up.refl _)).mono ?_); rintro e w' ⟨rfl, hu⟩))
    go_ret
    exact ⟨by rw [HE.out]; rfl, hu⟩
  | false =>
    have HNO := Lib.hid hp
    have HP : Hid (isB n prefer = false ∨ ∃ p : Nat, prefer = (p : Int) ∧ p < n ∧ hasB (G.getD p []) t = false) := Lib.hid (by
      cases hq : isB n prefer with
      | false => exact .inl rfl
      | true =>
        obtain ⟨p, rfl, hpn⟩ := isB_nat hq
        refine .inr ⟨p, rfl, hpn, ?_⟩
        rw [hasAt, HLen.out, hq, Int.toNat_natCast] at hp
        simpa using hp)
    clear hp
    rcases HP.out with hq | ⟨p, hpe, hpn, hph⟩
    case' inl =>
      have HIp := Lib.hid (fun W => hq ▸ HI.out prefer W)
      have hu := Up.refl w
      clear hq HP
      go_enter Tryz.func21, Tryz.ntmps21
      go_wp2_with (first | (go_at_call 38; (with_reducible refine (HIp.out _).mono ?_); rintro e w' ⟨rfl, rfl⟩))
    case' inr =>
      have hpi : isB n prefer = true := by simp [isB, hpn, hpe]
      have HIp := Lib.hid (fun W => hpi ▸ HI.out prefer W)
      have hp0 : 0 ≤ prefer := by omega
      have hpl : prefer < (n : Int) := by omega
      have hpt : prefer.toNat = p := by omega
      obtain ⟨b, off, v0, v1, v2, v3, v4, v5, rfl, hb, ⟨k0, k1, k2, k3, k4, k5⟩, HH, _⟩ := HF.out p hpn
      rw [hph] at HH
      clear hpi hph HP hpe
      go_enter Tryz.func21, Tryz.ntmps21
      go_wp2_with (first | (go_at_call 38; (with_reducible refine (HIp.out _).mono ?_); rintro e w' ⟨rfl, rfl⟩) | (go_at_call 39; (with_reducible refine (HH.out _ (Up.refl _)).mono ?_); rintro e w' ⟨rfl, hu⟩))
      clear k0 k1 k2 k3 k4 k5 HH hb hp0 hpl hpt hpn
    all_goals
      go_loopw [9] (fun i wr => ∃ k : Nat, k ≤ n ∧ i = .int .i64 k ∧ Hid (∀ j, j < k → hasB (G.getD j []) t = false) ∧ Up w wr) (fun i _ => n - (intOf i).toNat)
      case atStart => exact ⟨0, by omega, rfl, Lib.hid (fun j hj => absurd hj (by omega)), hu⟩
      case round =>
        clear hu HIp
        obtain ⟨k, hk, rfl, HN, hur⟩ := hrel
        by_cases hlt : k < n
        · obtain ⟨b, off, v0, v1, v2, v3, v4, v5, hA, hb, ⟨k0, k1, k2, k3, k4, k5⟩, HH, _⟩ := HF.out k hlt
          cases hA
          have hbr := Nat.lt_of_lt_of_le hb hur.1.size
          have j0 := hur.cell k0
          have j1 := hur.cell k1
          have j2 := hur.cell k2
          have j3 := hur.cell k3
          have j4 := hur.cell k4
          have j5 := hur.cell k5
          clear k0 k1 k2 k3 k4 k5 hb
          cases hq : hasB (G.getD k []) t with
          | true =>
            have HE : Hid (V = (k : Int)) := Lib.hid (by rw [← HV.out]; exact pick_first HNO.out (firstOf_at (by rw [HLen.out]; exact hlt) hq HN.out))
            rw [hq] at HH
            clear hq
            go_wp2_with (first | (go_at_call 39; (with_reducible refine (HH.out _ hur).mono ?_); rintro e w' ⟨rfl, hu⟩))
            go_ret
            exact ⟨by rw [HE.out]; rfl, hur.trans hu⟩
          | false =>
            have HE : Hid (∀ j, j < k + 1 → hasB (G.getD j []) t = false) := Lib.hid (fun j hj => by
              by_cases h : j = k
              · subst h; exact hq
              · exact HN.out j (by omega))
            rw [hq] at HH
            clear hq
            go_wp2_with (first | (go_at_call 39; (with_reducible refine (HH.out _ hur).mono ?_); rintro e w' ⟨rfl, hu⟩))
            go_roundw
            case rel => exact ⟨k + 1, by omega, by go_num, HE, hur.trans hu⟩
            case measure => simp [intOf]; omega
        · obtain rfl : k = n := by omega
          have HL : Hid (V = lastI G _ t ahead) := Lib.hid (by rw [← HV.out]; exact pick_last HNO.out (firstOf_no fun j hj => HN.out j (by rw [← HLen.out]; exact hj)))
          have hurg : ∀ q os, Up w (grow (wr.drewN q) os) := fun q os => hur.trans (Up.of_grow wr q os)
          have HURG := Lib.hid hurg
          clear HV HNO HN hlt hurg
          cases ha : headAt G ahead t with
          | true =>
            have HE : Hid (V = ahead) := Lib.hid (by rw [HL.out]; exact last_ahead ha)
            simp only [headAt, Bool.and_eq_true, HLen.out, decide_eq_true_eq] at ha
            obtain ⟨h1, h2, h3⟩ := ha
            have h1' := h1
            obtain ⟨q, rfl, hq⟩ := isB_nat h1
            obtain ⟨b, off, v0, v1, v2, v3, v4, v5, hA, hb, ⟨k0, k1, k2, k3, k4, k5⟩, _, HG⟩ := HF.out q hq
            cases hA
            obtain ⟨bt, offt, hT, hbt, hct⟩ := HT.out.at_int h2
            subst hT
            rw [Nat.add_zero] at hct
            rw [Int.toNat_natCast] at h3
            rw [show t.getD 0 0 = t[0] by rw [List.getD_eq_getElem?_getD, List.getElem?_eq_getElem h2]; rfl] at h3
            have hm0 : 0 < m := by rw [HM.out]; exact h2
            generalize t[0] = X at *
            have HGX := HG.out X
            generalize gF (G.getD q []) X = Y at *
            have d3 : (Y != 0) = true := h3
            have HIG : Hid (∀ q' os, Calls Tryz.prog 38 #[.slice (some ⟨b, off, none⟩) k c, .int .i64 (q : Int)] (grow (wr.drewN q') os) fun e w' => e = .returned (.bool true) ∧ ∃ q'' os', w' = grow ((grow (wr.drewN q') os).drewN q'') os') :=
              Lib.hid (fun q' os => (h1' ▸ HI.out (q : Int) _).mono fun _ _ ⟨he, hu⟩ => ⟨he, by subst hu; exact (Up.refl _).grow⟩)
            have HGG : Hid (∀ q' os, Calls Tryz.prog 40 #[.agg #[v0, v1, v2, v3, v4, v5], .int .i32 X] (grow (wr.drewN q') os) fun e w' => e = .returned (.int .i64 Y) ∧ ∃ q'' os', w' = grow ((grow (wr.drewN q') os).drewN q'') os') :=
              Lib.hid (fun q' os => (HGX _ (HURG.out _ _)).mono fun _ _ ⟨he, hu⟩ => ⟨he, hu.grow⟩)
            have g0 := fun q' os => (HURG.out q' os).cell k0
            have g1 := fun q' os => (HURG.out q' os).cell k1
            have g2 := fun q' os => (HURG.out q' os).cell k2
            have g3 := fun q' os => (HURG.out q' os).cell k3
            have g4 := fun q' os => (HURG.out q' os).cell k4
            have g5 := fun q' os => (HURG.out q' os).cell k5
            have gt := fun q' os => (HURG.out q' os).cell hct
            have dm : decide ((0 : Int) < (m : Int)) = true := decide_eq_true (by omega)
            have hqz : (0 : Int) ≤ (q : Int) := by omega
            clear k0 k1 k2 k3 k4 k5 hct HGX HG h1' h1 h2 h3 hb hbt HL HF HT HM HLen
            go_wp2
            refine wp_region_quiet_grown mixed (by kernel_rfl) ?_
            repeat (go_big_quiet_step (first | (go_at_call 38; with_reducible exact Calls.grown_of (HIG.out _ _)) | (go_at_call 40; with_reducible exact Calls.grown_of (HGG.out _ _))))
            refine wpQuiet_nil ?_
            intro _ hw'
            obtain ⟨⟨nq, osq⟩, hw''⟩ := hw'
            subst hw''
            go_wp2
            go_ret
            exact ⟨by rw [HE.out]; rfl, HURG.out _ _⟩
          | false =>
            have HE : Hid (V = if isB k prefer = true then prefer else 0) := Lib.hid (by rw [HL.out, last_pre ha, HLen.out])
            have HS : Hid (isB k ahead = false ∨ ∃ q : Nat, ahead = (q : Int) ∧ q < k ∧ (t = [] ∨ ∃ X us, t = X :: us ∧ gF (G.getD q []) X = 0)) := Lib.hid (by
              cases hq : isB k ahead with
              | false => exact .inl rfl
              | true =>
                obtain ⟨q, rfl, hqn⟩ := isB_nat hq
                refine .inr ⟨q, rfl, hqn, ?_⟩
                rw [headAt, HLen.out, hq, Int.toNat_natCast] at ha
                cases t with
                | nil => exact .inl rfl
                | cons X us => exact .inr ⟨X, us, rfl, by simpa using ha⟩)
            clear ha HL
            cases hz : isB k prefer
            all_goals
              have HIP := Lib.hid (fun W => hz ▸ HI.out prefer W)
              have HEz : Hid (V = _) := Lib.hid (HE.out.trans (by rw [hz]))
              clear HE hz
            all_goals
              rcases HS.out with h1' | ⟨q, hqe, hq, ht⟩
            case' false.inl =>
              have HE := Lib.hid (HEz.out.trans (if_neg (by simp)))
            case' false.inr =>
              have HE := Lib.hid (HEz.out.trans (if_neg (by simp)))
            case' true.inl =>
              have HE := Lib.hid (HEz.out.trans (if_pos rfl))
            case' true.inr =>
              have HE := Lib.hid (HEz.out.trans (if_pos rfl))
            case' false.inl | true.inl =>
              clear HEz HS
              have HIG : Hid (∀ q' os, Calls Tryz.prog 38 #[.slice _ k c, .int .i64 ahead] (grow (wr.drewN q') os) fun e w' => e = .returned (.bool false) ∧ ∃ q'' os', w' = grow ((grow (wr.drewN q') os).drewN q'') os') :=
              Lib.hid (fun q' os => (h1' ▸ HI.out ahead _).mono fun _ _ ⟨he, hu⟩ => ⟨he, by subst hu; exact (Up.refl _).grow⟩)

              have HGG := HIG
              clear h1'
              go_wp2
              refine wp_region_quiet_grown mixed (by kernel_rfl) ?_
              repeat (go_big_quiet_step (first | (go_at_call 38; with_reducible exact Calls.grown_of (HIG.out _ _)) | (go_at_call 40; with_reducible exact Calls.grown_of (HGG.out _ _))))
              refine wpQuiet_nil ?_
              intro _ hw'
              obtain ⟨⟨nq, osq⟩, hw''⟩ := hw'
              subst hw''
              go_wp2_with (first | (go_at_call 38; (with_reducible refine (HIP.out _).mono ?_); rintro e w' ⟨rfl, rfl⟩))
              go_ret
              exact ⟨by rw [HE.out]; rfl, HURG.out _ _⟩
            all_goals
              clear HEz HS
              have h1' : isB k ahead = true := by rw [hqe]; simp [isB, hq]
              obtain ⟨b, off, v0, v1, v2, v3, v4, v5, hA, hb, ⟨k0, k1, k2, k3, k4, k5⟩, _, HG⟩ := HF.out q hq
              cases hA
              have HIG : Hid (∀ q' os, Calls Tryz.prog 38 #[.slice _ k c, .int .i64 ahead] (grow (wr.drewN q') os) fun e w' => e = .returned (.bool true) ∧ ∃ q'' os', w' = grow ((grow (wr.drewN q') os).drewN q'') os') :=
                Lib.hid (fun q' os => (h1' ▸ HI.out ahead _).mono fun _ _ ⟨he, hu⟩ => ⟨he, by subst hu; exact (Up.refl _).grow⟩)
              have g0 := fun q' os => (HURG.out q' os).cell k0
              have g1 := fun q' os => (HURG.out q' os).cell k1
              have g2 := fun q' os => (HURG.out q' os).cell k2
              have g3 := fun q' os => (HURG.out q' os).cell k3
              have g4 := fun q' os => (HURG.out q' os).cell k4
              have g5 := fun q' os => (HURG.out q' os).cell k5
              have ha0 : (0 : Int) ≤ ahead := by omega
              have hal : ahead < (k : Int) := by omega
              have hat : ahead.toNat = q := by omega
              rcases ht with ht | ⟨X, us, ht, hX⟩
              · have hm0 : m = 0 := by rw [HM.out, ht]; rfl
                subst hm0
                have HGG := HIG
                clear k0 k1 k2 k3 k4 k5 HG h1' hqe hb HF HT HM HLen ht
                go_wp2
                refine wp_region_quiet_grown mixed (by kernel_rfl) ?_
                repeat (go_big_quiet_step (first | (go_at_call 38; with_reducible exact Calls.grown_of (HIG.out _ _)) | (go_at_call 40; with_reducible exact Calls.grown_of (HGG.out _ _))))
                refine wpQuiet_nil ?_
                intro _ hw'
                obtain ⟨⟨nq, osq⟩, hw''⟩ := hw'
                subst hw''
                go_wp2_with (first | (go_at_call 38; (with_reducible refine (HIP.out _).mono ?_); rintro e w' ⟨rfl, rfl⟩))
                go_ret
                exact ⟨by rw [HE.out]; rfl, HURG.out _ _⟩
              · subst ht
                have hm0 : 0 < m := by rw [HM.out]; simp
                obtain ⟨bt, offt, hT, hbt, hct⟩ := HT.out.at_int (k := 0) (by simp)
                subst hT
                rw [Nat.add_zero] at hct
                have hct : w.cell? ⟨bt, offt, none⟩ = some (.int .i32 X) := hct
                have HGG : Hid (∀ q' os, Calls Tryz.prog 40 #[.agg #[v0, v1, v2, v3, v4, v5], .int .i32 X] (grow (wr.drewN q') os) fun e w' => e = .returned (.int .i64 0) ∧ ∃ q'' os', w' = grow ((grow (wr.drewN q') os).drewN q'') os') :=
                  Lib.hid (fun q' os => (hX ▸ HG.out X _ (HURG.out _ _)).mono fun _ _ ⟨he, hu⟩ => ⟨he, hu.grow⟩)
                have gt := fun q' os => (HURG.out q' os).cell hct
                have dm : decide ((0 : Int) < (m : Int)) = true := decide_eq_true (by omega)
                clear k0 k1 k2 k3 k4 k5 hct HG h1' hqe hb hbt HF HT HM HLen hX
                go_wp2
                refine wp_region_quiet_grown mixed (by kernel_rfl) ?_
                repeat (go_big_quiet_step (first | (go_at_call 38; with_reducible exact Calls.grown_of (HIG.out _ _)) | (go_at_call 40; with_reducible exact Calls.grown_of (HGG.out _ _))))
                refine wpQuiet_nil ?_
                intro _ hw'
                obtain ⟨⟨nq, osq⟩, hw''⟩ := hw'
                subst hw''
                go_wp2_with (first | (go_at_call 38; (with_reducible refine (HIP.out _).mono ?_); rintro e w' ⟨rfl, rfl⟩))
                go_ret
                exact ⟨by rw [HE.out]; rfl, HURG.out _ _⟩
end Go.Proofs.YtnpcakeagpbgiaaGreat
