/-
  Contract of the document's Levels. Condition: at most 900 classes, a base level of at most 1.
-/
import Derived.Test.YtjdkpnmejkbkiaaXrg
import Derived.BigQuiet
set_option linter.unusedVariables false
set_option linter.unusedSimpArgs false
namespace Go.Proofs.Ytjdkpnmejkbkiaa
open Go.ChangeShapes Go.WideShapes Go.ChangeAt Go.RowKit Go.Sort

theorem start_rv {w wx u w1 : World} {b : Nat} {A : Option Addr} {c : Nat} {VM : Value} {M : List Int} (hM : Mine .i64 3 wx w.heap.size VM M) (hb : Below w.heap.size w wx) (hu : Up wx u) (hh : HasN LE u u.heap.size A [⟨b, 0, false⟩]) (hc : 1 ≤ c)
    (hu1 : Up u w1) (hat : At w1 u.heap.size 46 #[.slice A 1 c, .int .i64 0, .int .i64 0, .int .i64 0]) : Rv w u.heap.size A c VM (.slice none 0 0) (.slice none 0 0) M [] [] (begX b) w1 := by
  have hsz := hu.1.size
  refine ⟨(hM.up hu).up hu1, Mine.nil_ _ _ _ _, Mine.nil_ _ _ _ _, hat, hc, hh.carry hu1.1, fun a ha => ⟨?_, by simp [Value.ownBlock], by simp [Value.ownBlock]⟩, apart_nil _, (fun b h1 h2 => by cases h2), (fun b h1 h2 => by cases h2), fun e => ?_, (fun e => by cases e), (fun e => by cases e), Nat.le_trans hb.size hsz, hb.trans ((hu.trans hu1).1.mono hb.size), by simp [begX]⟩
  · obtain ⟨b', off, e1, hlt, _⟩ := hh (by simp)
    rw [ha] at e1
    injection e1 with e1
    have : a.block = b' := by rw [e1]
    omega
  · have := (hM.own_lt _ e).2; omega

set_option maxRecDepth 20000 in
set_option maxHeartbeats 8000000 in
theorem rlevels_ok (A : Option Addr) (n c b : Nat) (cs : List Int) (w : World) (hn : n = cs.length) (hc : n ≤ c) (hmax : n ≤ 900) (hb : b ≤ 1) (h : Has w w.heap.size A (cs.map (Value.int .i64))) :
    Calls Try.prog 8 #[.slice A n c, .int .i64 (b : Int)] w fun e w' => ∃ v1 v2, e = .returned (.tuple #[v1, v2]) ∧ Mine .i64 3 w' w.heap.size v1 (lvI b cs n) ∧ Mine .i64 3 w' w.heap.size v2 (clN b cs n) ∧ Below w.heap.size w w' := by
  have mixed : Try.prog.follows .mixedOrders = true := by kernel_rfl
  have HH := Lib.hid (fun (W : World) (hb : Below w.heap.size w W) => (h.below hb).more hb.size)
  have HMA := Lib.hid (rmatch_ok A n c cs w hn (by omega) h)
  have HN := Lib.hid hn
  have HML : Hid ((matL cs).length = n) := Lib.hid (by rw [mat_len, hn])
  clear hn h
  go_enter Try.func8, Try.ntmps8
  go_wp2_with (first
    | (go_at_call 18; (with_reducible refine HMA.out.mono ?_); rintro e wx ⟨VM, rfl, hM, hbx⟩)
    | (go_at_call 19; refine (rbegin_ok b wx).mono ?_; rintro e u ⟨A7, c7, rfl, hc7, hh7, hu, hfr⟩)
    | (refine wpList_store_at rfl 46 _ _ rfl u.heap.size _ rfl rfl 46 _ (at_new _ _ _) (by exact Try.info46) (by rfl) (by simp [Value.oneCell']) u ((Up.refl u).alloc _) (Nat.le_refl _) ?_; intro w1 hat hk hs hu1))
  have hrv := start_rv hM hbx hu hh7 hc7 hu1 hat
  obtain ⟨G, hG⟩ : ∃ G, u.heap.size = G := ⟨_, rfl⟩
  rw [hG] at hrv
  simp only [hG]
  clear hG hM hbx hu hh7 hc7 hu1 hat hk hs hfr
  go_loopw [8, 9, 10] (fun v8 v9 v10 wr => ∃ k : Nat, k ≤ n ∧ v10 = .int .i64 k ∧ Hid (∃ A c, Rv w G A c VM v8 v9 (matL cs) (lvI b cs k) (clN b cs k) (stN b cs k).1 wr)) (fun _ _ v10 _ => n - (intOf v10).toNat)
  case atStart => exact ⟨0, by omega, rfl, Lib.hid ⟨A7, c7, hrv⟩⟩
  case round =>
    clear hrv
    obtain ⟨k, hkn, rfl, HS⟩ := hrel
    obtain ⟨A7, c7, hrv⟩ := HS.out
    clear HS
    by_cases hlt : k < n
    · have hk1 : k < cs.length := by have := HN.out; omega
      obtain ⟨b0, o0, rfl, hb0, hcc⟩ := (HH.out _ hrv.below).at_int hk1
      have hgd := getD_get cs k hk1
      have hinv := inv_stN b cs (by omega) k (by omega)
      have hsuc := stN_succ b cs k hk1
      have hls := lvI_succ b cs k hk1
      have hcs := clN_succ b cs k hk1
      obtain ⟨pv, hpv⟩ : ∃ pv, (stN b cs k).2 = pv := ⟨_, rfl⟩
      have hat : atN b cs k = stepX b (stN b cs k).1 pv cs[k] (raC (fstI 0 (cs.drop (k + 1)))) := by unfold atN; rw [hgd, hpv]
      generalize (stN b cs k).1 = s at *
      generalize cs[k] = X at *
      have HI := Lib.hid hinv
      have hsl : 0 < s.l.length ∧ s.l.length ≤ 1000 := ⟨hinv.len.1, by have := hinv.len.2; omega⟩
      have hslv : (lastE s.l).lv ≤ 125 := hinv.last.2.1
      have hse : s.embs ≤ 1000 := by have := hinv.bnd; omega
      have hsi : s.isos ≤ 1000 ∧ s.vals ≤ 1000 := by have := hinv.bnd; omega
      have HRV := Lib.hid hrv
      have HREM := Lib.hid (fun W => rremoved_ok X W)
      have HL : Hid (∀ n os, Calls Try.prog 20 #[vOf A7 c7 s] (grow (wr.drewN n) os) fun e w' => e = .returned (entV (lastE s.l)) ∧ ∃ q os', w' = grow ((grow (wr.drewN n) os).drewN q) os') := Lib.hid fun n os => (rlast_ok _ s _ (hrv.carry (Up.of_grow wr n os).1).rst hsl).mono fun _ _ ⟨he, hu⟩ => ⟨he, hu.grow⟩
      have HO : Hid (∀ n os, Calls Try.prog 21 #[vOf A7 c7 s, .int .i64 X] (grow (wr.drewN n) os) fun e w' => e = .returned (.int .i64 (ownX s X)) ∧ ∃ q os', w' = grow ((grow (wr.drewN n) os).drewN q) os') := Lib.hid fun n os => (rown_ok _ s X _ (hrv.carry (Up.of_grow wr n os).1).rst hsl).mono fun _ _ ⟨he, hu⟩ => ⟨he, hu.grow⟩
      have HF := Lib.hid (fun W => field0_50 (lastE s.l) W)
      unfold vOf at HL HO
      unfold entV at HL HF
      have hf := HF.out
      have d0 : ∀ n os, (grow (wr.drewN n) os).cell? ⟨G, 0, none⟩ = some (Value.slice A7 s.l.length c7) := grown_cell hrv.hat 0 _ rfl
      have d1 : ∀ n os, (grow (wr.drewN n) os).cell? ⟨G, 1, none⟩ = some (Value.int .i64 (s.isos : Int)) := grown_cell hrv.hat 1 _ rfl
      have d2 : ∀ n os, (grow (wr.drewN n) os).cell? ⟨G, 2, none⟩ = some (Value.int .i64 (s.embs : Int)) := grown_cell hrv.hat 2 _ rfl
      have d3 : ∀ n os, (grow (wr.drewN n) os).cell? ⟨G, 3, none⟩ = some (Value.int .i64 (s.vals : Int)) := grown_cell hrv.hat 3 _ rfl
      clear hrv HF
      go_wp2
      go_quiet_grown ((first | (go_at_call 20; with_reducible exact Calls.grown_of (HL.out _ _)) | (go_at_call 21; with_reducible exact Calls.grown_of (HO.out _ _))))
      have hU := Up.of_grow wr nq osq
      dsimp only
      generalize grow (wr.drewN nq) osq = W2 at hU ⊢
      have hrv := HRV.out.carry hU.1
      obtain ⟨e0, e1, e2, e3⟩ := hrv.hat.four
      have HLN : Hid ((lvI b cs k).length = k) := Lib.hid (by unfold lvI; rw [List.length_map, lvN_len b cs k (by omega)])
      have HCN : Hid ((clN b cs k).length = k) := Lib.hid (clN_len b cs k (by omega))
      have HR2 := Lib.hid hrv
      clear hrv d0 d1 d2 d3 HRV HL HO hf
      cases hr : remC X with
      | true =>
        have hatv : atN b cs k = ((if X = 19 then popX s else if X = 10 then s else embedX s X), pv, 10) := by rw [hat]; unfold stepX; rw [if_pos hr]
        rw [hr] at HREM
        rw [hatv] at hsuc hls hcs
        have hp := prev_is b cs k (by omega)
        rw [hpv] at hp
        have hX : X = 15 ∨ X = 17 ∨ X = 16 ∨ X = 18 ∨ X = 19 ∨ X = 10 := by
          rcases rem_cases X with ⟨_, h⟩ | ⟨h, _⟩
          · exact h
          · rw [h] at hr; cases hr
        clear hat hatv hr hcc hb0 hgd hpv
        have hrv := HR2.out
        cases k with
        | zero =>
          rw [if_pos rfl] at hp
          subst hp
          by_cases h19 : X = 19
          · subst h19
            rw [if_pos rfl] at hsuc
            have HPOP := Lib.hid (rpop_ok _ s W2 hrv.rst hsl hse)
            have hne2 := (inv_pop hinv).ne
            generalize popX s = s2 at *
            unfold vOf at HPOP
            have HSUC := Lib.hid hsuc
            have HLS := Lib.hid hls
            have HCS := Lib.hid hcs
            clear hsuc hls hcs hinv hsl hslv hse hsi hk1 hX
            go_wp2_with (first
              | (go_at_call 16; refine (HREM.out _).mono ?_; rintro e u ⟨rfl, rfl⟩)
              | (go_at_call 22; refine (HPOP.out).mono ?_; rintro e u3 ⟨v3, rfl, hrs, hbu, hfr⟩; obtain ⟨A2, c2, rfl, ⟨old, o1, o2⟩, W5, hW5, hrv3⟩ := hrv.turn hbu hrs hfr hne2)
              | (refine wpList_plain rfl fun K hK => wp_store_row 46 _ _ rfl G _ rfl rfl 46 old o1 (by exact Try.info46) o2 (by simp [Value.oneCell']) (hK _ _ ?_); rw [hW5]; clear hW5)
              | (at_builtin; first
              | (refine wpList_push_far (k := .i64) (bytes := 8) rfl _ _ 22 rfl Try.underlying22 fullI (by decide) w.heap.size u8 (lvI pv cs 0) (pv : Int) _ hrv3.lev rfl rfl hrv3.below.size (by rw [HLN.out]; omega) ?_; intro v8' w8 hM8 hb8 hfar8; have hr8 := hrv3.push8 hM8 hb8 hfar8)
              | (refine wpList_push_far (k := .i64) (bytes := 8) rfl _ _ 22 rfl Try.underlying22 fullI (by decide) w.heap.size u9 (clN pv cs 0) (10 : Int) _ hr8.out rfl rfl hr8.below.size (by rw [HCN.out]; omega) ?_; intro v9' w9 hM9 hb9 hfar9; have hr9 := hr8.push9 hM9 hb9 hfar9)))
            go_roundw
            case rel => exact ⟨0 + 1, by omega, by go_num, Lib.hid ⟨_, _, by rw [HSUC.out, HLS.out, HCS.out]; exact hr9⟩⟩
            case measure => simp [intOf] <;> omega
          by_cases h10 : X = 10
          · subst h10
            rw [if_neg (by decide), if_pos rfl] at hsuc
            have HSUC := Lib.hid hsuc
            have HLS := Lib.hid hls
            have HCS := Lib.hid hcs
            clear hsuc hls hcs hinv hsl hslv hse hsi hk1 hX
            go_wp2_with (first
              | (go_at_call 16; refine (HREM.out _).mono ?_; rintro e u ⟨rfl, rfl⟩)
              | (at_builtin; first
              | (refine wpList_push_far (k := .i64) (bytes := 8) rfl _ _ 22 rfl Try.underlying22 fullI (by decide) w.heap.size u8 (lvI pv cs 0) (pv : Int) _ hrv.lev rfl rfl hrv.below.size (by rw [HLN.out]; omega) ?_; intro v8' w8 hM8 hb8 hfar8; have hr8 := hrv.push8 hM8 hb8 hfar8)
              | (refine wpList_push_far (k := .i64) (bytes := 8) rfl _ _ 22 rfl Try.underlying22 fullI (by decide) w.heap.size u9 (clN pv cs 0) (10 : Int) _ hr8.out rfl rfl hr8.below.size (by rw [HCN.out]; omega) ?_; intro v9' w9 hM9 hb9 hfar9; have hr9 := hr8.push9 hM9 hb9 hfar9)))
            go_roundw
            case rel => exact ⟨0 + 1, by omega, by go_num, Lib.hid ⟨_, _, by rw [HSUC.out, HLS.out, HCS.out]; exact hr9⟩⟩
            case measure => simp [intOf] <;> omega
          · have q19 : (X == 19) = false := beq_eq_false_iff_ne.2 h19
            have q10 : (X == 10) = false := beq_eq_false_iff_ne.2 h10
            have hX4 : X = 15 ∨ X = 17 ∨ X = 16 ∨ X = 18 := by omega
            rw [if_neg h19, if_neg h10] at hsuc
            have HEMB := Lib.hid (rembed_ok _ s X W2 hX4 hrv.rst hsl hslv hse)
            have hne2 := (inv_embed hinv X).ne
            generalize embedX s X = s2 at *
            unfold vOf at HEMB
            have HSUC := Lib.hid hsuc
            have HLS := Lib.hid hls
            have HCS := Lib.hid hcs
            clear hsuc hls hcs hinv hsl hslv hse hsi hk1 hX h19 h10 hX4
            go_wp2_with (first
              | (go_at_call 16; refine (HREM.out _).mono ?_; rintro e u ⟨rfl, rfl⟩)
              | (go_at_call 23; refine (HEMB.out).mono ?_; rintro e u3 ⟨v3, rfl, hrs, hbu, hfr⟩; obtain ⟨A2, c2, rfl, ⟨old, o1, o2⟩, W5, hW5, hrv3⟩ := hrv.turn hbu hrs hfr hne2)
              | (refine wpList_plain rfl fun K hK => wp_store_row 46 _ _ rfl G _ rfl rfl 46 old o1 (by exact Try.info46) o2 (by simp [Value.oneCell']) (hK _ _ ?_); rw [hW5]; clear hW5)
              | (at_builtin; first
              | (refine wpList_push_far (k := .i64) (bytes := 8) rfl _ _ 22 rfl Try.underlying22 fullI (by decide) w.heap.size u8 (lvI pv cs 0) (pv : Int) _ hrv3.lev rfl rfl hrv3.below.size (by rw [HLN.out]; omega) ?_; intro v8' w8 hM8 hb8 hfar8; have hr8 := hrv3.push8 hM8 hb8 hfar8)
              | (refine wpList_push_far (k := .i64) (bytes := 8) rfl _ _ 22 rfl Try.underlying22 fullI (by decide) w.heap.size u9 (clN pv cs 0) (10 : Int) _ hr8.out rfl rfl hr8.below.size (by rw [HCN.out]; omega) ?_; intro v9' w9 hM9 hb9 hfar9; have hr9 := hr8.push9 hM9 hb9 hfar9)))
            go_roundw
            case rel => exact ⟨0 + 1, by omega, by go_num, Lib.hid ⟨_, _, by rw [HSUC.out, HLS.out, HCS.out]; exact hr9⟩⟩
            case measure => simp [intOf] <;> omega
        | succ q =>
          rw [if_neg (by omega)] at hp
          obtain ⟨g8, c8, hv8, hc8, hg8, hg8b⟩ := hrv.lev.formB (by rw [HLN.out]; omega)
          rw [HLN.out] at hv8 hc8
          have hcell := hrv.lev
          subst hv8
          have hcell := hcell.cellAt q (by rw [HLN.out]; omega)
          have hpq : (lvI b cs (q + 1))[q]'(by rw [HLN.out]; omega) = (pv : Int) := by
            rw [← getD_get, hp]
            unfold lvI
            rw [List.getD_eq_getElem?_getD, List.getD_eq_getElem?_getD, List.getElem?_map, Nat.add_sub_cancel]
            cases (lvN b cs (q + 1))[q]? <;> rfl
          rw [hpq] at hcell
          clear hpq hp
          by_cases h19 : X = 19
          · subst h19
            rw [if_pos rfl] at hsuc
            have HPOP := Lib.hid (rpop_ok _ s W2 hrv.rst hsl hse)
            have hne2 := (inv_pop hinv).ne
            generalize popX s = s2 at *
            unfold vOf at HPOP
            have HSUC := Lib.hid hsuc
            have HLS := Lib.hid hls
            have HCS := Lib.hid hcs
            clear hsuc hls hcs hinv hsl hslv hse hsi hk1 hX
            go_wp2_with (first
              | (go_at_call 16; refine (HREM.out _).mono ?_; rintro e u ⟨rfl, rfl⟩)
              | (go_at_call 22; refine (HPOP.out).mono ?_; rintro e u3 ⟨v3, rfl, hrs, hbu, hfr⟩; obtain ⟨A2, c2, rfl, ⟨old, o1, o2⟩, W5, hW5, hrv3⟩ := hrv.turn hbu hrs hfr hne2)
              | (refine wpList_plain rfl fun K hK => wp_store_row 46 _ _ rfl G _ rfl rfl 46 old o1 (by exact Try.info46) o2 (by simp [Value.oneCell']) (hK _ _ ?_); rw [hW5]; clear hW5)
              | (at_builtin; first
              | (refine wpList_push_far (k := .i64) (bytes := 8) rfl _ _ 22 rfl Try.underlying22 fullI (by decide) w.heap.size (.slice (some ⟨g8, 0, none⟩) (q + 1) c8) (lvI b cs (q + 1)) (pv : Int) _ hrv3.lev rfl rfl hrv3.below.size (by rw [HLN.out]; omega) ?_; intro v8' w8 hM8 hb8 hfar8; have hr8 := hrv3.push8 hM8 hb8 hfar8)
              | (refine wpList_push_far (k := .i64) (bytes := 8) rfl _ _ 22 rfl Try.underlying22 fullI (by decide) w.heap.size u9 (clN b cs (q + 1)) (10 : Int) _ hr8.out rfl rfl hr8.below.size (by rw [HCN.out]; omega) ?_; intro v9' w9 hM9 hb9 hfar9; have hr9 := hr8.push9 hM9 hb9 hfar9)))
            go_roundw
            case rel => exact ⟨q + 1 + 1, by omega, by go_num, Lib.hid ⟨_, _, by rw [HSUC.out, HLS.out, HCS.out]; exact hr9⟩⟩
            case measure => simp [intOf] <;> omega
          by_cases h10 : X = 10
          · subst h10
            rw [if_neg (by decide), if_pos rfl] at hsuc
            have HSUC := Lib.hid hsuc
            have HLS := Lib.hid hls
            have HCS := Lib.hid hcs
            clear hsuc hls hcs hinv hsl hslv hse hsi hk1 hX
            go_wp2_with (first
              | (go_at_call 16; refine (HREM.out _).mono ?_; rintro e u ⟨rfl, rfl⟩)
              | (at_builtin; first
              | (refine wpList_push_far (k := .i64) (bytes := 8) rfl _ _ 22 rfl Try.underlying22 fullI (by decide) w.heap.size (.slice (some ⟨g8, 0, none⟩) (q + 1) c8) (lvI b cs (q + 1)) (pv : Int) _ hrv.lev rfl rfl hrv.below.size (by rw [HLN.out]; omega) ?_; intro v8' w8 hM8 hb8 hfar8; have hr8 := hrv.push8 hM8 hb8 hfar8)
              | (refine wpList_push_far (k := .i64) (bytes := 8) rfl _ _ 22 rfl Try.underlying22 fullI (by decide) w.heap.size u9 (clN b cs (q + 1)) (10 : Int) _ hr8.out rfl rfl hr8.below.size (by rw [HCN.out]; omega) ?_; intro v9' w9 hM9 hb9 hfar9; have hr9 := hr8.push9 hM9 hb9 hfar9)))
            go_roundw
            case rel => exact ⟨q + 1 + 1, by omega, by go_num, Lib.hid ⟨_, _, by rw [HSUC.out, HLS.out, HCS.out]; exact hr9⟩⟩
            case measure => simp [intOf] <;> omega
          · have q19 : (X == 19) = false := beq_eq_false_iff_ne.2 h19
            have q10 : (X == 10) = false := beq_eq_false_iff_ne.2 h10
            have hX4 : X = 15 ∨ X = 17 ∨ X = 16 ∨ X = 18 := by omega
            rw [if_neg h19, if_neg h10] at hsuc
            have HEMB := Lib.hid (rembed_ok _ s X W2 hX4 hrv.rst hsl hslv hse)
            have hne2 := (inv_embed hinv X).ne
            generalize embedX s X = s2 at *
            unfold vOf at HEMB
            have HSUC := Lib.hid hsuc
            have HLS := Lib.hid hls
            have HCS := Lib.hid hcs
            clear hsuc hls hcs hinv hsl hslv hse hsi hk1 hX h19 h10 hX4
            go_wp2_with (first
              | (go_at_call 16; refine (HREM.out _).mono ?_; rintro e u ⟨rfl, rfl⟩)
              | (go_at_call 23; refine (HEMB.out).mono ?_; rintro e u3 ⟨v3, rfl, hrs, hbu, hfr⟩; obtain ⟨A2, c2, rfl, ⟨old, o1, o2⟩, W5, hW5, hrv3⟩ := hrv.turn hbu hrs hfr hne2)
              | (refine wpList_plain rfl fun K hK => wp_store_row 46 _ _ rfl G _ rfl rfl 46 old o1 (by exact Try.info46) o2 (by simp [Value.oneCell']) (hK _ _ ?_); rw [hW5]; clear hW5)
              | (at_builtin; first
              | (refine wpList_push_far (k := .i64) (bytes := 8) rfl _ _ 22 rfl Try.underlying22 fullI (by decide) w.heap.size (.slice (some ⟨g8, 0, none⟩) (q + 1) c8) (lvI b cs (q + 1)) (pv : Int) _ hrv3.lev rfl rfl hrv3.below.size (by rw [HLN.out]; omega) ?_; intro v8' w8 hM8 hb8 hfar8; have hr8 := hrv3.push8 hM8 hb8 hfar8)
              | (refine wpList_push_far (k := .i64) (bytes := 8) rfl _ _ 22 rfl Try.underlying22 fullI (by decide) w.heap.size u9 (clN b cs (q + 1)) (10 : Int) _ hr8.out rfl rfl hr8.below.size (by rw [HCN.out]; omega) ?_; intro v9' w9 hM9 hb9 hfar9; have hr9 := hr8.push9 hM9 hb9 hfar9)))
            go_roundw
            case rel => exact ⟨q + 1 + 1, by omega, by go_num, Lib.hid ⟨_, _, by rw [HSUC.out, HLS.out, HCS.out]; exact hr9⟩⟩
            case measure => simp [intOf] <;> omega
      | false =>
        rw [hr] at HREM
        have hat2 : atN b cs k = if X = 20 ∨ X = 21 then (isoX s (X == 21), (lastE s.l).lv, ownX s X) else if X = 22 then (isoX s (raC (fstI 0 (cs.drop (k + 1)))), (lastE s.l).lv, ownX s X)
          else if X = 23 then (endX s, (lastE (endX s).l).lv, ownX (endX s) X) else if X = 11 then (begX b, b, X) else (s, (lastE s.l).lv, ownX s X) := by rw [hat]; unfold stepX; rw [if_neg (by rw [hr]; decide)]
        clear hat
        by_cases h20 : X = 20 ∨ X = 21
        · have hne2 := fun odd => (inv_iso hinv odd).ne
          have hrv := HR2.out
          have HISO := Lib.hid (risolate_ok _ s (X == 21) W2 hrv.rst hsl hslv hsi)
          rw [if_pos h20] at hat2
          rw [hat2] at hsuc hls hcs
          have hne2 := hne2 (X == 21)
          unfold vOf at HISO
          generalize isoX s (X == 21) = s2 at *
          have HSUC := Lib.hid hsuc
          have HLS := Lib.hid hls
          have HCS := Lib.hid hcs
          clear hsuc hls hcs hat2 hinv hsl hslv hse hsi hr hk1 hgd hpv hcc hb0
          rcases h20 with rfl | rfl
          all_goals
            go_wp2_with (first
              | (go_at_call 16; refine (HREM.out _).mono ?_; rintro e u ⟨rfl, rfl⟩)
              | (go_at_call 24; refine (HISO.out).mono ?_; rintro e u3 ⟨v3, rfl, hrs, hbu, hfr⟩; obtain ⟨A2, c2, rfl, ⟨old, o1, o2⟩, W5, hW5, hrv3⟩ := hrv.turn hbu hrs hfr hne2)
              | (refine wpList_plain rfl fun K hK => wp_store_row 46 _ _ rfl G _ rfl rfl 46 old o1 (by exact Try.info46) o2 (by simp [Value.oneCell']) (hK _ _ ?_); rw [hW5]; clear hW5)
              | (at_builtin; first
              | (refine wpList_push_far (k := .i64) (bytes := 8) rfl _ _ 22 rfl Try.underlying22 fullI (by decide) w.heap.size u8 (lvI b cs k) ((lastE s.l).lv : Int) _ hrv3.lev rfl rfl hrv3.below.size (by rw [HLN.out]; omega) ?_; intro v8' w8 hM8 hb8 hfar8; have hr8 := hrv3.push8 hM8 hb8 hfar8)
              | (refine wpList_push_far (k := .i64) (bytes := 8) rfl _ _ 22 rfl Try.underlying22 fullI (by decide) w.heap.size u9 (clN b cs k) (ownX s _) _ hr8.out rfl rfl hr8.below.size (by rw [HCN.out]; omega) ?_; intro v9' w9 hM9 hb9 hfar9; have hr9 := hr8.push9 hM9 hb9 hfar9)))
            go_roundw
            case rel => exact ⟨k + 1, by omega, by go_num, Lib.hid ⟨_, _, by rw [HSUC.out, HLS.out, HCS.out]; exact hr9⟩⟩
            case measure => simp [intOf] <;> omega
        by_cases h22 : X = 22
        · subst h22
          have hatv : atN b cs k = (isoX s (raC (fstI 0 (cs.drop (k + 1)))), (lastE s.l).lv, ownX s 22) := by rw [hat2]; rfl
          rw [hatv] at hsuc hls hcs
          have hrv := HR2.out
          have hne2 : (isoX s (raC (fstI 0 (cs.drop (k + 1))))).l ≠ [] := (inv_iso hinv _).ne
          obtain ⟨AM, cM, hVM, hcM, _, _⟩ := hrv.mat.size
          rw [HML.out] at hVM hcM
          have HRI : Hid (∀ W, Below W2.heap.size W2 W → Calls Try.prog 25 #[.slice (some ⟨b0, o0, none⟩) n c, VM, .int .i64 (k : Int)] W fun e w' => e = .returned (.bool (raC (fstI 0 (cs.drop (k + 1))))) ∧ Below W.heap.size W w') := Lib.hid fun W hW => by
            have h1 := (hrv.carry hW)
            have h2 := h1.mat.size
            obtain ⟨A9, c9, h3, _, _, h4⟩ := h2
            rw [HML.out, hVM] at h3
            injection h3 with h31 h32 h33
            subst h31
            rw [hVM]
            exact rright_ok _ _ n c cM k cs W HN.out hc (by omega) hlt (by rw [hgd]; rfl) (HH.out W h1.below) h4
          have HISO : Hid (∀ W, Below W2.heap.size W2 W → Calls Try.prog 24 #[vOf A7 c7 s, .bool (raC (fstI 0 (cs.drop (k + 1))))] W fun e w' => ∃ v', e = .returned v' ∧ RSt w' v' (isoX s (raC (fstI 0 (cs.drop (k + 1))))) ∧ Below W.heap.size W w' ∧ Far W (vOf A7 c7 s) v') := Lib.hid fun W hW => risolate_ok _ s _ W (hrv.carry hW).rst hsl hslv hsi
          unfold vOf at HISO
          generalize raC (fstI 0 (cs.drop (k + 1))) = r at *
          generalize isoX s r = s2 at *
          have HSUC := Lib.hid hsuc
          have HLS := Lib.hid hls
          have HCS := Lib.hid hcs
          have f0 := fun j => hrv.hat.free j
          clear hsuc hls hcs hat2 hatv hinv hsl hslv hse hsi hr hk1 hgd hpv hcc hb0 h20 hVM hcM
          go_wp2_with (go_at_call 16; refine (HREM.out _).mono ?_; rintro e u ⟨rfl, rfl⟩)
          go_region_law ((go_simp; first
            | (go_at_call 25; refine (HRI.out _ ((Below.refl _ _).drew)).mono ?_; rintro e u1 ⟨rfl, hb1⟩; have hrv1 := hrv.carry (((Below.refl W2.heap.size W2).drew).trans hb1); obtain ⟨g0, g1, g2, g3⟩ := hrv1.hat.four)
            | (go_at_call 24; refine (HISO.out u1 (((Below.refl W2.heap.size W2).drew).trans hb1)).mono ?_; rintro e u3 ⟨v3, rfl, hrs, hbu, hfr⟩; obtain ⟨A2, c2, rfl, W5, hW5, hrv3⟩ := hrv1.turn4 hbu hrs hfr hne2; have HW5 := Lib.hid hW5; clear hW5; obtain ⟨k0, k1, k2, k3⟩ := (hrv1.carry hbu).hat.four; have ff := fun j => (hrv1.carry hbu).hat.free j)))
          all_goals
            rw [HW5.out]
            clear HW5 k0 k1 k2 k3 ff
            go_wp2_with (first
              | (at_builtin; first
              | (refine wpList_push_far (k := .i64) (bytes := 8) rfl _ _ 22 rfl Try.underlying22 fullI (by decide) w.heap.size u8 (lvI b cs k) ((lastE s.l).lv : Int) _ hrv3.lev rfl rfl hrv3.below.size (by rw [HLN.out]; omega) ?_; intro v8' w8 hM8 hb8 hfar8; have hr8 := hrv3.push8 hM8 hb8 hfar8)
              | (refine wpList_push_far (k := .i64) (bytes := 8) rfl _ _ 22 rfl Try.underlying22 fullI (by decide) w.heap.size u9 (clN b cs k) (ownX s 22) _ hr8.out rfl rfl hr8.below.size (by rw [HCN.out]; omega) ?_; intro v9' w9 hM9 hb9 hfar9; have hr9 := hr8.push9 hM9 hb9 hfar9)))
            go_roundw
            case rel => exact ⟨k + 1, by omega, by go_num, Lib.hid ⟨_, _, by rw [HSUC.out, HLS.out, HCS.out]; exact hr9⟩⟩
            case measure => simp [intOf] <;> omega
        by_cases h23 : X = 23
        · subst h23
          have hatv : atN b cs k = (endX s, (lastE (endX s).l).lv, ownX (endX s) 23) := by rw [hat2]; rfl
          rw [hatv] at hsuc hls hcs
          have hrv := HR2.out
          have hi2 := inv_end hinv
          have HEND := Lib.hid (rend_ok _ s W2 hrv.rst hsl hsi hinv.vals)
          have hs2l : 0 < (endX s).l.length ∧ (endX s).l.length ≤ 1000 := ⟨hi2.len.1, by have := hi2.len.2; omega⟩
          have hne2 := hi2.ne
          unfold vOf at HEND
          generalize endX s = s2 at *
          have HSUC := Lib.hid hsuc
          have HLS := Lib.hid hls
          have HCS := Lib.hid hcs
          have HLA := Lib.hid (fun W A c (h : RSt W (vOf A c s2) s2) => rlast_ok _ s2 W h hs2l)
          have HOW := Lib.hid (fun W A c (h : RSt W (vOf A c s2) s2) => rown_ok _ s2 23 W h hs2l)
          have HF := Lib.hid (fun W => field0_50 (lastE s2.l) W)
          unfold entV at HLA HF
          generalize lastE s2.l = E2 at *
          clear hsuc hls hcs hat2 hatv hinv hi2 hs2l hsl hslv hse hsi hr hk1 hgd hpv hcc hb0 h20 h22
          go_wp2_with (first
            | (go_at_call 16; refine (HREM.out _).mono ?_; rintro e u ⟨rfl, rfl⟩)
            | (go_at_call 26; refine (HEND.out).mono ?_; rintro e u3 ⟨v3, rfl, hrs, hbu, hfr⟩; obtain ⟨A2, c2, rfl, ⟨old, o1, o2⟩, W5, hW5, hrv3⟩ := hrv.turn hbu hrs hfr hne2)
            | (refine wpList_plain rfl fun K hK => wp_store_row 46 _ _ rfl G _ rfl rfl 46 old o1 (by exact Try.info46) o2 (by simp [Value.oneCell']) (hK _ _ ?_); rw [hW5]; clear hW5))
          have HL : Hid (∀ n os, Calls Try.prog 20 #[vOf A2 c2 s2] (grow (W5.drewN n) os) fun e w' => e = .returned (.agg #[.int .i64 (E2.lv : Int), .int .i64 (E2.ov : Int), .bool E2.iso]) ∧ ∃ q os', w' = grow ((grow (W5.drewN n) os).drewN q) os') := Lib.hid fun n os => (HLA.out _ _ _ (hrv3.carry (Up.of_grow W5 n os).1).rst).mono fun _ _ ⟨he, hu⟩ => ⟨he, hu.grow⟩
          have HO : Hid (∀ n os, Calls Try.prog 21 #[vOf A2 c2 s2, .int .i64 23] (grow (W5.drewN n) os) fun e w' => e = .returned (.int .i64 (ownX s2 23)) ∧ ∃ q os', w' = grow ((grow (W5.drewN n) os).drewN q) os') := Lib.hid fun n os => (HOW.out _ _ _ (hrv3.carry (Up.of_grow W5 n os).1).rst).mono fun _ _ ⟨he, hu⟩ => ⟨he, hu.grow⟩
          unfold vOf at HL HO
          have d0 : ∀ n os, (grow (W5.drewN n) os).cell? ⟨G, 0, none⟩ = some (Value.slice A2 s2.l.length c2) := grown_cell hrv3.hat 0 _ rfl
          have d1 : ∀ n os, (grow (W5.drewN n) os).cell? ⟨G, 1, none⟩ = some (Value.int .i64 (s2.isos : Int)) := grown_cell hrv3.hat 1 _ rfl
          have d2 : ∀ n os, (grow (W5.drewN n) os).cell? ⟨G, 2, none⟩ = some (Value.int .i64 (s2.embs : Int)) := grown_cell hrv3.hat 2 _ rfl
          have d3 : ∀ n os, (grow (W5.drewN n) os).cell? ⟨G, 3, none⟩ = some (Value.int .i64 (s2.vals : Int)) := grown_cell hrv3.hat 3 _ rfl
          have hf := HF.out
          go_quiet_grown ((first | (go_at_call 20; with_reducible exact Calls.grown_of (HL.out _ _)) | (go_at_call 21; with_reducible exact Calls.grown_of (HO.out _ _))))
          have hU5 := Up.of_grow W5 nq osq
          dsimp only
          generalize grow (W5.drewN nq) osq = W6 at hU5 ⊢
          have hrv6 := hrv3.carry hU5.1
          clear d0 d1 d2 d3 hf HL HO
          go_wp2_with (first
            | (at_builtin; first
              | (refine wpList_push_far (k := .i64) (bytes := 8) rfl _ _ 22 rfl Try.underlying22 fullI (by decide) w.heap.size u8 (lvI b cs k) (E2.lv : Int) _ hrv6.lev rfl rfl hrv6.below.size (by rw [HLN.out]; omega) ?_; intro v8' w8 hM8 hb8 hfar8; have hr8 := hrv6.push8 hM8 hb8 hfar8)
              | (refine wpList_push_far (k := .i64) (bytes := 8) rfl _ _ 22 rfl Try.underlying22 fullI (by decide) w.heap.size u9 (clN b cs k) (ownX s2 23) _ hr8.out rfl rfl hr8.below.size (by rw [HCN.out]; omega) ?_; intro v9' w9 hM9 hb9 hfar9; have hr9 := hr8.push9 hM9 hb9 hfar9)))
          go_roundw
          case rel => exact ⟨k + 1, by omega, by go_num, Lib.hid ⟨_, _, by rw [HSUC.out, HLS.out, HCS.out]; exact hr9⟩⟩
          case measure => simp [intOf] <;> omega
        by_cases h11 : X = 11
        · subst h11
          have hne2 : (begX b).l ≠ [] := by simp [begX]
          have hrv := HR2.out
          have hatv : atN b cs k = (begX b, b, 11) := by rw [hat2]; rfl
          rw [hatv] at hsuc hls hcs
          have HBEG : Hid (Calls Try.prog 19 #[.int .i64 (b : Int)] W2 fun e w' => ∃ v', e = .returned v' ∧ RSt w' v' (begX b) ∧ Below W2.heap.size W2 w' ∧ Far W2 (vOf A7 c7 s) v') := Lib.hid ((rbegin_ok b W2).mono fun e w' ⟨A2, c2, h1, h2, h3, h4, h5⟩ => ⟨_, h1, ⟨A2, c2, rfl, h2, h3⟩, h4.1, far_new h5⟩)
          have HSUC := Lib.hid hsuc
          have HLS := Lib.hid hls
          have HCS := Lib.hid hcs
          clear hsuc hls hcs hat2 hatv hinv hsl hslv hse hsi hr hk1 hgd hpv hcc hb0 h20 h22 h23
          go_wp2_with (first
            | (go_at_call 16; refine (HREM.out _).mono ?_; rintro e u ⟨rfl, rfl⟩)
            | (go_at_call 19; refine (HBEG.out).mono ?_; rintro e u3 ⟨v3, rfl, hrs, hbu, hfr⟩; obtain ⟨A2, c2, rfl, ⟨old, o1, o2⟩, W5, hW5, hrv3⟩ := hrv.turn hbu hrs hfr hne2)
            | (refine wpList_plain rfl fun K hK => wp_store_row 46 _ _ rfl G _ rfl rfl 46 old o1 (by exact Try.info46) o2 (by simp [Value.oneCell']) (hK _ _ ?_); rw [hW5]; clear hW5)
            | (at_builtin; first
              | (refine wpList_push_far (k := .i64) (bytes := 8) rfl _ _ 22 rfl Try.underlying22 fullI (by decide) w.heap.size u8 (lvI b cs k) (b : Int) _ hrv3.lev rfl rfl hrv3.below.size (by rw [HLN.out]; omega) ?_; intro v8' w8 hM8 hb8 hfar8; have hr8 := hrv3.push8 hM8 hb8 hfar8)
              | (refine wpList_push_far (k := .i64) (bytes := 8) rfl _ _ 22 rfl Try.underlying22 fullI (by decide) w.heap.size u9 (clN b cs k) (11 : Int) _ hr8.out rfl rfl hr8.below.size (by rw [HCN.out]; omega) ?_; intro v9' w9 hM9 hb9 hfar9; have hr9 := hr8.push9 hM9 hb9 hfar9)))
          go_roundw
          case rel => exact ⟨k + 1, by omega, by go_num, Lib.hid ⟨_, _, by rw [HSUC.out, HLS.out, HCS.out]; exact hr9⟩⟩
          case measure => simp [intOf] <;> omega
        · have q20 : (X == 20) = false := beq_eq_false_iff_ne.2 fun e => h20 (.inl e)
          have q21 : (X == 21) = false := beq_eq_false_iff_ne.2 fun e => h20 (.inr e)
          have q22 : (X == 22) = false := beq_eq_false_iff_ne.2 h22
          have q23 : (X == 23) = false := beq_eq_false_iff_ne.2 h23
          have q11 : (X == 11) = false := beq_eq_false_iff_ne.2 h11
          have hatv : atN b cs k = (s, (lastE s.l).lv, ownX s X) := by rw [hat2, if_neg h20, if_neg h22, if_neg h23, if_neg h11]
          rw [hatv] at hsuc hls hcs
          have HSUC := Lib.hid hsuc
          have HLS := Lib.hid hls
          have HCS := Lib.hid hcs
          have hrv := HR2.out
          clear hsuc hls hcs hat2 hatv hinv hsl hslv hse hsi hr hk1 hgd hpv hcc hb0 h20 h22 h23 h11
          go_wp2_with (first
            | (go_at_call 16; refine (HREM.out _).mono ?_; rintro e u ⟨rfl, rfl⟩)
            | (at_builtin; first
              | (refine wpList_push_far (k := .i64) (bytes := 8) rfl _ _ 22 rfl Try.underlying22 fullI (by decide) w.heap.size u8 (lvI b cs k) ((lastE s.l).lv : Int) _ hrv.lev rfl rfl hrv.below.size (by rw [HLN.out]; omega) ?_; intro v8' w8 hM8 hb8 hfar8; have hr8 := hrv.push8 hM8 hb8 hfar8)
              | (refine wpList_push_far (k := .i64) (bytes := 8) rfl _ _ 22 rfl Try.underlying22 fullI (by decide) w.heap.size u9 (clN b cs k) (ownX s X) _ hr8.out rfl rfl hr8.below.size (by rw [HCN.out]; omega) ?_; intro v9' w9 hM9 hb9 hfar9; have hr9 := hr8.push9 hM9 hb9 hfar9)))
          go_roundw
          case rel => exact ⟨k + 1, by omega, by go_num, Lib.hid ⟨_, _, by rw [HSUC.out, HLS.out, HCS.out]; exact hr9⟩⟩
          case measure => simp [intOf] <;> omega
    · obtain rfl : k = n := by omega
      have h1 := hrv.lev
      have h2 := hrv.out
      have h3 := hrv.below
      clear hrv
      go_wp2
      exact bodyPost_ret (results_tmp2 rfl _ _ _) rfl ⟨u8, u9, rfl, h1, h2, h3⟩
end Go.Proofs.Ytjdkpnmejkbkiaa
