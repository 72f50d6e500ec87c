/-
  Contract of the program's Levels. Condition: at most 1000 classes, a base level of at most 125.
-/
import Derived.Test.YthikjknikdacbaaXsh
import Derived.Test.YthikjknikdacbaaXpc
set_option linter.unusedVariables false
set_option linter.unusedSimpArgs false
namespace Go.Proofs.Ythikjknikdacbaa
open Go.ChangeShapes Go.WideShapes Go.ChangeAt Go.RowKit Go.Sort

def lvI (b : Nat) (cs : List Int) (k : Nat) : List Int := (lvN b cs k).map Int.ofNat
theorem made_ints (n : Nat) : (madeCells #[Value.int .i64 0] n) = ((List.replicate n (0 : Int)).map (Value.int .i64)).toArray := by
  have := made_zero n
  rw [Nat.mul_one] at this
  exact (congrArg List.toArray this)

theorem lvI_succ (b : Nat) (cs : List Int) (k : Nat) (h : k < cs.length) : lvI b cs (k + 1) = lvI b cs k ++ [((atN b cs k).2.1 : Int)] := by
  unfold lvI
  rw [lvN_succ b cs k h, List.map_append]
  rfl
/-- where the isolate of an initiator ends: behind it, at most at the list's end -/
theorem endI_nat (cs : List Int) (k : Nat) (hk : k < cs.length) (ho : opnC (cs.getD k 0) = true) : ∃ E : Nat, endI cs k = E ∧ k < E ∧ E ≤ cs.length := by
  rcases (inv_mat cs cs.length).vals k hk with hv | ⟨q, k1, k2, k3, k4, k5, k6⟩
  · have hv' : (matL cs).getD k 0 = -1 := hv
    exact ⟨cs.length, by unfold endI; rw [hv', if_pos (by decide)], hk, Nat.le_refl _⟩
  · have k1' : (matL cs).getD k 0 = q := k1
    refine ⟨q, by unfold endI; rw [k1', if_neg (by omega)], ?_, by omega⟩
    rcases Nat.lt_or_ge k q with h | h
    · exact h
    · have := (k5 (by omega)).2
      rw [this] at ho; cases ho
theorem leftB_is (cs : List Int) (k E : Nat) (hk : k < cs.length) (ho : opnC (cs.getD k 0) = true) (hE : endI cs k = E) (h1 : k < E) (h2 : E ≤ cs.length) : leftB (segL cs k E) = if cs.getD k 0 = 22 then raC (fstI 0 (cs.drop (k + 1))) else cs.getD k 0 == 21 := by
  have hc := seg_cons cs k E h1 hk
  have hlen : (segL cs k E).length = E - k := by unfold segL; rw [List.length_take, List.length_drop]; omega
  have h0 : (segL cs k E).getD 0 0 = cs.getD k 0 := by rw [hc]; rfl
  unfold leftB
  have e1 : (max ((k : Int) + 1) 0).toNat = k + 1 := by omega
  have e2 : (max (1 : Int) 0).toNat = 1 := by omega
  have e3 : (min (E : Int) (cs.length : Int)).toNat = E := by omega
  have e4 : (min ((E - k : Nat) : Int) ((E - k : Nat) : Int)).toNat = E - k := by omega
  have key : firstV (segL cs k E) 1 ((segL cs k E).length : Int) = firstV cs ((k : Int) + 1) (E : Int) := by
    rw [firstV_eq, firstV_eq, hlen, e1, e2, e3, e4]
    congr 1
    unfold segL
    rw [List.take_take, Nat.min_self, List.drop_take, List.drop_take, List.drop_drop, Nat.sub_add_eq]
  rw [h0, key, ← first_iso k hk ho, hE]
theorem two_made (w : World) (n : Nat) (hn : n ≤ 1000) :
    Mine .i64 3 ((w.alloc (.cells (madeCells #[Value.int .i64 0] n) 3)).alloc (.cells (madeCells #[Value.int .i64 0] n) 3)).drew w.heap.size (.slice (some ⟨w.heap.size, 0, none⟩) n n) (List.replicate n 0) ∧
    Mine .i64 3 ((w.alloc (.cells (madeCells #[Value.int .i64 0] n) 3)).alloc (.cells (madeCells #[Value.int .i64 0] n) 3)).drew w.heap.size (.slice (some ⟨w.heap.size + 1, 0, none⟩) n n) (List.replicate n 0) ∧
    Below w.heap.size w ((w.alloc (.cells (madeCells #[Value.int .i64 0] n) 3)).alloc (.cells (madeCells #[Value.int .i64 0] n) 3)).drew := by
  rw [made_ints]
  obtain ⟨h1, h2⟩ := (⟨(at_new w ((List.replicate n (0 : Int)).map (Value.int .i64)).toArray 3).alloc _, by
    have := at_new (w.alloc (.cells ((List.replicate n (0 : Int)).map (Value.int .i64)).toArray 3)) ((List.replicate n (0 : Int)).map (Value.int .i64)).toArray 3
    rwa [World.size_alloc] at this⟩ :
    At ((w.alloc (.cells ((List.replicate n (0 : Int)).map (Value.int .i64)).toArray 3)).alloc (.cells ((List.replicate n (0 : Int)).map (Value.int .i64)).toArray 3)) w.heap.size 3 ((List.replicate n (0 : Int)).map (Value.int .i64)).toArray ∧ At ((w.alloc (.cells ((List.replicate n (0 : Int)).map (Value.int .i64)).toArray 3)).alloc (.cells ((List.replicate n (0 : Int)).map (Value.int .i64)).toArray 3)) (w.heap.size + 1) 3 ((List.replicate n (0 : Int)).map (Value.int .i64)).toArray)
  refine ⟨(mine_row n (by simp) h1 (Nat.le_refl _) (by simp; omega)).drew, (mine_row n (by simp) h2 (Nat.le_succ _) (by simp; omega)).drew, (((Below.refl _ _).alloc (Nat.le_refl _) _).alloc (by simp) _).drew⟩
theorem start_st {u u2 w1 : World} {v : Value} {b : Nat} (hM : MineN LE 59 u2 u.heap.size v [⟨b, 0, false⟩]) (hu : Up u u2) (hu1 : Up u2 w1) (hat : At w1 u2.heap.size 39 #[v, .int .i64 0, .int .i64 0, .int .i64 0]) : St u.heap.size w1 u2.heap.size (begX b) :=
  ⟨hu.1.size, v, hat, hM.up hu1, fun e => by have := (hM.own_lt _ e).2; omega⟩
theorem start_lv {w wx u w1 : World} {g6 g7 n : Nat} {V8 : Value} {L : List Int} (h6 : Mine .i64 3 wx w.heap.size (.slice (some ⟨g6, 0, none⟩) n n) (List.replicate n 0)) (h7 : Mine .i64 3 wx w.heap.size (.slice (some ⟨g7, 0, none⟩) n n) (List.replicate n 0)) (hne : g6 ≠ g7)
    (hb : Below w.heap.size w wx) (h8 : Mine .i64 3 u wx.heap.size V8 L) (hbu : Below wx.heap.size wx u) (hu : Up u w1) : Lv w u.heap.size g6 g7 n V8 L 0 [] [] w1 := by
  have b1 : Below wx.heap.size wx w1 := hbu.trans (hu.1.mono hbu.size)
  have l6 := (h6.own_lt g6 rfl).2
  have l7 := (h7.own_lt g7 rfl).2
  refine ⟨by simpa using h6.below b1, by simpa using h7.below b1, rfl, rfl, (h8.up hu).low hb.size, hne, fun e => ?_, fun e => ?_, Nat.lt_of_lt_of_le l6 hbu.size, Nat.lt_of_lt_of_le l7 hbu.size, fun b e => (h8.own_lt b e).2, Nat.le_trans hb.size hbu.size, hu.1.size, hb.trans (b1.mono hb.size)⟩
  · have := (h8.own_lt _ e).1; omega
  · have := (h8.own_lt _ e).1; omega

/-- the state made anew at a B, stored over the elder one -/
theorem St.anew {B1 G b : Nat} {wr u : World} {s : Xs} {v : Value} (h : St B1 wr G s) (hB : B1 ≤ wr.heap.size) (hu : Up wr u) (hM : MineN LE 59 u wr.heap.size v [⟨b, 0, false⟩]) :
    (∃ old : Array Value, At u G 39 old ∧ old.size = 4) ∧ (∃ A c, v = .slice A 1 c) ∧ St B1 (u.setRow G #[v, .int .i64 0, .int .i64 0, .int .i64 0]) G (begX b) ∧ Below B1 wr (u.setRow G #[v, .int .i64 0, .int .i64 0, .int .i64 0]) := by
  have hlt := h.lt
  have h2 := h.up hu
  obtain ⟨h3, h4⟩ := h2.whole (hM.low hB) (fun e => by have := (hM.own_lt _ e).1; omega)
  obtain ⟨lo, v0, a1, _⟩ := h2
  obtain ⟨A, c, hv, _⟩ := hM.has
  exact ⟨⟨_, a1, rfl⟩, ⟨A, c, hv⟩, h3, (hu.1.mono hB).trans h4⟩

set_option maxRecDepth 20000 in
set_option maxHeartbeats 8000000 in
theorem levels_ok (A : Option Addr) (n c b : Nat) (cs : List Int) (w : World) (hn : n = cs.length) (hc : n ≤ c) (hmax : n ≤ 900) (hb : b ≤ 1) (h : Has w w.heap.size A (cs.map (Value.int .i64))) :
    Calls Try.prog 9 #[.slice A n c, .int .i64 (b : Int)] w fun e w' => ∃ v1 v2, e = .returned (.tuple #[v1, v2]) ∧ Mine .i64 3 w' w.heap.size v1 (lvI b cs n) ∧ Mine .i64 3 w' w.heap.size v2 (clN b cs n) ∧ Below w.heap.size w w' := by
  have HH := Lib.hid (fun (W : World) (hb : Below w.heap.size w W) => (h.below hb).more hb.size)
  have HE := Lib.hid (fun (W : World) (hb : Below w.heap.size w W) => ends_ok A n c cs W hn (by omega) (HH.out W hb))
  have HMK := fun W => run_make_row' (P := Try.prog) 22 3 (.int .i64 0) 8 Try.underlying22 fullI rfl .i64 .i64 n (by omega) (by omega) W
  have HN := Lib.hid hn
  clear hn h
  go_enter Try.func9, Try.ntmps9
  go_upto_region 1 with fail
  go_cut [6, 7] (fun s6 s7 wx => ∃ g6 g7 : Nat, s6 = .slice (some ⟨g6, 0, none⟩) n n ∧ s7 = .slice (some ⟨g7, 0, none⟩) n n ∧ Hid (Mine .i64 3 wx w.heap.size (.slice (some ⟨g6, 0, none⟩) n n) (List.replicate n 0) ∧ Mine .i64 3 wx w.heap.size (.slice (some ⟨g7, 0, none⟩) n n) (List.replicate n 0) ∧ g6 ≠ g7 ∧ Below w.heap.size w wx))
  case first =>
    obtain ⟨t1, t2, t3⟩ := two_made w n (by omega)
    go_region_law (fail)
    · go_wp2_with fail
      go_meet
      exact ⟨_, _, rfl, rfl, Lib.hid ⟨t1, t2, by omega, t3⟩⟩
    · go_wp2_with fail
      go_meet
      exact ⟨_, _, rfl, rfl, Lib.hid ⟨t2, t1, by omega, t3⟩⟩
  case rest =>
    clear HMK
    obtain ⟨g6, g7, rfl, rfl, HX⟩ := hcut
    obtain ⟨h6, h7, hne, hbx⟩ := HX.out
    go_wp2_with (first
      | (go_at_call 18; (with_reducible refine (HE.out _ hbx).mono ?_); rintro e u ⟨V8, L, rfl, h8, hL, hE, hbu⟩)
      | (go_at_call 19; refine (initial_ok b u).mono ?_; rintro e u2 ⟨v, rfl, hu, hMn⟩)
      | (refine wpList_store_at rfl 39 _ _ rfl u2.heap.size _ rfl rfl 39 _ (at_new _ _ _) (by exact Try.info39) (by rfl) (by obtain ⟨A', c', rfl, _⟩ := hMn.has; simp [Value.oneCell']) u2 ((Up.refl u2).alloc _) (Nat.le_refl _) ?_; intro w1 hat hk hs hu1))
    have hlv := start_lv h6 h7 hne hbx h8 hbu (hu.trans hu1)
    have hst := start_st hMn hu hu1 hat
    clear hk hs hat hMn h6 h7 h8 HX hbx hbu hne
    have hGs := hst.lt
    have hGl := hst.lo
    obtain ⟨B1, hB1⟩ : ∃ B1, u.heap.size = B1 := ⟨_, rfl⟩
    obtain ⟨G, hG⟩ : ∃ G, u2.heap.size = G := ⟨_, rfl⟩
    rw [hB1, hG] at hst
    rw [hB1] at hlv
    simp only [hG, hB1] at hGl ⊢
    clear hB1 hG hu hu1 hGs
    have HEE := Lib.hid hE
    have HLL := Lib.hid hL
    clear hE hL HE
    go_loopw [10, 26] (fun v10 v26 wr => ∃ k pv : Nat, k ≤ n ∧ v26 = .int .i64 k ∧ v10 = .int .i64 (pv : Int) ∧ Hid ((stN b cs k).2 = pv) ∧ Hid (Lv w B1 g6 g7 n V8 L k (lvI b cs k) (clN b cs k) wr) ∧ Hid (St B1 wr G (stN b cs k).1)) (fun _ v26 _ => n - (intOf v26).toNat)
    case atStart => exact ⟨0, b, by omega, rfl, rfl, Lib.hid rfl, Lib.hid hlv, Lib.hid hst⟩
    case round =>
      clear hlv hst
      obtain ⟨k, pv, hkn, rfl, rfl, HPV, HLV, HST⟩ := hrel
      by_cases hlt : k < n
      · have hk1 : k < cs.length := by have := HN.out; omega
        obtain ⟨b0, o0, rfl, hb0, hcc⟩ := (HH.out _ HLV.out.below).at_int hk1
        have hgd := getD_get cs k hk1
        have hinv := inv_stN b cs (by omega) k (by omega)
        have hsuc := stN_succ b cs k hk1
        have hls := lvI_succ b cs k hk1
        have hcs := clN_succ b cs k hk1
        have hat : atN b cs k = stepX b (stN b cs k).1 pv cs[k] (raC (fstI 0 (cs.drop (k + 1)))) := by unfold atN; rw [hgd, HPV.out]
        have HLB := Lib.hid (fun E => leftB_is cs k E hk1)
        have HEN := Lib.hid (endI_nat cs k hk1)
        rw [hgd] at HLB HEN
        generalize raC (fstI 0 (cs.drop (k + 1))) = r at *
        generalize (stN b cs k).1 = s at *
        generalize cs[k] = X at *
        have HI := Lib.hid hinv
        have hsl : 0 < s.l.length ∧ s.l.length ≤ 1000 := ⟨hinv.len.1, by have := hinv.len.2; omega⟩
        have hslv : (lastE s.l).lv ≤ 125 := hinv.last.2.1
        have hse : s.embs ≤ 1000 := by have := hinv.bnd; omega
        have hsi : s.isos ≤ 1000 ∧ s.vals ≤ 1000 := by have := hinv.bnd; omega
        have HREM := Lib.hid (fun W => removed_ok X W)
        obtain ⟨⟨x6, c6⟩, ⟨x7, c7⟩, f6, f7⟩ := HLV.out.cells hlt
        have hne := HLV.out.ne67
        cases hr : remC X with
        | true =>
          rw [hr] at HREM
          have HEM := Lib.hid (embedc_ok B1 G s X hr wr HST.out hsl hslv hse)
          have hatv : atN b cs k = ((if X = 19 then popX s else if X = 10 then s else embedX s X), pv, 10) := by rw [hat]; unfold stepX; rw [if_pos hr]
          generalize (if X = 19 then popX s else if X = 10 then s else embedX s X) = s2 at *
          rw [hatv] at hsuc hls hcs
          have HSUC := Lib.hid hsuc
          have HLS := Lib.hid hls
          have HCS := Lib.hid hcs
          clear hsuc hls hcs hat hatv hinv hsl hslv hse hsi hgd hr c6 c7 f6 f7 hk1 hb0
          go_wp2_with (first
            | (go_at_call 14; refine (HREM.out _).mono ?_; rintro e u ⟨rfl, rfl⟩)
            | (go_at_call 20; refine HEM.out.mono ?_; rintro e u ⟨rfl, hbu, hst⟩; have hlv := HLV.out.carry hbu; obtain ⟨⟨x6, c6⟩, ⟨x7, c7⟩, f6, f7⟩ := hlv.cells hlt))
          go_roundw
          case rel =>
            refine ⟨k + 1, pv, by omega, by go_num, rfl, Lib.hid (by rw [HSUC.out]), Lib.hid ?_, Lib.hid ?_⟩
            · rw [HLS.out, HCS.out]; exact hlv.push hlt _ _
            · rw [HSUC.out]; exact (hst.far _ _ hlv.lt6).far _ _ hlv.lt7
          case measure => simp [intOf] <;> omega
        | false =>
          rw [hr] at HREM
          have hat2 : atN b cs k = if X = 20 ∨ X = 21 then (isoX s (X == 21), (lastE s.l).lv, ownX s X) else if X = 22 then (isoX s r, (lastE s.l).lv, ownX s X)
            else if X = 23 then (endX s, (lastE (endX s).l).lv, ownX (endX s) X) else if X = 11 then (begX b, b, X) else (s, (lastE s.l).lv, ownX s X) := by rw [hat]; unfold stepX; rw [if_neg (by rw [hr]; decide)]
          clear hat hgd c6 c7 f6 f7 hb0
          by_cases h11 : X = 11
          · subst h11
            have hatv : atN b cs k = (begX b, b, 11) := by rw [hat2]; rfl
            rw [hatv] at hsuc hls hcs
            have HSUC := Lib.hid hsuc
            have HLS := Lib.hid hls
            have HCS := Lib.hid hcs
            clear hsuc hls hcs hat2 hatv hinv hsl hslv hse hsi hr hk1
            have HAN := Lib.hid (fun u v => HST.out.anew (u := u) (v := v) (b := b) HLV.out.up)
            have HSH := Lib.hid (fun W hW => show_ok B1 G (begX b) 11 W hW ⟨by simp [begX], by simp [begX]⟩)
            have HINI := Lib.hid (fun W => initiates_ok 11 W)
            go_wp2_with (first
              | (go_at_call 14; refine (HREM.out _).mono ?_; rintro e u ⟨rfl, rfl⟩)
              | (go_at_call 19; refine (initial_ok b wr).mono ?_; rintro e u ⟨v, rfl, hu, hMn⟩; obtain ⟨⟨old, o1, o2⟩, ⟨A9, c9, rfl⟩, hst, hbu⟩ := HAN.out u v hu hMn)
              | (refine wpList_plain rfl fun K hK => wp_store_row 39 _ _ rfl G _ rfl rfl 39 old o1 (by exact Try.info39) o2 (by simp [Value.oneCell']) (hK _ _ ?_))
              | (go_at_call 22; refine (HSH.out _ hst).mono ?_; rintro e u4 ⟨rfl, hu4⟩; have hlv := (HLV.out.carry hbu).carry (hu4.1.mono (HLV.out.carry hbu).up); obtain ⟨⟨x6, c6⟩, ⟨x7, c7⟩, f6, f7⟩ := hlv.cells hlt)
              | (go_at_call 23; refine (HINI.out _).mono ?_; rintro e u5 ⟨rfl, rfl⟩))
            go_roundw
            case rel =>
              refine ⟨k + 1, b, by omega, by go_num, rfl, Lib.hid (by rw [HSUC.out]), Lib.hid ?_, Lib.hid ?_⟩
              · rw [HLS.out, HCS.out]; exact hlv.push hlt _ _
              · rw [HSUC.out]; exact ((hst.up hu4).far _ _ hlv.lt6).far _ _ hlv.lt7
            case measure => simp [intOf] <;> omega
          have e11 : (X == 11) = false := by simpa using h11
          by_cases h23 : X = 23
          · subst h23
            have hatv : atN b cs k = (endX s, (lastE (endX s).l).lv, ownX (endX s) 23) := by rw [hat2]; rfl
            rw [hatv] at hsuc hls hcs
            have HSUC := Lib.hid hsuc
            have HLS := Lib.hid hls
            have HCS := Lib.hid hcs
            have hi2 := inv_end hinv
            have HEI := Lib.hid (endIso_ok B1 G s wr HST.out hsl hsi hinv.vals)
            have hs2l : 0 < (endX s).l.length ∧ (endX s).l.length ≤ 1000 := ⟨hi2.len.1, by have := hi2.len.2; omega⟩
            generalize endX s = s2 at *
            have HSH := Lib.hid (fun W hW => show_ok B1 G s2 23 W hW hs2l)
            have HINI := Lib.hid (fun W => initiates_ok 23 W)
            obtain ⟨pv2, hpv2⟩ : ∃ pv2, (lastE s2.l).lv = pv2 := ⟨_, rfl⟩
            rw [hpv2] at HSUC HLS HCS HSH
            clear hsuc hls hcs hat2 hatv hinv hsl hslv hse hsi hr hk1 hi2 hs2l hpv2
            go_wp2_with (first
              | (go_at_call 14; refine (HREM.out _).mono ?_; rintro e u ⟨rfl, rfl⟩)
              | (go_at_call 21; refine HEI.out.mono ?_; rintro e u ⟨rfl, hbu, hst⟩)
              | (go_at_call 22; refine (HSH.out _ hst).mono ?_; rintro e u4 ⟨rfl, hu4⟩; have hlv := (HLV.out.carry hbu).carry (hu4.1.mono (HLV.out.carry hbu).up); obtain ⟨⟨x6, c6⟩, ⟨x7, c7⟩, f6, f7⟩ := hlv.cells hlt)
              | (go_at_call 23; refine (HINI.out _).mono ?_; rintro e u5 ⟨rfl, rfl⟩))
            go_roundw
            case rel =>
              refine ⟨k + 1, pv2, by omega, by go_num, rfl, Lib.hid (by rw [HSUC.out]), Lib.hid ?_, Lib.hid ?_⟩
              · rw [HLS.out, HCS.out]; exact hlv.push hlt _ _
              · rw [HSUC.out]; exact ((hst.up hu4).far _ _ hlv.lt6).far _ _ hlv.lt7
            case measure => simp [intOf] <;> omega
          have e23 : (X == 23) = false := by simpa using h23
          have HSH := Lib.hid (fun W hW => show_ok B1 G s X W hW hsl)
          have HINI := Lib.hid (fun W => initiates_ok X W)
          obtain ⟨pv2, hpv2⟩ : ∃ pv2, (lastE s.l).lv = pv2 := ⟨_, rfl⟩
          rw [hpv2] at HSH hat2
          cases hop : opnC X with
          | true =>
            rw [hop] at HINI
            obtain ⟨E, hE1, hE2, hE3⟩ := HEN.out hop
            have hlb := HLB.out E hop hE1 hE2 hE3
            have hatv : atN b cs k = (isoX s (leftB (segL cs k E)), pv2, ownX s X) := by
              rw [hat2, hlb]
              by_cases h22 : X = 22
              · subst h22; rfl
              · have : X = 20 ∨ X = 21 := by
                  unfold opnC at hop
                  simp only [Bool.or_eq_true, beq_iff_eq] at hop
                  rcases hop with h | h
                  · exact h
                  · exact absurd h h22
                rw [if_pos this, if_neg h22]
            have hEn : E ≤ n := by rw [HN.out]; exact hE3
            have hkE : k ≤ E := by omega
            have HIS : Hid (∀ W, Below w.heap.size w W → St B1 W G s → Calls Try.prog 24 #[.pointer (some ⟨G, 0, none⟩), .slice (some ⟨b0, o0 + k, none⟩) (E - k) (c - k)] W fun x w' => x = .returned (.tuple #[]) ∧ Below B1 W w' ∧ St B1 w' G (isoX s (leftB (segL cs k E)))) := Lib.hid fun W hW hSW => by
              refine isolate_ok B1 G s _ _ _ (segL cs k E) W hSW hsl hslv hsi ?_ (by omega) (by omega) ?_
              · unfold segL; rw [List.length_take, List.length_drop]; omega
              · have h1 := ((HH.out W hW).drop k).front (E - k)
                rw [← List.map_drop, ← List.map_take] at h1
                exact h1
            generalize isoX s (leftB (segL cs k E)) = s2 at *
            rw [hatv] at hsuc hls hcs
            have HSUC := Lib.hid hsuc
            have HLS := Lib.hid hls
            have HCS := Lib.hid hcs
            obtain ⟨g8, c8, rfl, hc8, hg8, hg8b⟩ := HLV.out.ends.formB (by rw [HLL.out]; omega)
            have H8 : Hid (∀ W lv cl q, Lv w B1 g6 g7 n (.slice (some ⟨g8, 0, none⟩) L.length c8) L q lv cl W → W.cell? ⟨g8, k, none⟩ = some (.int .i64 (E : Int)) ∧ g8 ≠ g6 ∧ g8 ≠ g7) := Lib.hid fun W lv cl q hW => by
              have h1 := hW.ends.cellAt k (by rw [HLL.out]; exact hlt)
              rw [← getD_get, HEE.out k hlt, hE1] at h1
              exact ⟨h1, fun e => hW.ne86 (by rw [← e]; rfl), fun e => hW.ne87 (by rw [← e]; rfl)⟩
            have hkL : k < L.length := by rw [HLL.out]; exact hlt
            have q1 : (0 : Int) ≤ (k : Int) := by omega
            have q2 : (k : Int) ≤ (E : Int) := by omega
            have q3 : (E : Int) ≤ (c : Int) := by omega
            clear hsuc hls hcs hat2 hatv hinv hsl hslv hse hsi hr hk1 hpv2 hE1 hlb hop h11 h23 HLB HEN HI
            go_wp2_with (first
              | (go_at_call 14; refine (HREM.out _).mono ?_; rintro e u ⟨rfl, rfl⟩)
              | (go_at_call 22; refine (HSH.out _ HST.out).mono ?_; rintro e u4 ⟨rfl, hu4⟩; have hlv := HLV.out.carry (hu4.1.mono HLV.out.up); obtain ⟨⟨x6, c6⟩, ⟨x7, c7⟩, f6, f7⟩ := hlv.cells hlt; obtain ⟨c8', n86, n87⟩ := H8.out _ _ _ _ hlv)
              | (go_at_call 23; refine (HINI.out _).mono ?_; rintro e u5 ⟨rfl, rfl⟩)
              | (go_at_call 24; refine (HIS.out _ (hlv.push hlt (pv2 : Int) (ownX s X)).below (((HST.out.up hu4).far _ _ hlv.lt6).far _ _ hlv.lt7)).mono ?_; rintro e u7 ⟨rfl, hb7, hs7⟩; have hlv2 := (hlv.push hlt (pv2 : Int) (ownX s X)).carry hb7))
            go_roundw
            case rel =>
              refine ⟨k + 1, pv2, by omega, by go_num, rfl, Lib.hid (by rw [HSUC.out]), Lib.hid ?_, Lib.hid ?_⟩
              · rw [HLS.out, HCS.out]; exact hlv2
              · rw [HSUC.out]; exact hs7
            case measure => simp [intOf] <;> omega
          | false =>
            rw [hop] at HINI
            have hatv : atN b cs k = (s, pv2, ownX s X) := by
              unfold opnC at hop
              simp only [Bool.or_eq_false_iff, beq_eq_false_iff_ne] at hop
              rw [hat2, if_neg (by rintro (h | h); exact hop.1.1 h; exact hop.1.2 h), if_neg hop.2, if_neg h23, if_neg h11]
            rw [hatv] at hsuc hls hcs
            have HSUC := Lib.hid hsuc
            have HLS := Lib.hid hls
            have HCS := Lib.hid hcs
            clear hsuc hls hcs hat2 hatv hinv hsl hslv hse hsi hr hk1 hpv2 hop h11 h23
            go_wp2_with (first
              | (go_at_call 14; refine (HREM.out _).mono ?_; rintro e u ⟨rfl, rfl⟩)
              | (go_at_call 22; refine (HSH.out _ HST.out).mono ?_; rintro e u4 ⟨rfl, hu4⟩; have hlv := HLV.out.carry (hu4.1.mono HLV.out.up); obtain ⟨⟨x6, c6⟩, ⟨x7, c7⟩, f6, f7⟩ := hlv.cells hlt)
              | (go_at_call 23; refine (HINI.out _).mono ?_; rintro e u5 ⟨rfl, rfl⟩))
            go_roundw
            case rel =>
              refine ⟨k + 1, pv2, by omega, by go_num, rfl, Lib.hid (by rw [HSUC.out]), Lib.hid ?_, Lib.hid ?_⟩
              · rw [HLS.out, HCS.out]; exact hlv.push hlt _ _
              · rw [HSUC.out]; exact ((HST.out.up hu4).far _ _ hlv.lt6).far _ _ hlv.lt7
            case measure => simp [intOf] <;> omega
      · obtain rfl : k = n := by omega
        have h1 := HLV.out.lev
        have h2 := HLV.out.shn
        have h3 := HLV.out.below
        rw [Nat.sub_self, List.replicate_zero, List.append_nil] at h1 h2
        clear HLV HST HPV
        go_wp2
        exact bodyPost_ret (results_tmp2 rfl _ _ _) rfl ⟨.slice (some ⟨g6, 0, none⟩) k k, .slice (some ⟨g7, 0, none⟩) k k, rfl, h1, h2, h3⟩
end Go.Proofs.Ythikjknikdacbaa
