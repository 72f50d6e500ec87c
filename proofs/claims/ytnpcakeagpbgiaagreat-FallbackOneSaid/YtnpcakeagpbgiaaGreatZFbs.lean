/-
  The program's isFont and pick of layer 23. Condition: at most 1000000 fonts, mappings, code points.
-/
import Derived.Test.YtnpcakeagpbgiaaGreatZFbq
import Derived.Deep.RegionHeld3
import Derived.Shelf.SlSortCmp.QuietGrown
set_option linter.unusedVariables false
set_option linter.unusedSimpArgs false
namespace Go.Proofs.YtnpcakeagpbgiaaGreat
open Go.ChangeShapes Go.WideShapes Go.ChangeAt Go.RowKit Go.Sort

/-- 'm[x]' in a region that draws -/
theorem step_lookup_bool {P : Program} {ops : Array Oper} {o : Oper} {a : Act} {w : World} {K : Act → World → Prop} {Q : Exit → Act → World → Prop} {E : Prop} (hw : Region.wanted o (yielded ops a.tmps) = true) (m x : Operand) (t : TypeId) (hop : o.op = Op.lookup t m x false)
    (k e : TypeId) (q : IntKind) (hk : P.underlying k = some (.int q)) (ht : P.underlying t = some (.map k e)) (hz : (zeroValue e).run P w = .ok (.bool false) w) (b n : Nat) (f : Int → Bool)
    (hm : a.eval m = .map (some b)) (hown : MapB P k q w b n f) (i : Int) (hx : a.eval x = .int q i) (hi : (Lit.int q i).wf = true) (z : Bool) (hf : f i = z)
    (hK : K (a.put o.dst (.bool z)) w) : if Region.wanted o (yielded ops a.tmps) = true then Oper.wp P o a w K Q else E := by
  rw [if_pos hw]
  have hrun := hown.look hk ht hz hi
  rw [hf] at hrun
  unfold Oper.wp
  simp [execOp, hop, hm, hx, hrun, Result.andThen]
  exact hK
theorem isfont_ok (A : Option Addr) (c n : Nat) (i : Int) (w : World) (hn : n ≤ 1000000) : Calls Tryz.prog 32 #[.slice A n c, .int .i64 i] w fun e w' => e = .returned (.bool (isB n i)) ∧ w = w' := by
  by_cases h0 : 0 ≤ i
  · by_cases h1 : i < (n : Int)
    · have e1 : isB n i = true := by simp [isB, h0, h1]
      rw [e1]
      have d0 : decide (0 ≤ i) = true := decide_eq_true h0
      have d1 : decide (i < (n : Int)) = true := decide_eq_true h1
      clear e1
      go_enter Tryz.func32, Tryz.ntmps32
      go_wp2
      go_ret
      exact ⟨rfl, rfl⟩
    · have e1 : isB n i = false := by simp [isB, h0, h1]
      rw [e1]
      clear e1
      go_enter Tryz.func32, Tryz.ntmps32
      go_wp2
      go_ret
      exact ⟨rfl, rfl⟩
  · have e1 : isB n i = false := by simp [isB, h0]
    rw [e1]
    clear e1
    go_enter Tryz.func32, Tryz.ntmps32
    go_wp2
    go_ret
    exact ⟨rfl, rfl⟩
set_option maxRecDepth 20000 in
set_option maxHeartbeats 8000000 in
theorem pick_ok (T : Option Addr) (g n d m : Nat) (G : List (List mapS.Dat)) (t tt : List Int) (prefer ahead : Int) (w : World) (hn : n ≤ 1000000) (hml : m = t.length) (hm : m ≤ 1000000) (hwf : ∀ z ∈ t, (Lit.int .i32 z).wf = true) (hin : ∀ z ∈ t, z ∈ tt)
    (hS : Stk w g n G tt) (ht : Has w w.heap.size T (t.map (Value.int .i32))) :
    Calls Tryz.prog 18 #[.slice (some ⟨g, 0, none⟩) n n, .int .i64 prefer, .slice T m d, .int .i64 ahead] w fun e w' => e = .returned (.int .i64 (pickF G prefer t ahead)) ∧ Below w.heap.size w w' := by
  have mixed : Tryz.prog.follows .mixedOrders = true := by kernel_rfl
  have HLen := Lib.hid (show G.length = n from hS.len.symm)
  have HT := Lib.hid ht
  have HS := Lib.hid (fun (W : World) (hb : Below w.heap.size w W) => hS.carry hb)
  have HND := Lib.hid (needing_ok T d m t w hml hm ht)
  have HL := Lib.hid (show (needL t).length ≤ 1000000 by have := needL_le t t.length; rw [List.take_length] at this; omega)
  have HA : Hid (∀ (i : Nat) (W : World) (A1 : Option Addr) (c1 : Nat), i < n → Below w.heap.size w W → Has W W.heap.size A1 ((needL t).map (Value.int .i32)) → Calls Tryz.prog 25 #[.slice (some ⟨g, 0, none⟩) n n, .int .i64 (i : Int), .slice A1 (needL t).length c1] W fun e w' => e = .returned (.bool (hasB (G.getD i []) t)) ∧ Up W w') := Lib.hid (fun i W A1 c1 hi hb hh => by
    have hiG : i < G.length := by rw [← hS.len]; exact hi
    have h9 := hasall_ok g n G tt i A1 (needL t).length c1 (needL t) W (hS.carry hb) hiG rfl HL.out (fun r hr => ⟨hin r (needL_in hr), hwf r (needL_in hr)⟩) hh
    rw [List.getD_eq_getElem?_getD, List.getElem?_eq_getElem hiG, Option.getD_some, ← hasB_need]
    exact h9)
  have HI := Lib.hid (fun i W => isfont_ok (some ⟨g, 0, none⟩) n n i W hn)
  have HM := Lib.hid hml
  have HWF := Lib.hid hwf
  have HIN := Lib.hid hin
  clear hS ht hml hwf hin
  obtain ⟨V, hV⟩ : ∃ V, pickF G prefer t ahead = V := ⟨_, rfl⟩
  rw [hV]
  have HV := Lib.hid hV
  clear hV
  cases hp : hasAt G prefer t with
  | true =>
    have hp2 := hp
    simp only [hasAt, Bool.and_eq_true, HLen.out] at hp2
    obtain ⟨hpi, hph⟩ := hp2
    have HE : Hid (V = prefer) := Lib.hid (by rw [← HV.out]; exact pick_pre hp)
    obtain ⟨p, rfl, hpn⟩ := isB_nat hpi
    have HIp := Lib.hid (fun W => hpi ▸ HI.out (p : Int) W)
    have HH := Lib.hid (fun W A1 c1 h1 h2 => HA.out p W A1 c1 hpn h1 h2)
    rw [Int.toNat_natCast] at hph
    rw [hph] at HH
    clear hp hpi hph
    go_enter Tryz.func18, Tryz.ntmps18
    go_wp2_with (first
      | (go_at_call 26; (with_reducible refine HND.out.mono ?_); rintro e u ⟨v2, rfl, hM2, hb2⟩; (obtain ⟨A1, c1, rfl, _, _, hh⟩ := hM2.size); (have HC := Lib.hid (HH.out u A1 c1 hb2 hh)); (have HB2 := Lib.hid hb2); clear hM2 hb2 hh)
      | (go_at_call 32; (with_reducible refine (HIp.out _).mono ?_); rintro e w' ⟨rfl, rfl⟩)
      | (go_at_call 25; (with_reducible refine HC.out.mono ?_); rintro e w' ⟨rfl, hu⟩))
    go_ret
    exact ⟨by rw [HE.out]; rfl, HB2.out.trans (hu.1.mono HB2.out.size)⟩
  | false =>
    have HNO := Lib.hid hp
    have HP : Hid (isB n prefer = false ∨ ∃ p : Nat, prefer = (p : Int) ∧ p < n ∧ hasB (G.getD p []) t = false) := Lib.hid (by
      cases hq : isB n prefer with
      | false => exact .inl rfl
      | true =>
        obtain ⟨p, rfl, hpn⟩ := isB_nat hq
        refine .inr ⟨p, rfl, hpn, ?_⟩
        rw [hasAt, HLen.out, hq, Int.toNat_natCast] at hp
        simpa using hp)
    clear hp
    rcases HP.out with hq | ⟨p, hpe, hpn, hph⟩
    case' inl =>
      have HIp := Lib.hid (fun W => hq ▸ HI.out prefer W)
      clear hq HP
      go_enter Tryz.func18, Tryz.ntmps18
      go_wp2_with (first
        | (go_at_call 26; (with_reducible refine HND.out.mono ?_); rintro e u ⟨v2, rfl, hM2, hb2⟩; (obtain ⟨A1, c1, rfl, _, _, hh⟩ := hM2.size); (have HB2 := Lib.hid hb2); (have HH2 := Lib.hid hh); (have hu := Up.refl u); clear hM2 hb2 hh)
        | (go_at_call 32; (with_reducible refine (HIp.out _).mono ?_); rintro e w' ⟨rfl, rfl⟩))
    case' inr =>
      have hpi : isB n prefer = true := by simp [isB, hpn, hpe]
      have HIp := Lib.hid (fun W => hpi ▸ HI.out prefer W)
      have HH := Lib.hid (fun W A1 c1 h1 h2 => HA.out p W A1 c1 hpn h1 h2)
      rw [hph, ← hpe] at HH
      clear hpi hph HP hpn hpe
      go_enter Tryz.func18, Tryz.ntmps18
      go_wp2_with (first
        | (go_at_call 26; (with_reducible refine HND.out.mono ?_); rintro e u ⟨v2, rfl, hM2, hb2⟩; (obtain ⟨A1, c1, rfl, _, _, hh⟩ := hM2.size); (have HC := Lib.hid (HH.out u A1 c1 hb2 hh)); (have HB2 := Lib.hid hb2); (have HH2 := Lib.hid hh); clear hM2 hb2 hh)
        | (go_at_call 32; (with_reducible refine (HIp.out _).mono ?_); rintro e w' ⟨rfl, rfl⟩)
        | (go_at_call 25; (with_reducible refine HC.out.mono ?_); rintro e w' ⟨rfl, hu⟩))
      clear HC HH
    all_goals
      go_loopw [25] (fun i wr => ∃ k : Nat, k ≤ n ∧ i = .int .i64 k ∧ Hid (∀ j, j < k → hasB (G.getD j []) t = false) ∧ Up u wr) (fun i _ => n - (intOf i).toNat)
      case atStart => exact ⟨0, by omega, rfl, Lib.hid (fun j hj => absurd hj (by omega)), hu⟩
      case round =>
        clear hu HIp
        obtain ⟨k, hk, rfl, HN, hur⟩ := hrel
        by_cases hlt : k < n
        · have HH := Lib.hid (HA.out k wr A1 c1 hlt (HB2.out.trans (hur.1.mono HB2.out.size)) (HH2.out.carry hur.1))
          cases hq : hasB (G.getD k []) t with
          | true =>
            have HE : Hid (V = (k : Int)) := Lib.hid (by rw [← HV.out]; exact pick_first HNO.out (firstOf_at (by rw [HLen.out]; exact hlt) hq HN.out))
            rw [hq] at HH
            clear hq
            go_wp2_with (first | (go_at_call 25; (with_reducible refine HH.out.mono ?_); rintro e w' ⟨rfl, hu⟩))
            go_ret
            exact ⟨by rw [HE.out]; rfl, HB2.out.trans ((hur.trans hu).1.mono HB2.out.size)⟩
          | false =>
            have HE : Hid (∀ j, j < k + 1 → hasB (G.getD j []) t = false) := Lib.hid (fun j hj => by
              by_cases h : j = k
              · subst h; exact hq
              · exact HN.out j (by omega))
            rw [hq] at HH
            clear hq
            go_wp2_with (first | (go_at_call 25; (with_reducible refine HH.out.mono ?_); rintro e w' ⟨rfl, hu⟩))
            go_roundw
            case rel => exact ⟨k + 1, by omega, by go_num, HE, hur.trans hu⟩
            case measure => simp [intOf]; omega
        · obtain rfl : k = n := by omega
          have HL2 : Hid (V = lastI G _ t ahead) := Lib.hid (by rw [← HV.out]; exact pick_last HNO.out (firstOf_no fun j hj => HN.out j (by rw [← HLen.out]; exact hj)))
          have hwr : Below w.heap.size w wr := HB2.out.trans (hur.1.mono HB2.out.size)
          have HWR := Lib.hid hwr
          clear HV HNO hlt HA HND HH2 HL hur
          cases ha : isB k ahead with
          | false =>
            have HE : Hid (V = if isB k prefer = true then prefer else 0) := Lib.hid (by rw [HL2.out, last_pre (by rw [headAt, HLen.out, ha]; rfl), HLen.out])
            have HIA := Lib.hid (fun W => ha ▸ HI.out ahead W)
            clear HL2 ha HN
            cases hpz : isB k prefer
            all_goals
              have HIP := Lib.hid (fun W => hpz ▸ HI.out prefer W)
              rw [hpz] at HE
              clear hpz
              have HIG : Hid (∀ q' os, Calls Tryz.prog 32 #[.slice (some ⟨g, 0, none⟩) k k, .int .i64 ahead] (grow (wr.drewN q') os) fun e w' => e = .returned (.bool false) ∧ ∃ q'' os', w' = grow ((grow (wr.drewN q') os).drewN q'') os') :=
                Lib.hid (fun q' os => (HIA.out _).mono fun _ _ ⟨he, hu⟩ => ⟨he, by subst hu; exact (Up.refl _).grow⟩)
              have HWG := Lib.hid (fun q' os => hwr.trans ((Up.of_grow wr q' os).1.mono hwr.size))
              clear hwr
              go_wp2
              refine wp_region_quiet_grown mixed (by kernel_rfl) ?_
              repeat (go_big_quiet_step (first | (go_at_call 32; with_reducible exact Calls.grown_of (HIG.out _ _))))
              refine wpQuiet_nil ?_
              intro _ hw'
              obtain ⟨⟨nq, osq⟩, hw''⟩ := hw'
              subst hw''
              go_wp2_with (go_at_call 32; (with_reducible refine (HIP.out _).mono ?_); rintro e w' ⟨rfl, rfl⟩)
              go_ret
              exact ⟨by rw [HE.out]; rfl, HWG.out _ _⟩
          | true =>
            have ha' := ha
            obtain ⟨q, rfl, hq⟩ := isB_nat ha
            have ht0 : 0 < t.length := by
              cases t with
              | nil => exact absurd (HN.out 0 (by omega)) (by simp [hasB])
              | cons X us => simp
            have hqG : q < G.length := by rw [HLen.out]; exact hq
            obtain ⟨bt, offt, hT, hbt, hct⟩ := (HT.out.carry hwr).at_int ht0
            subst hT
            rw [Nat.add_zero] at hct
            obtain ⟨b, mk, f, hb, hcm, hmap, hf⟩ := (HS.out wr hwr).maps q hqG
            have hfz := hf t[0] (HIN.out _ (List.getElem_mem ht0))
            have hwX := HWF.out t[0] (List.getElem_mem ht0)
            have hd : headAt G (q : Int) t = hadB G[q] t[0] := by
              rw [headAt, HLen.out, ha', decide_eq_true ht0, Int.toNat_natCast, List.getD_eq_getElem?_getD, List.getElem?_eq_getElem hqG, List.getD_eq_getElem?_getD, List.getElem?_eq_getElem ht0]
              simp [hadB]
            have HIA := Lib.hid (fun W => ha' ▸ HI.out (q : Int) W)
            have hm0 : 0 < m := by rw [HM.out]; exact ht0
            have HE : Hid (V = if hadB G[q] t[0] = true then (q : Int) else if isB k prefer = true then prefer else 0) := Lib.hid (by
              rw [HL2.out]
              cases hv : hadB G[q] t[0] with
              | true => rw [last_ahead (by rw [hd, hv])]; rfl
              | false => rw [last_pre (by rw [hd, hv]), HLen.out]; rfl)
            generalize t[0] = X at *
            generalize hadB G[q] X = z at *
            have HMP := Lib.hid hmap
            have HFZ := Lib.hid hfz
            have hwd : Below w.heap.size w wr.drew := hwr.drew
            clear HL2 ha ha' HN hf hd hmap hfz hbt hb hwr HWR ht0 hqG HT HM HWF HIN HS
            have hlk := (HMP.out.block (w' := wr.drew) rfl).look (t := 62) (e := 4) Tryz.underlying21 Tryz.underlying62 (zeroB _) hwX
            rw [HFZ.out] at hlk
            cases z
            all_goals
              go_wp2
              go_region_held3 (fun w' => w'.cell? ⟨g, q, none⟩ = some (.map (some b)) ∧ w'.cell? ⟨bt, offt, none⟩ = some (.int .i32 X)) (first | go_keep | exact ⟨hcm, hct⟩)
                (first
                  | (go_at_call 32; (with_reducible refine (HIA.out _).mono ?_); rintro e w' ⟨rfl, rfl⟩))
            all_goals first
              | (have HE2 := Lib.hid (HE.out.trans (if_pos (by trivial)))
                 clear HE
                 go_wp2
                 go_ret
                 exact ⟨by rw [HE2.out]; rfl, hwd⟩)
              | (have HE2 := Lib.hid (HE.out.trans (if_neg (by simp)))
                 clear HE
                 cases hpz : isB k prefer
                 all_goals
                   have HIP := Lib.hid (fun W => hpz ▸ HI.out prefer W)
                   rw [hpz] at HE2
                   clear hpz
                   go_wp2_with (go_at_call 32; (with_reducible refine (HIP.out _).mono ?_); rintro e w' ⟨rfl, rfl⟩)
                   go_ret
                   exact ⟨by rw [HE2.out]; rfl, hwd⟩)
set_option maxHeartbeats 4000000 in
theorem ppick_ok (A T : Option Addr) (c n d m : Nat) (F : List fontS.Dat) (t : List Int) (prefer ahead : Int) (w : World) (hnl : n = F.length) (hn : n ≤ 1000000) (hML : ∀ x ∈ F, (mapsOf x).length ≤ 1000000) (hml : m = t.length) (hm : m ≤ 1000000) (hwf : ∀ z ∈ t, (Lit.int .i32 z).wf = true)
    (h : Lies w w.heap.size (.sl fontS) ⟨A, c, F⟩) (ht : Has w w.heap.size T (t.map (Value.int .i32))) :
    Calls Tryz.prog 15 #[.slice A n c, .int .i64 prefer, .slice T m d, .int .i64 ahead] w fun e w' => e = .returned (.int .i64 (pickF (allMaps F) prefer t ahead)) ∧ Below w.heap.size w w' := by
  have HS := Lib.hid (stockOf_ok A T c n d m F t w hnl hn hML hml hm hwf h ht)
  have HP := Lib.hid (fun (g : Nat) (W : World) (hb : Below w.heap.size w W) (hS : Stk W g n (allMaps F) t) => pick_ok T g n d m (allMaps F) t t prefer ahead W hn hml hm hwf (fun _ h => h) hS (ht.carry hb))
  generalize pickF (allMaps F) prefer t ahead = V at *
  clear h ht hML hnl hml hwf
  go_enter Tryz.func15, Tryz.ntmps15
  go_wp2_with (first
    | (go_at_call 16; (with_reducible refine HS.out.mono ?_); rintro e u ⟨g, rfl, hS1, hb1, hg1⟩; (have HC := Lib.hid (HP.out g u hb1 hS1)); (have HB1 := Lib.hid hb1); clear hS1 hb1 hg1)
    | (go_at_call 18; (with_reducible refine HC.out.mono ?_); rintro e u3 ⟨rfl, hu3⟩))
  go_ret
  exact ⟨rfl, HB1.out.trans (hu3.mono HB1.out.size)⟩
end Go.Proofs.YtnpcakeagpbgiaaGreat
