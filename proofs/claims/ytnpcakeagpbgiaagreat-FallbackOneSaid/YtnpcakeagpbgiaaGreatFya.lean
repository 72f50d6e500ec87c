/-
  Plain mathematics of the program's Of of layer 23: the spans that are picked, cluster by cluster, give the values of the document's answer. No condition.
-/
import Derived.Test.YtnpcakeagpbgiaaGreatFyb
import Derived.Test.YtnpcakeagpbgiaaGreatZSpa
import Derived.Test.YtnpcakeagpbgiaaGreatZFbs
import Derived.Test.YtnpcakeagpbgiaaGreatSzd
import Derived.Test.YtnpcakeagpbgiaaGreatGza
set_option linter.unusedVariables false
namespace Go.Proofs.YtnpcakeagpbgiaaGreat

section
variable (F : List (List mapS.Dat)) (prefer : List S5.Sp) (t : List Int) (b : List Nat)
/-- what is picked for the first i clusters -/
def pkF : Nat → List S5.Sp
  | 0 => []
  | i + 1 => pkF i ++ [⟨(b.getD i 0 : Nat), (b.getD (i + 1) 0 : Nat), ahF F prefer t b (i + 1)⟩]
theorem pkF_len : ∀ i, (pkF F prefer t b i).length = i
  | 0 => rfl
  | i + 1 => by rw [pkF, List.length_append, pkF_len i]; rfl
theorem lastVal_snoc (l : List S5.Sp) (p : S5.Sp) (x : Int) : S5.lastVal (l ++ [p]) x = if p.f ≤ x ∧ x < p.t then p.v else S5.lastVal l x := by
  unfold S5.lastVal
  rw [List.foldl_append]
  rfl
theorem pkF_vals (hb : RiseB b) : ∀ i, i < b.length → S5.vals (pkF F prefer t b i) (b.getD i 0 : Nat) = pvF F prefer t b i
  | 0, _ => by rw [hb.1]; rfl
  | i + 1, h => by
    have ih := pkF_vals hb i (by omega)
    have hXY := hb.2 i h
    rw [pkF, pvF, ← ih]
    generalize ahF F prefer t b (i + 1) = v
    generalize b.getD i 0 = X at *
    generalize b.getD (i + 1) 0 = Y at *
    obtain ⟨d, rfl⟩ : ∃ d, Y = X + d := ⟨Y - X, by omega⟩
    unfold S5.vals
    rw [Int.toNat_natCast, Int.toNat_natCast, List.range_add, List.map_append, List.map_map]
    congr 1
    · apply List.map_congr_left
      intro j hj
      have hj := List.mem_range.1 hj
      rw [lastVal_snoc, if_neg (by show ¬ ((X : Int) ≤ (j : Int) ∧ _); omega)]
    · rw [show X + d - X = d by omega]
      apply List.ext_getElem
      · simp
      · intro j h1 h2
        have hj : j < d := by simpa using h2
        simp only [List.getElem_map, List.getElem_range, List.getElem_replicate, Function.comp_apply]
        rw [lastVal_snoc, if_pos (by show ((X : Int) ≤ ((X + j : Nat) : Int) ∧ ((X + j : Nat) : Int) < ((X + d : Nat) : Int)); omega)]
end
theorem pk_end (F : List (List mapS.Dat)) (prefer : List S5.Sp) (t : List Int) : S5.of (S5.vals (pkF F prefer t (bnds (cls t)) ((bnds (cls t)).length - 1)) (t.length : Nat)) = ofF F prefer t := by
  unfold ofF valsF
  congr 1
  rcases Nat.eq_zero_or_pos (bnds (cls t)).length with h | h
  · have h0 := vals_len_eq F prefer t
    unfold valsF at h0
    rw [h] at h0 ⊢
    have h1 : t.length = 0 := by simpa [pvF] using h0.symm
    rw [h1]
    rfl
  · have h0 := vals_len_eq F prefer t
    unfold valsF at h0
    rw [pvF_len (bnds_rise _) _ (by omega)] at h0
    rw [← h0, pkF_vals F prefer t _ (bnds_rise _) _ (by omega)]
end Go.Proofs.YtnpcakeagpbgiaaGreat

/-
  The program's Of of layer 23: what a text is shown in. Condition: at most 1000000 fonts, mappings, 1000 code points and spans.
-/
set_option linter.unusedVariables false
set_option linter.unusedSimpArgs false
namespace Go.Proofs.YtnpcakeagpbgiaaGreat
open Go.ChangeShapes Go.WideShapes Go.ChangeAt Go.RowKit Go.Sort

theorem S5.MineS.below {w w' : World} {B : Nat} {v : Value} {l : List S5.Sp} (h : S5.MineS w B v l) (hb : Below w.heap.size w w') : S5.MineS w' B v l := by
  unfold S5.MineS at *
  refine ⟨h.1, ?_⟩
  rcases h.2 with ⟨a, b⟩ | ⟨g, cap, cur, a, b, hg, r⟩
  · exact .inl ⟨a, b⟩
  · have hlt : g < w.heap.size := by
      rcases Nat.lt_or_ge g w.heap.size with h' | h'
      · exact h'
      · rw [Array.getElem?_eq_none h'] at hg; cases hg
    exact .inr ⟨g, cap, cur, a, b, by rw [hb.block g hlt]; exact hg, r⟩
theorem cuts_at (L : List Int) (k : Nat) (h : k + 1 < (bnds L).length) : (cutsL L)[k]? = some ((bnds L).getD k 0, (bnds L).getD (k + 1) 0) := by
  have hl : k < (cutsL L).length := by rw [count_len]; omega
  rw [List.getElem?_eq_getElem hl]
  obtain ⟨x, y, e, h1, h2, _⟩ := cuts_get L k hl
  rw [e, List.getD_eq_getElem?_getD, List.getD_eq_getElem?_getD, h1, h2]
  rfl

set_option maxRecDepth 20000 in
set_option maxHeartbeats 8000000 in
theorem pof_ok (A T P : Option Addr) (c n d m dp np : Nat) (F : List fontS.Dat) (t : List Int) (sp : List S5.Sp) (w : World) (hnl : n = F.length) (hn : n ≤ 1000000) (hML : ∀ x ∈ F, (mapsOf x).length ≤ 1000000) (hml : m = t.length) (hm : m ≤ 1000) (hmd : m ≤ d) (hwf : ∀ z ∈ t, (Lit.int .i32 z).wf = true) (hpl : np = sp.length) (hnp : np ≤ 1000)
    (h : Lies w w.heap.size (.sl fontS) ⟨A, c, F⟩) (ht : Has w w.heap.size T (t.map (Value.int .i32))) (hs : S5.HasS w w.heap.size P sp) :
    Calls Tryz.prog 8 #[.slice A n c, .slice T m d, .slice P np dp] w fun e w' => S5.SpansOf w w' e (ofF (allMaps F) sp t) := by
  have mixed : Tryz.prog.follows .mixedOrders = true := by kernel_rfl
  have HS := Lib.hid (stockOf_ok A T c n d m F t w hnl hn hML hml (by omega) hwf h ht)
  have HT := Lib.hid (fun (W : World) (hb : Below w.heap.size w W) => ht.carry hb)
  have HA := Lib.hid (fun W (hb : Below w.heap.size w W) i => S5.at_ok P dp np sp i W hpl (by omega) (hs.carry hb))
  have HK := Lib.hid (fun W (hb : Below w.heap.size w W) => (show Calls Tryz.prog 17 #[.slice T m d] W _ from hml ▸ cuts_ok T d t W (by omega) (by omega) (ht.carry hb)))
  have HPK := Lib.hid (fun (g : Nat) (T' : Option Addr) (d' q : Nat) (us : List Int) (pv a : Int) (W : World) (hq : q = us.length) (hq2 : q ≤ 1000000) (hin : ∀ z ∈ us, z ∈ t) (hS : Stk W g n (allMaps F) t) (hh : Has W W.heap.size T' (us.map (Value.int .i32))) => pick_ok T' g n d' q (allMaps F) us t pv a W hn hq hq2 (fun z hz => hwf z (hin z hz)) hin hS hh)
  have HM := Lib.hid hml
  generalize hG : allMaps F = G at *
  have HCL : Hid ((cls t).length = m) := Lib.hid (by rw [cls_len]; exact hml.symm)
  have HV : Hid (ofF G sp t = S5.of (S5.vals (pkF G sp t (bnds (cls t)) ((bnds (cls t)).length - 1)) (m : Nat))) := Lib.hid (by rw [hml, pk_end])
  have HR := Lib.hid (bnds_rise (cls t))
  have HBL := Lib.hid (fun i h => bnd_le (cls t) i h)
  have HCG := Lib.hid (fun k h => cuts_at (cls t) k h)
  have HCN := Lib.hid (count_len (cls t))
  generalize ofF G sp t = V at *
  generalize cutsL (cls t) = CL at *
  generalize bnds (cls t) = bl at *
  clear hml h ht hs hpl hnl hML hG hwf
  go_enter Tryz.func8, Tryz.ntmps8
  go_wp2_with (first
    | (go_at_call 16; (with_reducible refine HS.out.mono ?_); rintro e w1 ⟨g, rfl, hS1, hb1, hg1⟩; (have HKC := Lib.hid (HK.out w1 hb1)))
    | (go_at_call 17; (with_reducible refine HKC.out.mono ?_); rintro e w2 ⟨v2, rfl, A2, c2, rfl, ⟨hc2, _⟩, hC2, hb2⟩))
  obtain ⟨cn, hcn⟩ : ∃ cn, CL.length = cn := ⟨_, rfl⟩
  rw [hcn] at hc2 ⊢
  have HCN2 := Lib.hid (show cn = bl.length - 1 by rw [← hcn]; exact HCN.out)
  have HCLN := Lib.hid hcn
  have hb12 : Below w.heap.size w w2 := below_trans hb1 hb2 hb1.size
  have HW := Lib.hid (fun W (hb : Below w2.heap.size w2 W) => (hb12.trans (hb.mono hb12.size) : Below w.heap.size w W))
  have HST := Lib.hid (fun W (hb : Below w2.heap.size w2 W) => ((hS1.carry hb2).carry hb : Stk W g n G t))
  have HCC := Lib.hid (fun W (hb : Below w2.heap.size w2 W) => hC2.carry hb)
  have hcn1 : cn ≤ 1000 := by
    have h6 : ∀ i, i < bl.length → i ≤ bl.getD i 0 := fun i => by
      induction i with
      | zero => intro _; omega
      | succ i ih => intro hi; have := ih (by omega); have := HR.out.2 i (by omega); omega
    rcases Nat.eq_zero_or_pos bl.length with h0 | h0
    · have := HCN2.out; omega
    · have h3 := h6 (bl.length - 1) (by omega)
      have h4 := HBL.out (bl.length - 1) (by omega)
      have h5 := HCL.out
      have := HCN2.out
      omega
  clear hcn hS1 hb1 hg1 hC2 hb2 hb12 HKC HK HS HCN
  go_loopw [8, 9, 18] (fun v8 v9 v18 wr => ∃ i : Nat, i ≤ cn ∧ v18 = .int .i64 i ∧ v9 = .int .i64 (ahF G sp t bl i) ∧ Hid (S5.MineS wr w2.heap.size v8 (pkF G sp t bl i)) ∧ Below w2.heap.size w2 wr) (fun _ _ v18 _ => cn - (intOf v18).toNat)
  case atStart => exact ⟨0, by omega, rfl, rfl, Lib.hid (S5.MineS.nil_ _ _), Below.refl _ _⟩
  case round =>
    obtain ⟨i, hi, rfl, rfl, HMI, hbr⟩ := hrel
    by_cases hlt : i < cn
    · have hl1 : i + 1 < bl.length := by have := HCN2.out; omega
      have hiC : i < CL.length := by rw [HCLN.out]; exact hlt
      have he : CL[i] = (bl.getD i 0, bl.getD (i + 1) 0) := by
        have := HCG.out i hl1
        rw [List.getElem?_eq_getElem hiC] at this
        injection this
      have hXY := HR.out.2 i hl1
      have hYm := HBL.out (i + 1) hl1
      rw [HCL.out] at hYm
      obtain ⟨b, off, hA2, hb, hc0, hc1⟩ := (HCC.out wr hbr).at_ hiC
      rw [he] at hc0 hc1
      simp only at hc0 hc1
      subst hA2
      have HE : Hid (ahF G sp t bl (i + 1) = pickF G (S5.atP sp (bl.getD i 0 : Nat)) ((t.take (bl.getD (i + 1) 0)).drop (bl.getD i 0)) (ahF G sp t bl i)) := Lib.hid rfl
      have HPV : Hid (pkF G sp t bl (i + 1) = pkF G sp t bl i ++ [⟨(bl.getD i 0 : Nat), (bl.getD (i + 1) 0 : Nat), ahF G sp t bl (i + 1)⟩]) := Lib.hid rfl
      have HLEN : Hid ((pkF G sp t bl i).length = i) := Lib.hid (pkF_len G sp t bl i)
      obtain ⟨X, hX⟩ : ∃ X, bl.getD i 0 = X := ⟨_, rfl⟩
      obtain ⟨Y, hY⟩ : ∃ Y, bl.getD (i + 1) 0 = Y := ⟨_, rfl⟩
      rw [hX] at hc0 hXY HE HPV
      rw [hY] at hc1 hXY hYm HE HPV
      obtain ⟨a1, ha1⟩ : ∃ a1, ahF G sp t bl (i + 1) = a1 := ⟨_, rfl⟩
      rw [ha1] at HE HPV
      have HA1 := Lib.hid ha1
      clear ha1 he hX hY
      generalize ahF G sp t bl i = a0 at *
      have HP1 : Hid (pkF G sp t bl (i + 1) = pkF G sp t bl i ++ [⟨(X : Int), (Y : Int), a1⟩]) := HPV
      generalize pkF G sp t bl i = Q at *
      obtain ⟨bt, offt, hTe, hbt, ht0⟩ := (HT.out wr (HW.out wr hbr)).at_int (k := 0) (by rw [← HM.out]; omega)
      subst hTe
      have hsl := fun W => slice32 bt offt m d X Y hXY (by omega) W
      have HPH := Lib.hid (fun W (hb : Below w.heap.size w W) => part_has (HT.out W hb) X Y)
      have hql : Y - X = ((t.take Y).drop X).length := (part_len t X Y (by rw [← HM.out]; exact hYm)).symm
      have HIN : Hid (∀ z ∈ (t.take Y).drop X, z ∈ t) := Lib.hid (fun z hz => List.mem_of_mem_take (List.mem_of_mem_drop hz))
      generalize (t.take Y).drop X = us at *
      have HQL := Lib.hid hql
      have HAX := Lib.hid (fun W hb => HA.out W hb (X : Int))
      generalize S5.atP sp (X : Int) = pv at HE HAX
      have HPG := Lib.hid (fun W (hb : Below w2.heap.size w2 W) => HE.out ▸ HPK.out g (some ⟨bt, offt + X, none⟩) (d - X) (Y - X) us pv a0 W HQL.out (by omega) HIN.out (HST.out W hb) (HPH.out W (HW.out W hb)))
      clear ht0 hql hl1 hiC hbt
      have hbl0 := Nat.lt_of_lt_of_le hb (Nat.le_refl _)
      go_wp2
      have hat : At (wr.alloc (.cells #[.int .i64 (X : Int), .int .i64 (Y : Int)] 52)) wr.heap.size 52 #[.int .i64 (X : Int), .int .i64 (Y : Int)] := at_new wr _ _
      have hb9 : Below w2.heap.size w2 (wr.alloc (.cells #[.int .i64 (X : Int), .int .i64 (Y : Int)] 52)) := hbr.alloc hbr.size _
      have HM9 := Lib.hid (HMI.out.alloc (.cells #[.int .i64 (X : Int), .int .i64 (Y : Int)] 52))
      generalize wr.alloc (.cells #[.int .i64 (X : Int), .int .i64 (Y : Int)] 52) = W0 at *
      have gF := hat.lt
      have k0 := hat.cell 0 _ rfl
      have k1 := hat.cell 1 _ rfl
      have hc : Below W0.heap.size W0 W0.drew := (Below.refl _ _).drew
      have HC := Lib.hid (fun W (hc : Below W0.heap.size W0 W) => (hb9.trans (hc.mono hb9.size) : Below w2.heap.size w2 W))
      have HMC := Lib.hid (fun W (hc : Below W0.heap.size W0 W) => HM9.out.below hc)
      have HCE := Lib.hid (fun W (hc : Below W0.heap.size W0 W) => (⟨(hc.cell (p := ⟨wr.heap.size, 0, none⟩) gF).trans k0, (hc.cell (p := ⟨wr.heap.size, 1, none⟩) gF).trans k1⟩ :
        W.cell? ⟨wr.heap.size, 0, none⟩ = some (.int .i64 (X : Int)) ∧ W.cell? ⟨wr.heap.size, 1, none⟩ = some (.int .i64 (Y : Int))))
      clear hat gF hb9 HMI HM9 hc0 hc1 hb hbr hbl0
      go_region_held3 (fun w' => w'.cell? ⟨wr.heap.size, 0, none⟩ = some (.int .i64 (X : Int)) ∧ w'.cell? ⟨wr.heap.size, 1, none⟩ = some (.int .i64 (Y : Int)))
        (first | go_keep | exact HCE.out _ hc)
        (first
          | (go_at_call 13; (with_reducible refine (HAX.out _ (HW.out _ (HC.out _ hc))).mono ?_); rintro e u ⟨rfl, hu⟩; have hc := below_trans hc hu.1 hc.size)
          | (go_at_call 18; (with_reducible refine (HPG.out _ (HC.out _ hc)).mono ?_); rintro e u ⟨rfl, hu⟩; have hc := below_trans hc hu hc.size))
      all_goals
        have HMU := Lib.hid (HMC.out _ hc)
        have HBU := Lib.hid (HC.out _ hc)
        obtain ⟨k0, k1⟩ := HCE.out _ hc
        clear hc HC HMC HCE
        go_wp2_with (at_builtin; refine S5.wpList_pushS rfl _ _ 24 rfl (.agg #[.int .i64 0, .int .i64 0, .int .i64 0]) Tryz.underlying24 S5.full32 rfl (by omega) w2.heap.size _ Q ⟨(X : Int), (Y : Int), a1⟩ w2 _ _ rfl HMU.out rfl rfl HBU.out HBU.out.size (by have := HLEN.out; omega) ?_; intro v3 w3 hM3 hb3)
        go_roundw
        case rel => exact ⟨i + 1, by omega, by go_num, by rw [HA1.out], Lib.hid (by rw [HP1.out]; exact hM3), hb3⟩
        case measure => simp [intOf]; omega
    · have hie : i = bl.length - 1 := by have := HCN2.out; omega
      have HQ : Hid (V = S5.of (S5.vals (pkF G sp t bl i) (m : Nat))) := Lib.hid (by rw [HV.out, hie])
      have HLEN : Hid ((pkF G sp t bl i).length = i) := Lib.hid (pkF_len G sp t bl i)
      generalize pkF G sp t bl i = Q at *
      obtain ⟨A3, c3, rfl, hc3, _, h3⟩ := HMI.out.has
      have HO := Lib.hid (S5.norm_ok A3 c3 Q.length Q (m : Nat) wr rfl (by have := HLEN.out; omega) (by omega) h3)
      have HW2 := Lib.hid (HW.out wr hbr)
      generalize Q.length = ql at *
      clear h3 hie
      go_wp2_with (go_at_call 19; (refine HO.out.mono ?_); rintro e w4 h4; obtain ⟨v4, rfl, A4, c4, rfl, h5, h6, h7⟩ := h4.spans)
      go_ret
      exact ⟨_, rfl, A4, c4, by rw [HQ.out]; rfl, by rw [HQ.out]; exact h5, by rw [HQ.out]; exact h6, HW2.out.trans (h7.mono HW2.out.size)⟩
end Go.Proofs.YtnpcakeagpbgiaaGreat
