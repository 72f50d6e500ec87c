/-
  Contracts of Cuts, Bounds and Count (the program's) and of the document's Bounds, Cuts, Count. Condition: at most 1000 code points.
-/
import Derived.Test.YtnpdampaimllpaaWin
import Derived.Test.YtnpdampaimllpaaCell
import Derived.Deep.RegionHeld3
set_option linter.unusedVariables false
namespace Go.Proofs.Ytnpdampaimllpaa
open Go.ChangeShapes Go.WideShapes Go.ChangeAt Go.RowKit

theorem Try.full31 : (Try.prog.info? 31).map (fun i => (i.zero, i.size, i.bytes)) = some (some (.agg #[.int .i64 0, .int .i64 0]), 2, 16) := by kernel_rfl
theorem Try.full3 : (Try.prog.info? 3).map (fun i => (i.zero, i.size, i.bytes)) = some (some (.int .i64 0), 1, 8) := by kernel_rfl
/-- as wpList_push_far, the newest block's number written out -/
theorem wpList_push_far_n {P : Program} {ops : Array Oper} {rest : List Oper} {o : Oper} {a : Act} {Q : Exit → Act → World → Prop} {k : IntKind} {e : TypeId} {bytes : Nat} (hgd : o.guard = none) (s x : Operand) (t : TypeId)
    (ho : o.op = .call { callee := .builtin .append, args := #[s, x], argTypes := #[t, t] })
    (ht : P.underlying t = some (.slice e)) (hi : (P.info? e).map (fun i => (i.zero, i.size, i.bytes)) = some (some (.int k 0), 1, bytes)) (hby : bytes ≤ 64)
    (B : Nat) (v : Value) (xs : List Int) (y : Int) (wr : World) (H : Nat) (hH : wr.heap.size = H) (hown : Mine k e wr B v xs) (hs : a.eval s = v) (hx : a.eval x = .slice (some ⟨H, 0, none⟩) 1 1)
    (hB : B ≤ wr.heap.size) (hn : xs.length ≤ 1000000000)
    (h : ∀ v' w', Mine k e w' B v' (xs ++ [y]) → Below B wr w' → (∀ b, b < wr.heap.size → v.ownBlock ≠ some b → v'.ownBlock ≠ some b ∧ w'.heap[b]? = wr.heap[b]?) → wpList P ops Q rest (a.put o.dst v') w') : wpList P ops Q (o :: rest) a (wr.alloc (.cells #[.int k y] e)) := by
  subst hH
  exact wpList_push_far hgd s x t ho ht hi hby B v xs y wr hown hs hx hB hn h
/-- places as ints -/
def zb (l : List Nat) : List Int := l.map (fun x : Nat => (x : Int))
theorem zb_len (l : List Nat) : (zb l).length = l.length := List.length_map ..
theorem zb_snoc (l : List Nat) (x : Nat) : zb (l ++ [x]) = zb l ++ [(x : Int)] := by unfold zb; rw [List.map_append]; rfl

set_option maxHeartbeats 1000000 in
theorem rbounds_ok (A : Option Addr) (c : Nat) (zs : List Int) (w : World) (hn : zs.length ≤ 1000) (hc : zs.length ≤ c) (h : Has w w.heap.size A (zs.map (Value.int .i32))) :
    Calls Try.prog 15 #[.slice A zs.length c] w fun e w' => SliceOf .i64 w w' e (zb (bnds (cls zs))) := by
  have HL := Lib.hid (cls_len zs)
  go_enter Try.func15, Try.ntmps15
  go_wp2
  go_loopw [3, 4] (fun v i wr => ∃ k : Nat, k ≤ zs.length + 1 ∧ i = .int .i64 k ∧ Mine .i64 3 wr w.heap.size v (zb (Bs (cls zs) k)) ∧ Below w.heap.size w wr) (fun _ i _ => zs.length + 1 - (intOf i).toNat)
  case atStart => exact ⟨0, by omega, rfl, Mine.nil_ _ _ _ _, Below.refl _ _⟩
  case round =>
    obtain ⟨k, hk, rfl, hown, hbl⟩ := hrel
    by_cases hlt : k ≤ zs.length
    · have hh := h.carry hbl
      have HC := Lib.hid (fun w h => ris_ok A c k zs w hn hc h)
      rw [isV_nat _ _ (by rw [HL.out]; exact hlt)] at HC
      have hlen : (zb (Bs (cls zs) k)).length ≤ 1001 := by rw [zb_len]; have := Bs_len (cls zs) k; omega
      cases hq : bP (cls zs) k with
      | true =>
        rw [hq] at HC
        have HN := Lib.hid (show zb (Bs (cls zs) (k + 1)) = zb (Bs (cls zs) k) ++ [(k : Int)] by rw [Bs_yes _ _ hq, zb_snoc])
        generalize zb (Bs (cls zs) k) = acc at hown hlen HN
        clear hq h
        go_wp2_with (first | (go_at_call 19; refine (HC.out _ hh).mono ?_; rintro e u ⟨rfl, hu⟩; have hM := hown.below hu.1; have hb2 := below_trans hbl hu.1 hbl.size) | (at_builtin; refine wpList_push rfl _ _ 28 rfl Try.underlying28 Try.full3 (by omega) w.heap.size _ acc k w _ hM rfl rfl hb2 hb2.size (by omega) ?_; intro v2 w2 hM2 hb3))
        go_roundw
        case rel => exact ⟨k + 1, by omega, by go_num, by rw [HN.out]; exact hM2, hb3⟩
        case measure => simp [intOf] <;> omega
      | false =>
        rw [hq] at HC
        have HN := Lib.hid (show zb (Bs (cls zs) (k + 1)) = zb (Bs (cls zs) k) by rw [Bs_no _ _ hq])
        generalize zb (Bs (cls zs) k) = acc at hown hlen HN
        clear hq h
        go_wp2_with (first | (go_at_call 19; refine (HC.out _ hh).mono ?_; rintro e u ⟨rfl, hu⟩; have hM := hown.below hu.1; have hb2 := below_trans hbl hu.1 hbl.size))
        go_roundw
        case rel => exact ⟨k + 1, by omega, by go_num, by rw [HN.out]; exact hM, hb2⟩
        case measure => simp [intOf] <;> omega
    · obtain rfl : k = zs.length + 1 := by omega
      have HE := Lib.hid (show Bs (cls zs) (zs.length + 1) = bnds (cls zs) by unfold bnds; rw [HL.out])
      rw [HE.out] at hown
      go_wp2
      go_ret
      exact ⟨_, rfl, hown.sliceV hbl⟩

theorem first_at (A : Option Addr) (c f m : Nat) (zs : List Int) (w : World) (hn : zs.length ≤ 1000) (hf : f < zs.length) (hb : bP (cls zs) f = true) (hm : m = zs.length - f) (hc : m ≤ c) (h : Has w w.heap.size A ((zs.drop f).map (Value.int .i32))) :
    Calls Try.prog 27 #[.slice A m c] w fun e w' => (∃ r : Nat, e = .returned (.int .i64 r) ∧ 1 ≤ r ∧ f + r ≤ zs.length ∧ Hid (bP (cls zs) (f + r) = true) ∧ Hid (pairs (Bs (cls zs) (f + r + 1)) = pairs (Bs (cls zs) (f + 1)) ++ [(f, f + r)])) ∧ Up w w' := by
  subst hm
  rw [← List.length_drop]
  refine (first_ok A c (zs.drop f) w (by rw [List.length_drop]; omega) (by rw [List.length_drop]; omega) (by rw [List.length_drop]; exact hc) h).mono fun e w' ⟨⟨r, he, hr⟩, hu⟩ => ⟨⟨r, he, ?_⟩, hu⟩
  rw [cls_drop] at hr
  obtain ⟨h1, h2, h3, h4⟩ := first_step (cls zs) f r hb (by rw [cls_len]; exact hf) hr
  rw [cls_len] at h2
  refine ⟨h1, h2, Lib.hid h3, Lib.hid ?_⟩
  rw [Bs_jump _ f r h1 h3 h4, Bs_yes _ _ hb, pairs_snoc]

set_option maxHeartbeats 1000000 in
theorem cuts_ok (A : Option Addr) (c : Nat) (zs : List Int) (w : World) (hn : zs.length ≤ 1000) (hc : zs.length ≤ c) (h : Has w w.heap.size A (zs.map (Value.int .i32))) :
    Calls Try.prog 9 #[.slice A zs.length c] w fun e w' => CutsOf w w' e (cutsL (cls zs)) := by
  have HL := Lib.hid (cls_len zs)
  go_enter Try.func9, Try.ntmps9
  go_wp2
  go_loopw [3, 4] (fun v i wr => ∃ f : Nat, f ≤ zs.length ∧ i = .int .i64 f ∧ (f < zs.length → bP (cls zs) f = true) ∧ MineC wr w.heap.size v (pairs (Bs (cls zs) (f + 1))) ∧ Below w.heap.size w wr) (fun _ i _ => zs.length - (intOf i).toNat)
  case atStart => exact ⟨0, by omega, rfl, fun h0 => bP_zero _ (by rw [HL.out]; exact h0), by
      have e : pairs (Bs (cls zs) (0 + 1)) = [] := by
        rw [Bs_succ]; split <;> rfl
      rw [e]; exact MineC.nil_ _ _, Below.refl _ _⟩
  case round =>
    obtain ⟨f, hf, rfl, hbf, hown, hbl⟩ := hrel
    by_cases hlt : f < zs.length
    · obtain ⟨b, off, rfl, hb, hcc⟩ := (h.carry hbl).at_int hlt
      have hd := (h.carry hbl).drop f
      rw [← List.map_drop] at hd
      have hcf : ¬ c = f := by omega
      have HC := Lib.hid (fun A c w hc h => first_at A c f (zs.length - f) zs w hn hlt (hbf hlt) rfl hc h)
      have hlen : (pairs (Bs (cls zs) (f + 1))).length ≤ 1001 := by rw [pairs_len]; have := Bs_len (cls zs) (f + 1); omega
      generalize pairs (Bs (cls zs) (f + 1)) = acc at hown hlen HC
      clear h hcc hbf
      go_wp2_with (first | (go_at_call 27; (with_reducible refine (HC.out _ _ _ (by omega) hd).mono ?_); rintro e u ⟨⟨r, rfl, hr1, hr2, HB, HP⟩, hu⟩; have hM := hown.below hu.1; have hb2 := below_trans hbl hu.1 hbl.size) | (at_builtin; refine wpList_pushC rfl _ _ 24 rfl _ Try.underlying24 Try.full31 rfl (by omega) w.heap.size _ acc (f, f + r) w _ _ (by simp [row]) hM rfl rfl hb2 hb2.size (by omega) ?_; intro v2 w2 hM2 hb3))
      go_roundw
      case rel => exact ⟨f + r, by omega, by go_num, fun _ => HB.out, by rw [HP.out]; exact hM2, hb3⟩
      case measure => simp [intOf] <;> omega
    · obtain rfl : f = zs.length := by omega
      have HE := Lib.hid (show pairs (Bs (cls zs) (zs.length + 1)) = cutsL (cls zs) by unfold cutsL bnds; rw [HL.out])
      rw [HE.out] at hown
      go_wp2
      go_ret
      exact ⟨_, rfl, hown.cutsV hbl⟩

theorem ownC_alloc {w : World} {B : Nat} {v : Value} {l : List (Nat × Nat)} (h : MineC w B v l) (o : Obj) : MineC (w.alloc o).drew B v l := World.ownsRow.alloc h o
theorem push_c0 (w : World) (y : Nat × Nat) : ((w.alloc (.cells #[.int .i64 y.1, .int .i64 y.2] 31)).drew).cell? ⟨w.heap.size, 0, none⟩ = some (.int .i64 y.1) := cells_new2 w y 31 0 _ rfl
theorem push_c1 (w : World) (y : Nat × Nat) : ((w.alloc (.cells #[.int .i64 y.1, .int .i64 y.2] 31)).drew).cell? ⟨w.heap.size, 1, none⟩ = some (.int .i64 y.2) := cells_new2 w y 31 1 _ rfl
theorem zb_get (l : List Nat) (i : Nat) (h : i < l.length) : (zb l)[i]'(by rw [zb_len]; exact h) = (l[i] : Int) := by unfold zb; rw [List.getElem_map]
theorem count_len (L : List Int) : (cutsL L).length = (bnds L).length - 1 := pairs_len _

theorem count_ok (A : Option Addr) (c : Nat) (zs : List Int) (w : World) (hn : zs.length ≤ 1000) (hc : zs.length ≤ c) (h : Has w w.heap.size A (zs.map (Value.int .i32))) :
    Calls Try.prog 11 #[.slice A zs.length c] w fun e w' => e = .returned (.int .i64 ((cutsL (cls zs)).length : Nat)) ∧ Below w.heap.size w w' := by
  have HC := Lib.hid (fun w h => cuts_ok A c zs w hn hc h)
  generalize cutsL (cls zs) = l at HC
  go_enter Try.func11, Try.ntmps11
  go_wp2_with (go_at_call 9; refine (HC.out _ h).mono ?_; rintro e u ⟨v, rfl, A1, c1, rfl, hc1, hh1, hb1⟩)
  go_ret
  exact ⟨rfl, hb1⟩

theorem take_step {α : Type} (l : List α) (k : Nat) (h : k < l.length) : l.take (k + 1) = l.take k ++ [l[k]] := by
  rw [List.take_add_one, List.getElem?_eq_getElem h]; rfl

theorem bnds_first (L : List Int) (h : 0 < L.length) : (bnds L).take 1 = [0] := by
  have hbl : 0 < (bnds L).length := List.length_pos_of_mem (mem_bnds.2 ⟨Nat.zero_le _, bP_zero L h⟩)
  rw [take_step _ 0 hbl]
  obtain ⟨q, hq, he⟩ := List.getElem_of_mem (mem_bnds.2 ⟨Nat.zero_le _, bP_zero L h⟩ : 0 ∈ bnds L)
  rcases Nat.eq_zero_or_pos q with rfl | h0
  · rw [he]; rfl
  · have : (bnds L)[0] < (bnds L)[q] := Bs_lt L _ 0 q h0 hq
    omega
theorem cut_step (L : List Int) (k : Nat) (x : Nat × Nat) (h : (cutsL L)[k]? = some x) : (bnds L).take (k + 1 + 1) = (bnds L).take (k + 1) ++ [x.2] := by
  obtain ⟨hk, he⟩ := List.getElem?_eq_some_iff.1 h
  have hk2 : k + 1 < (bnds L).length := by rw [count_len] at hk; omega
  rw [take_step _ (k + 1) hk2]
  have h3 : (bnds L)[k + 1] = x.2 := by
    rw [← he]
    exact (congrArg Prod.snd (pairs_get (bnds L) k hk2)).symm
  rw [h3]

set_option maxHeartbeats 1000000 in
theorem bounds_ok (A : Option Addr) (c : Nat) (zs : List Int) (w : World) (hn : zs.length ≤ 1000) (hc : zs.length ≤ c) (h : Has w w.heap.size A (zs.map (Value.int .i32))) :
    Calls Try.prog 14 #[.slice A zs.length c] w fun e w' => SliceOf .i64 w w' e (zb (bnds (cls zs))) := by
  have hL := cls_len zs
  rcases Nat.eq_zero_or_pos zs.length with hz | hz
  · rw [bnds_nil _ (by omega), hz]
    go_enter Try.func14, Try.ntmps14
    go_wp2
    go_ret
    exact ⟨_, rfl, sliceV_nil .i64 w w (Below.refl _ _)⟩
  have HC := Lib.hid (fun w h => cuts_ok A c zs w hn hc h)
  have hbn : (bnds (cls zs)).length ≤ 1001 := by have := Bs_len (cls zs) ((cls zs).length + 1); unfold bnds; omega
  have hcl := count_len (cls zs)
  have hcg := cut_step (cls zs)
  have hb0 := bnds_first (cls zs) (by omega)
  have hbp : 0 < (bnds (cls zs)).length := List.length_pos_of_mem (mem_bnds.2 ⟨Nat.zero_le _, bP_zero _ (by omega)⟩)
  clear hL
  generalize bnds (cls zs) = bl at *
  generalize cutsL (cls zs) = cs at *
  have HG := Lib.hid hcg
  have HCL := Lib.hid hcl
  have HB0 := Lib.hid (show zb (bl.take 1) = [(0 : Int)] by rw [hb0]; rfl)
  have hcn : cs.length ≤ 1000 := by omega
  clear hcg hcl hb0
  have hzb : ((zs.length : Int) == 0) = false := beq_eq_false_iff_ne.2 (by omega)
  have hU0 : Below w.heap.size w (w.alloc (.cells #[.int .i64 0] 3)) := (Below.refl _ _).alloc (Nat.le_refl _) _
  have hh0 := h.carry hU0
  have hm0 : Mine .i64 3 (w.alloc (.cells #[.int .i64 0] 3)) w.heap.size (.slice (some ⟨w.heap.size, 0, none⟩) 1 1) [0] := Mine.one _ _ _ _ _ (Nat.le_refl _)
  go_enter Try.func14, Try.ntmps14
  go_wp2_with (go_at_call 9; refine (HC.out _ hh0).mono ?_; rintro e u ⟨v, rfl, A1, c1, rfl, ⟨hc1, hf1⟩, hh1, hb1⟩; have hM0 := hm0.below hb1; have hU1 := below_trans hU0 hb1 hU0.size)
  rw [World.size_alloc] at hf1
  clear hh0 hm0 hU0 h
  go_loopw [3, 13] (fun v i wr => ∃ k : Nat, k ≤ cs.length ∧ i = .int .i64 k ∧ Mine .i64 3 wr w.heap.size v (zb (bl.take (k + 1))) ∧ (HasC wr wr.heap.size A1 cs ∧ ∀ a, A1 = some a → v.ownBlock ≠ some a.block) ∧ Below w.heap.size w wr) (fun _ i _ => cs.length - (intOf i).toNat)
  case atStart => exact ⟨0, by omega, rfl, by rw [HB0.out]; exact hM0, ⟨hh1, fun a ha he => by have := hf1 a ha; have e2 : w.heap.size = a.block := Option.some.inj he; omega⟩, hU1⟩
  case round =>
    clear hM0 hU1 hh1
    obtain ⟨k, hk, rfl, hown, ⟨hh1, hne1⟩, hbw⟩ := hrel
    have hlen : (zb (bl.take (k + 1))).length ≤ 1001 := by rw [zb_len, List.length_take]; omega
    by_cases hlt : k < cs.length
    · have HS := Lib.hid hh1
      obtain ⟨b, off, rfl, hb, hcc1, hcc2⟩ := hh1.at_ hlt
      have hne2 := Lib.hid (hne1 _ rfl)
      have HN := Lib.hid (show zb (bl.take (k + 1 + 1)) = zb (bl.take (k + 1)) ++ [((cs[k].2 : Nat) : Int)] by rw [HG.out k _ (List.getElem?_eq_getElem hlt), zb_snoc])
      generalize zb (bl.take (k + 1)) = acc at hown hlen HN
      obtain ⟨⟨X, Y⟩, hXY⟩ : ∃ p, cs[k] = p := ⟨_, rfl⟩
      rw [hXY] at hcc1 hcc2 HN
      simp only at hcc1 hcc2 HN
      clear hXY hh1 hne1 hf1
      have hsz := hbw.size
      go_wp2_with (at_builtin; refine wpList_push_far_n rfl _ _ 28 rfl Try.underlying28 Try.full3 (by omega) w.heap.size _ acc Y _ (wr.heap.size + 1) (by simp) (hown.alloc _) rfl rfl (by simp; omega) (by omega) ?_; intro v' w1 hown' hbl' hfar; have hfar' := hfar b (by simp; omega) hne2.out; have hsz1 := hbl'.size; rw [World.size_alloc] at hsz1; rw [Below.heap_alloc _ _ _ hb] at hfar'; replace hfar' := Lib.hid hfar'; clear hfar)
      go_roundw
      case rel => exact ⟨k + 1, by omega, by go_num, by rw [HN.out]; exact hown', ⟨HS.out.stays (by omega) (fun a ha hlt2 => by cases ha; exact hfar'.out.2), fun a ha => by cases ha; exact hfar'.out.1⟩, (hbw.alloc hsz _).trans hbl'⟩
      case measure => simp [intOf] <;> omega
    · obtain rfl : k = cs.length := by omega
      have HE := Lib.hid (show bl.take (cs.length + 1) = bl by rw [HCL.out]; exact List.take_of_length_le (by omega))
      rw [HE.out] at hown
      go_wp2
      go_ret
      exact ⟨_, rfl, hown.sliceV hbw⟩

set_option maxHeartbeats 2000000 in
theorem rcuts_ok (A : Option Addr) (c : Nat) (zs : List Int) (w : World) (hn : zs.length ≤ 1000) (hc : zs.length ≤ c) (h : Has w w.heap.size A (zs.map (Value.int .i32))) :
    Calls Try.prog 10 #[.slice A zs.length c] w fun e w' => CutsOf w w' e (cutsL (cls zs)) := by
  have HC := Lib.hid (fun w h => rbounds_ok A c zs w hn hc h)
  have hbn : (bnds (cls zs)).length ≤ 1001 := by have := Bs_len (cls zs) ((cls zs).length + 1); have := cls_len zs; unfold bnds; omega
  unfold cutsL
  generalize bnds (cls zs) = bl at *
  have hzl := zb_len bl
  go_enter Try.func10, Try.ntmps10
  go_wp2_with (go_at_call 15; refine (HC.out _ h).mono ?_; rintro e u ⟨v1, rfl, A1, c1, rfl, hf1, hh1, hb1⟩; rw [hzl])
  go_loopw [3, 5] (fun v i wr => ∃ k : Nat, k ≤ bl.length ∧ i = .int .i64 ((k : Int) + 1) ∧ MineC wr u.heap.size v ((pairs bl).take k) ∧ Below u.heap.size u wr) (fun _ i _ => bl.length + 1 - (intOf i).toNat)
  case atStart => exact ⟨0, by omega, rfl, MineC.nil_ _ _, Below.refl _ _⟩
  case round =>
    obtain ⟨k, hk, rfl, hown, hbl⟩ := hrel
    by_cases hlt : k + 1 < bl.length
    · have hpl := pairs_len bl
      have hT := take_step (pairs bl) k (by omega)
      rw [pairs_get bl k hlt] at hT
      have hlen : ((pairs bl).take k).length ≤ 1001 := by rw [List.length_take]; omega
      obtain ⟨b, off, rfl, hbu, hw0⟩ := hh1.at_int (k := k) (by rw [hzl]; omega)
      obtain ⟨b2, off2, hAe, _, hw1⟩ := hh1.at_int (k := k + 1) (by rw [hzl]; omega)
      cases hAe
      rw [zb_get _ _ (by omega)] at hw0
      rw [zb_get _ _ hlt] at hw1
      have hcc1 := (hbl.cell (p := ⟨b, off + k, none⟩) hbu).trans hw0
      have hcc2 := (hbl.cell (p := ⟨b, off + (k + 1), none⟩) hbu).trans hw1
      obtain ⟨X, hX⟩ : ∃ X, bl[k] = X := ⟨_, rfl⟩
      obtain ⟨Y, hY⟩ : ∃ Y, bl[k + 1] = Y := ⟨_, rfl⟩
      rw [hX] at hcc1 hw0 hT
      rw [hY] at hcc2 hw1 hT
      have HT := Lib.hid hT
      generalize (pairs bl).take k = acc at hown hlen HT
      clear hX hY hT h hpl
      have hsz := hbl.size
      have HZ := Lib.hid hzl
      clear hzl
      go_wp2
      have kw : IntKind.i64.wrap ((k : Int) + 1 - 1) = (k : Int) := by rw [IntWalk.i64_in _ (by omega)]; omega
      have kw2 : IntKind.i64.wrap (k : Int) = (k : Int) := IntWalk.i64_in _ (by omega)
      have kn : (0 : Int) ≤ (k : Int) + 1 := by omega
      have kt : ((k : Int) + 1).toNat = k + 1 := by omega
      have kl : (k : Int) + 1 < (bl.length : Int) := by omega
      have kl' : (k : Int) < (bl.length : Int) := by omega
      have kz : (0 : Int) ≤ (k : Int) := by omega
      go_region_held3 (fun w' => w'.cell? ⟨b, off + k, none⟩ = some (.int .i64 X) ∧ w'.cell? ⟨b, off + (k + 1), none⟩ = some (.int .i64 Y)) (first | go_keep | exact ⟨(hbl'.cell (p := ⟨b, off + k, none⟩) hbu).trans hw0, (hbl'.cell (p := ⟨b, off + (k + 1), none⟩) hbu).trans hw1⟩)
        (first | (refine step_pushC (by rfl) _ _ 24 (by rfl) _ Try.underlying24 Try.full31 rfl (by omega) u.heap.size _ acc (X, Y) u wr.heap.size (ownC_alloc hown _) (by rfl) (by rfl) (push_c0 wr (X, Y)) (push_c1 wr (X, Y)) ((hbl.alloc hsz _).drew) (by simp; omega) (by omega) ?_; intro v' w1 hown' hbl'))
      clear hown hbl hcc1 hcc2 kw kw2 kn kt kl kl' kz
      go_wp2
      go_roundw
      case rel => exact ⟨k + 1, by omega, by go_num, by rw [HT.out]; exact hown', hbl'⟩
      case measure => simp [intOf] <;> omega
    · have hT : (pairs bl).take k = pairs bl := List.take_of_length_le (by rw [pairs_len]; omega)
      rw [hT] at hown
      clear hT h
      have hlt2 : ¬ (k : Int) + 1 < bl.length := by omega
      go_wp2
      go_ret
      exact ⟨_, rfl, by
        obtain ⟨A9, c9, hv, hc9, hf9, hh9⟩ := hown.has
        exact ⟨A9, c9, hv, ⟨hc9, fun a ha => Nat.le_trans hb1.size (hf9 a ha)⟩, hh9, below_trans hb1 hbl hb1.size⟩⟩

theorem rcount_ok (A : Option Addr) (c : Nat) (zs : List Int) (w : World) (hn : zs.length ≤ 1000) (hc : zs.length ≤ c) (h : Has w w.heap.size A (zs.map (Value.int .i32))) :
    Calls Try.prog 12 #[.slice A zs.length c] w fun e w' => e = .returned (.int .i64 ((cutsL (cls zs)).length : Nat)) ∧ Below w.heap.size w w' := by
  have HC := Lib.hid (fun w h => rcuts_ok A c zs w hn hc h)
  generalize cutsL (cls zs) = l at HC
  go_enter Try.func12, Try.ntmps12
  go_wp2_with (go_at_call 10; refine (HC.out _ h).mono ?_; rintro e u ⟨v, rfl, A1, c1, rfl, hc1, hh1, hb1⟩)
  go_ret
  exact ⟨rfl, hb1⟩

theorem next_of' (L : List Int) (i : Int) (k x : Nat) (hk : (bnds L)[k]? = some x) (hi : i < x) (hb : ∀ j y, j < k → (bnds L)[j]? = some y → (y : Int) ≤ i) : NextV L i x := by
  obtain ⟨h1, rfl⟩ := List.getElem?_eq_some_iff.1 hk
  exact next_of L i k h1 hi (fun j hj => hb j _ hj (List.getElem?_eq_getElem (by omega)))
theorem next_none' (L : List Int) (i : Int) (hb : ∀ j y, j < (bnds L).length → (bnds L)[j]? = some y → (y : Int) ≤ i) : NextV L i L.length :=
  next_none L i (fun j hj => hb j _ hj (List.getElem?_eq_getElem hj))
theorem prev_of' (L : List Int) (i : Int) (k x : Nat) (hk : (bnds L)[k]? = some x) (hi : (x : Int) < i) (hb : ∀ j y, k < j → (bnds L)[j]? = some y → i ≤ (y : Int)) : PrevV L i x := by
  obtain ⟨h1, rfl⟩ := List.getElem?_eq_some_iff.1 hk
  exact prev_of L i k h1 hi (fun j hj hkj => hb j _ hkj (List.getElem?_eq_getElem hj))
theorem prev_none' (L : List Int) (i : Int) (hb : ∀ j (y : Nat), 0 ≤ j → (bnds L)[j]? = some y → i ≤ (y : Int)) : PrevV L i 0 :=
  prev_none L i (fun j hj => hb j _ (Nat.zero_le _) (List.getElem?_eq_getElem hj))
theorem get_some {α : Type} {l : List α} {k : Nat} {x : α} (h : k < l.length) (e : l[k] = x) : l[k]? = some x := by rw [List.getElem?_eq_getElem h, e]

set_option maxHeartbeats 1000000 in
theorem rnext_ok (A : Option Addr) (c : Nat) (i : Int) (zs : List Int) (w : World) (hn : zs.length ≤ 1000) (hc : zs.length ≤ c) (h : Has w w.heap.size A (zs.map (Value.int .i32))) :
    Calls Try.prog 21 #[.slice A zs.length c, .int .i64 i] w fun e w' => (∃ r : Nat, e = .returned (.int .i64 r) ∧ NextV (cls zs) i r) ∧ Below w.heap.size w w' := by
  have HC := Lib.hid (fun w h => rbounds_ok A c zs w hn hc h)
  have hbn : (bnds (cls zs)).length ≤ 1001 := by have := Bs_len (cls zs) ((cls zs).length + 1); have := cls_len zs; unfold bnds; omega
  have HN := Lib.hid (next_of' (cls zs) i)
  have HE := Lib.hid (next_none' (cls zs) i)
  have HL := Lib.hid (cls_len zs)
  generalize bnds (cls zs) = bl at *
  have hzl := zb_len bl
  go_enter Try.func21, Try.ntmps21
  go_wp2_with (go_at_call 15; refine (HC.out _ h).mono ?_; rintro e u ⟨v1, rfl, A1, c1, rfl, hf1, hh1, hb1⟩; rw [hzl])
  go_loopw [6] (fun v wr => ∃ k : Nat, k ≤ bl.length ∧ v = .int .i64 k ∧ Hid (∀ j y, j < k → bl[j]? = some y → (y : Int) ≤ i) ∧ u = wr) (fun v _ => bl.length - (intOf v).toNat)
  case atStart => exact ⟨0, by omega, rfl, Lib.hid (fun j y hj _ => absurd hj (by omega)), rfl⟩
  case round =>
    obtain ⟨k, hk, rfl, HT, rfl⟩ := hrel
    by_cases hlt : k < bl.length
    · obtain ⟨b, off, rfl, hb, hcc1⟩ := hh1.at_int (k := k) (by rw [hzl]; omega)
      rw [zb_get _ _ hlt] at hcc1
      obtain ⟨X, hX⟩ : ∃ X, bl[k] = X := ⟨_, rfl⟩
      rw [hX] at hcc1
      have hX2 := get_some hlt hX
      clear hX
      have HZ := Lib.hid hzl
      clear hzl h
      by_cases hgt : i < (X : Int)
      · have HR := Lib.hid (HN.out k X hX2 hgt HT.out)
        clear HT hX2
        go_wp2
        go_ret
        exact ⟨⟨X, rfl, HR.out⟩, hb1⟩
      · have HS : Hid (∀ j y, j < k + 1 → bl[j]? = some y → (y : Int) ≤ i) := Lib.hid (fun j y hj hy => by
          rcases Nat.lt_or_ge j k with h3 | h3
          · exact HT.out j y h3 hy
          · obtain rfl : j = k := by omega
            rw [hX2] at hy
            injection hy with hy
            omega)
        clear HT hX2
        go_wp2
        go_roundw
        case rel => exact ⟨k + 1, by omega, by go_num, HS, by first | rfl | trivial⟩
        case measure => simp [intOf] <;> omega
    · obtain rfl : k = bl.length := by omega
      have HR := Lib.hid (HE.out HT.out)
      clear HT h
      go_wp2
      go_ret
      exact ⟨⟨zs.length, rfl, by have := HR.out; rwa [HL.out] at this⟩, hb1⟩

set_option maxHeartbeats 1000000 in
theorem rprev_ok (A : Option Addr) (c : Nat) (i : Int) (zs : List Int) (w : World) (hn : zs.length ≤ 1000) (hc : zs.length ≤ c) (h : Has w w.heap.size A (zs.map (Value.int .i32))) :
    Calls Try.prog 23 #[.slice A zs.length c, .int .i64 i] w fun e w' => (∃ r : Nat, e = .returned (.int .i64 r) ∧ PrevV (cls zs) i r) ∧ Below w.heap.size w w' := by
  have HC := Lib.hid (fun w h => rbounds_ok A c zs w hn hc h)
  have hbn : (bnds (cls zs)).length ≤ 1001 := by have := Bs_len (cls zs) ((cls zs).length + 1); have := cls_len zs; unfold bnds; omega
  have HN := Lib.hid (prev_of' (cls zs) i)
  have HE := Lib.hid (prev_none' (cls zs) i)
  generalize bnds (cls zs) = bl at *
  have hzl := zb_len bl
  go_enter Try.func23, Try.ntmps23
  go_wp2_with (go_at_call 15; refine (HC.out _ h).mono ?_; rintro e u ⟨v1, rfl, A1, c1, rfl, hf1, hh1, hb1⟩; rw [hzl])
  go_loopw [6] (fun v wr => ∃ k : Nat, k ≤ bl.length ∧ v = .int .i64 ((k : Int) - 1) ∧ Hid (∀ j y, k ≤ j → bl[j]? = some y → i ≤ (y : Int)) ∧ u = wr) (fun v _ => (intOf v + 1).toNat)
  case atStart => exact ⟨bl.length, by omega, rfl, Lib.hid (fun j y hj hy => by have := (List.getElem?_eq_some_iff.1 hy).1; omega), rfl⟩
  case round =>
    obtain ⟨k, hk, rfl, HT, rfl⟩ := hrel
    by_cases hlt : 0 < k
    · obtain ⟨m, rfl⟩ : ∃ m, k = m + 1 := ⟨k - 1, by omega⟩
      rw [show ((m + 1 : Nat) : Int) - 1 = m by omega]
      have hm : m < bl.length := by omega
      obtain ⟨b, off, rfl, hb, hcc1⟩ := hh1.at_int (k := m) (by rw [hzl]; omega)
      rw [zb_get _ _ hm] at hcc1
      obtain ⟨X, hX⟩ : ∃ X, bl[m] = X := ⟨_, rfl⟩
      rw [hX] at hcc1
      have hX2 := get_some hm hX
      clear hX
      have HZ := Lib.hid hzl
      clear hzl h
      by_cases hgt : (X : Int) < i
      · have HR := Lib.hid (HN.out m X hX2 hgt (fun j y hj hy => HT.out j y (by omega) hy))
        clear HT hX2
        go_wp2
        go_ret
        exact ⟨⟨X, rfl, HR.out⟩, hb1⟩
      · have HS : Hid (∀ j y, m ≤ j → bl[j]? = some y → i ≤ (y : Int)) := Lib.hid (fun j y hj hy => by
          rcases Nat.lt_or_ge m j with h3 | h3
          · exact HT.out j y (by omega) hy
          · obtain rfl : j = m := by omega
            rw [hX2] at hy
            injection hy with hy
            omega)
        clear HT hX2
        go_wp2
        go_roundw
        case rel => exact ⟨m, by omega, by go_num, HS, by first | rfl | trivial⟩
        case measure => simp [intOf] <;> omega
    · obtain rfl : k = 0 := by omega
      have HR := Lib.hid (HE.out HT.out)
      clear HT h
      rw [show ((0 : Nat) : Int) - 1 = -1 by omega]
      go_wp2
      go_ret
      exact ⟨⟨0, rfl, HR.out⟩, hb1⟩
end Go.Proofs.Ytnpdampaimllpaa
