/-
  Contract of the program's Visual. Condition: at most 1000 levels.
-/
import Derived.Test.YtnocdminhcpmpaaRoe
set_option linter.unusedVariables false
set_option linter.unusedSimpArgs false
namespace Go.Proofs.Ytnocdminhcpmpaa
open Go.ChangeShapes Go.WideShapes Go.ChangeAt Go.RowKit Go.Sort

def inN (l : List Nat) : List Int := l.map (fun x : Nat => (x : Int))
theorem inN_len (l : List Nat) : (inN l).length = l.length := by simp [inN]
theorem inN_append (l m : List Nat) : inN (l ++ m) = inN l ++ inN m := by simp [inN]
theorem inN_rev (l : List Nat) : (inN l).reverse = inN l.reverse := by simp [inN]
theorem inN_get (l : List Nat) (i x : Nat) (h : l[i]? = some x) : (inN l)[i]? = some (x : Int) := by unfold inN; rw [List.getElem?_map, h]; rfl
theorem slice1_lo (A : Option Addr) (n c a : Nat) (ha : a ≤ n) :
    ∃ S, (∀ W, (Instr.slice 22 (.slice A n c) (some (.int .i64 (a : Int))) none none).run Try.prog W = .ok (.slice S (n - a) (c - a)) W) ∧ ∀ g, A = some ⟨g, 0, none⟩ → a < c → S = some ⟨g, a, none⟩ := by
  refine ⟨if c = a then A else A.map (·.add (a * 1)), fun W => ?_, fun g hg hc => ?_⟩
  · rw [run_slice_l (P := Try.prog) W 22 A n c (by kernel_rfl) .i64 a (by omega) (by omega)]
    have hs : (sizeOf (Try.prog.elem 22)).run Try.prog W = .ok 1 W := by kernel_rfl
    rw [hs]
    simp [Result.andThen, sliced]
  · rw [if_neg (by omega), hg]
    simp [Addr.add]
    omega
/-- 'make' of no element, with room for n -/
theorem run_room (n : Nat) (hn : n ≤ 1000) (W : World) : (Instr.makeSlice 22 (.int .i64 0) (.int .i64 (n : Int))).run Try.prog W = .ok (.slice (some ⟨W.heap.size, 0, none⟩) 0 n) (W.alloc (.cells (madeCells #[Value.int .i64 0] n) 3)) := by
  obtain ⟨i, hi, hzz⟩ := Option.map_eq_some_iff.1 fullI
  simp only [Prod.mk.injEq] at hzz
  obtain ⟨hz, hs, hb⟩ := hzz
  have := run_make (P := Try.prog) W 22 3 i (.int .i64 0) Try.underlying22 hi hz .i64 .i64 0 (n : Int) (by omega) (by omega) (by rw [hb]; omega) (by omega)
  rw [this, hs, Nat.mul_one]
  rfl
theorem mine_room {w : World} {n : Nat} (hn : n ≤ 1000) : Mine .i64 3 (w.alloc (.cells (madeCells #[Value.int .i64 0] n) 3)) w.heap.size (.slice (some ⟨w.heap.size, 0, none⟩) 0 n) [] := by
  refine ⟨by simp, .inr ⟨w.heap.size, n, _, by simp, Nat.le_refl _, heap_alloc_new w _, by simp, by unfold maxLen; omega, by simp [madeCells], by simp⟩⟩
/-- what Visual holds: the order so far, and the runs, apart -/
structure VisS (w : World) (B : Nat) (wr : World) (v u : Value) (L : List Nat) (R : List Rn) : Prop where
  ord : Mine .i64 3 wr B v (inN L)
  runs : MineS wr B u R
  far : Apart v u
  bel : Below B w wr
section
variable {w wr W : World} {B : Nat} {v u v' : Value} {L : List Nat} {R : List Rn}
theorem VisS.up (h : VisS w B wr v u L R) (hB : B ≤ wr.heap.size) (hb : Below wr.heap.size wr W) : VisS w B W v u L R :=
  ⟨h.ord.stays fun b _ hlt => hb.block b hlt, MineS.below h.runs hb, h.far, h.bel.trans (hb.mono hB)⟩
theorem VisS.push {x : Nat} (h : VisS w B wr v u L R) (hM : Mine .i64 3 W B v' (inN L ++ [(x : Int)])) (hb : Below B wr W) (hf : ∀ b, b < wr.heap.size → v.ownBlock ≠ some b → v'.ownBlock ≠ some b ∧ W.heap[b]? = wr.heap[b]?) : VisS w B W v' u (L ++ [x]) R := by
  refine ⟨by rw [inN_append]; exact hM, MineN.stays h.runs fun b hb2 hlt => (hf b hlt fun e => h.far b e hb2).2, fun b hb2 e => ?_, h.bel.trans hb⟩
  have h1 := (MineN.own_lt h.runs b e).2
  exact (hf b h1 fun e2 => h.far b e2 e).1 hb2
theorem VisS.turn (h : VisS w B wr v u L R) {L' : List Nat} (hM : Mine .i64 3 W B v (inN L')) (hb : Below B wr W) (hf : FarO v wr W) : VisS w B W v u L' R :=
  ⟨hM, MineN.stays h.runs fun b hb2 hlt => hf.2 b hlt fun e => h.far b e hb2, h.far, h.bel.trans hb⟩
end
/-- the box of a run -/
def BoxR (wr : World) (g : Nat) (r : Rn) : Prop := g < wr.heap.size ∧ wr.cell? ⟨g, 0, none⟩ = some (.int .i64 (r.1 : Int)) ∧ wr.cell? ⟨g, 1, none⟩ = some (.int .i64 (r.2.1 : Int)) ∧ wr.cell? ⟨g, 2, none⟩ = some (.int .i64 (r.2.2 : Int))
theorem BoxR.stays {wr W : World} {g : Nat} {r : Rn} (h : BoxR wr g r) (hs : wr.heap.size ≤ W.heap.size) (hg : W.heap[g]? = wr.heap[g]?) : BoxR W g r := by
  obtain ⟨h0, h1, h2, h3⟩ := h
  have key : ∀ j, W.cell? ⟨g, j, none⟩ = wr.cell? ⟨g, j, none⟩ := fun j => World.cell?_of_block hg
  exact ⟨by omega, by rw [key]; exact h1, by rw [key]; exact h2, by rw [key]; exact h3⟩
theorem BoxR.new (wr : World) (r : Rn) (t : TypeId) : BoxR (wr.alloc (.cells #[.int .i64 (r.1 : Int), .int .i64 (r.2.1 : Int), .int .i64 (r.2.2 : Int)] t)) wr.heap.size r := by
  have hg : (wr.alloc (.cells #[.int .i64 (r.1 : Int), .int .i64 (r.2.1 : Int), .int .i64 (r.2.2 : Int)] t)).heap[wr.heap.size]? = some (.cells #[.int .i64 (r.1 : Int), .int .i64 (r.2.1 : Int), .int .i64 (r.2.2 : Int)] t) := heap_alloc_new _ _
  refine ⟨by simp, ?_, ?_, ?_⟩
  all_goals
    rw [cell_of_row _ _ _ _ _ _ hg]
    rfl
theorem take_flat {α β : Type} (F : α → List β) (l : List α) (j : Nat) (x : α) (h : l[j]? = some x) : (l.take (j + 1)).flatMap F = (l.take j).flatMap F ++ F x := by
  rw [List.take_add_one, h, List.flatMap_append]
  simp
theorem lay_len_append (P : List Nat) (r : Rn) : (P ++ layQ r).length = P.length + (r.2.1 - r.1) := by rw [List.length_append, lay_len]
set_option maxRecDepth 20000 in
set_option maxHeartbeats 8000000 in
theorem visual_ok (A : Option Addr) (n c : Nat) (xs : List Int) (w : World) (hn : n = xs.length) (hmax : n ≤ 1000) (h : Has w w.heap.size A (xs.map (Value.int .i64))) :
    Calls Try.prog 11 #[.slice A n c] w fun e w' => ∃ v, e = .returned v ∧ Mine .i64 3 w' w.heap.size v (inN (ordX (lvX xs) n)) ∧ Below w.heap.size w w' := by
  have HR := Lib.hid (fun (W : World) (hb : Below w.heap.size w W) => pruns_ok A n c xs W hn hmax ((h.below hb).more hb.size))
  have hmx := run_max (lvX xs) n
  have hlay := run_lay (lvX xs) n
  have hlen0 := ord_len (lvX xs) n
  have hrl := run_len (lvX xs) n
  generalize ordX (lvX xs) n = O at *
  generalize runX (lvX xs) n = R at *
  have HO : Hid (O = R.flatMap layQ ∧ O.length = n) := Lib.hid ⟨hlay, hlen0⟩
  have HX : Hid (∀ (j : Nat) (r : Rn), R[j]? = some r → r.1 < r.2.1 ∧ r.2.1 ≤ n ∧ r.2.2 ≤ 126) := Lib.hid fun j r hj => by
    obtain ⟨a, b, c, _⟩ := hmx r (List.mem_of_getElem? hj)
    refine ⟨a, b, ?_⟩
    rw [← c r.1 (Nat.le_refl _) a]
    exact lv_le xs _
  have HP : Hid (∀ j, ((R.take j).flatMap layQ).length ≤ n) := Lib.hid fun j => by
    rw [← hlen0, hlay]
    have : R.flatMap layQ = (R.take j).flatMap layQ ++ (R.drop j).flatMap layQ := by rw [← List.flatMap_append, List.take_append_drop]
    rw [this, List.length_append]; omega
  have HMK := fun W => run_room n hmax W
  clear h hn hmx hlay hlen0
  go_enter Try.func11, Try.ntmps11
  go_wp2_with (first
    | (go_at_call 16; (with_reducible refine (HR.out _ ((Below.refl _ _).alloc (Nat.le_refl _) _)).mono ?_); rintro x z0 ⟨v, rfl, m0, b0⟩; obtain ⟨A2, c2, rfl, hc2, _, _⟩ := MineN.has m0))
  have hm1 := mine_room (w := w) (n := n) hmax
  have hsz : (w.alloc (.cells (madeCells #[Value.int .i64 0] n) 3)).heap.size = w.heap.size + 1 := by simp
  have HM0 : Hid (VisS w w.heap.size z0 (.slice (some ⟨w.heap.size, 0, none⟩) 0 n) (.slice A2 R.length c2) ((R.take 0).flatMap layQ) R) := Lib.hid (by
    have hb1 : Below w.heap.size w (w.alloc (.cells (madeCells #[Value.int .i64 0] n) 3)) := (Below.refl _ _).alloc (Nat.le_refl _) _
    refine ⟨hm1.stays fun b _ hlt => b0.block b hlt, MineN.low m0 (by rw [hsz]; omega), fun b hb e => ?_, hb1.trans (b0.mono (by rw [hsz]; omega))⟩
    have h1 : some w.heap.size = some b := hb
    injection h1 with h1
    have h2 := (MineN.own_lt m0 b e).1
    omega)
  clear hm1 m0 b0 hsz HR hc2 HMK
  obtain ⟨Rl, hRl⟩ : ∃ q, R.length = q := ⟨_, rfl⟩
  rw [hRl] at HM0 hrl ⊢
  have HRL := Lib.hid hRl
  clear hRl
  obtain ⟨u12, hu12⟩ : ∃ u, u = Value.slice A2 Rl c2 := ⟨_, rfl⟩
  have HU := Lib.hid hu12
  rw [← hu12] at HM0
  go_loopw [3, 14] (fun v3 v14 wr => ∃ j : Nat, j ≤ Rl ∧ v14 = .int .i64 j ∧ Hid (VisS w w.heap.size wr v3 u12 ((R.take j).flatMap layQ) R)) (fun _ v _ => Rl - (intOf v).toNat)
  case atStart => exact ⟨0, by omega, rfl, HM0⟩
  case round =>
    clear HM0
    obtain ⟨j, hjn, rfl, HM⟩ := hrel
    by_cases hlt : j < Rl
    · obtain ⟨r, hr⟩ : ∃ r, R[j]? = some r := ⟨_, List.getElem?_eq_getElem (by have := HRL.out; omega)⟩
      obtain ⟨hr1, hr2, hr3⟩ := HX.out j r hr
      have hS := HM.out
      obtain ⟨g, hA2, hgB, hg, ⟨c1, c2', c3⟩, _, _⟩ := MineS.spot (by have := hS.runs; rw [hu12] at this; exact this) hr
      subst hA2
      obtain ⟨A3, q3, rfl, hc3, _, _⟩ := hS.ord.size
      have hBw : w.heap.size ≤ wr.heap.size := hS.bel.size
      have htk := take_flat layQ R j r hr
      obtain ⟨P, hP⟩ : ∃ P, (R.take j).flatMap layQ = P := ⟨_, rfl⟩
      have hPn : P.length ≤ n := by rw [← hP]; exact HP.out j
      have hPn2 : (P ++ layQ r).length ≤ n := by rw [← hP, ← htk]; exact HP.out (j + 1)
      rw [hP] at hS htk
      rw [lay_len_append] at hPn2
      rw [inN_len] at hS
      rw [hP, inN_len]
      have HTK := Lib.hid htk
      have hbx0 := BoxR.new wr r 33
      have hup : Below wr.heap.size wr (wr.alloc (.cells #[.int .i64 (r.1 : Int), .int .i64 (r.2.1 : Int), .int .i64 (r.2.2 : Int)] 33)) := (Below.refl _ _).alloc (Nat.le_refl _) _
      obtain ⟨bx, hbx⟩ : ∃ b, wr.heap.size = b := ⟨_, rfl⟩
      have hv3 : ∀ b, (Value.slice A3 P.length q3).ownBlock = some b → b < bx := fun b hb => by rw [← hbx]; exact (hS.ord.own_lt b hb).2
      have HB0 : Hid (VisS w w.heap.size (wr.alloc (.cells #[.int .i64 (r.1 : Int), .int .i64 (r.2.1 : Int), .int .i64 (r.2.2 : Int)] 33)) (.slice A3 P.length q3) u12 (P ++ List.range' r.1 0) R ∧ BoxR (wr.alloc (.cells #[.int .i64 (r.1 : Int), .int .i64 (r.2.1 : Int), .int .i64 (r.2.2 : Int)] 33)) bx r ∧ (Value.slice A3 P.length q3).ownBlock ≠ some bx) :=
        Lib.hid ⟨by rw [List.range'_zero, List.append_nil]; exact hS.up hBw hup, by rw [← hbx]; exact hbx0, fun e => by have := hv3 _ e; omega⟩
      have HN1 := Lib.hid (fun k => inN_len (P ++ List.range' r.1 k))
      have HOD := Lib.hid (fun W => isOdd_ok r.2.2 W)
      have HLQ : Hid (layQ r = if r.2.2 % 2 = 1 then (List.range' r.1 (r.2.1 - r.1)).reverse else List.range' r.1 (r.2.1 - r.1)) := Lib.hid rfl
      obtain ⟨a, b, v⟩ := r
      simp only at *
      rw [hbx] at hup
      clear hr hS htk hP hgB hg hbx0 hup HM hv3
      go_wp2
      go_loopw [3, 7] (fun v3 v7 wi => ∃ i : Nat, a ≤ i ∧ i ≤ b ∧ v7 = .int .i64 i ∧ Hid (VisS w w.heap.size wi v3 u12 (P ++ List.range' a (i - a)) R ∧ BoxR wi bx (a, b, v) ∧ v3.ownBlock ≠ some bx)) (fun _ v _ => b - (intOf v).toNat)
      case atStart => exact ⟨a, by omega, by omega, rfl, by rw [Nat.sub_self]; exact HB0⟩
      case round =>
        clear HB0
        obtain ⟨i, hai, hib, rfl, HI⟩ := hrel
        obtain ⟨hV, hB, hne⟩ := HI.out
        obtain ⟨hbl, k0, k1, k2⟩ := id hB
        simp only at k0 k1 k2
        by_cases hlt2 : i < b
        · have hlt3 : ((i : Int) < (b : Int)) := by omega
          have hM := hV.ord
          have hBi : w.heap.size ≤ wr.heap.size := hV.bel.size
          have hl : (inN (P ++ List.range' a (i - a))).length ≤ 1000000000 := by rw [inN_len, List.length_append, List.length_range']; omega
          have HI2 : Hid (∀ v' W, Mine .i64 3 W w.heap.size v' (inN (P ++ List.range' a (i - a)) ++ [(i : Int)]) → Below w.heap.size wr W → (∀ b, b < wr.heap.size → u3.ownBlock ≠ some b → v'.ownBlock ≠ some b ∧ W.heap[b]? = wr.heap[b]?) → VisS w w.heap.size W v' u12 (P ++ List.range' a (i + 1 - a)) R ∧ BoxR W bx (a, b, v) ∧ v'.ownBlock ≠ some bx) := Lib.hid fun v' W g1 g2 g3 => by
            obtain ⟨f1, f2⟩ := g3 bx hbl hne
            refine ⟨?_, hB.stays g2.size f2, f1⟩
            rw [range'_snoc a i hai, ← List.append_assoc]
            exact hV.push g1 g2 g3
          clear HI hV hB hne hbl
          go_wp2_with (first
            | (at_builtin; (refine wpList_push_far (k := .i64) (bytes := 8) rfl _ _ 22 rfl Try.underlying22 fullI (by decide) w.heap.size _ (inN (P ++ List.range' a (i - a))) (i : Int) _ hM rfl rfl hBi hl ?_; intro v' w3 hM3 hb3 hfar)))
          go_roundw
          case rel => exact ⟨i + 1, by omega, by omega, by go_num, Lib.hid (HI2.out _ _ hM3 hb3 hfar)⟩
          case measure => simp [intOf] <;> omega
        · obtain rfl : i = b := by omega
          have hlt3 : ¬ ((i : Int) < (i : Int)) := by omega
          obtain ⟨S, hS⟩ : ∃ S, List.range' a (i - a) = S := ⟨_, rfl⟩
          have hLQ := HLQ.out
          rw [hS] at hV hLQ
          obtain ⟨A4, q4, rfl, hc4, _, _⟩ := hV.ord.size
          have hSl : (P ++ S).length ≤ 1000 := by rw [List.length_append, ← hS, List.length_range']; omega
          rw [inN_len] at hc4 hV hne
          rw [inN_len]
          obtain ⟨T, hT⟩ : ∃ T, layQ (a, i, v) = T := ⟨_, rfl⟩
          rw [hT] at hLQ HTK
          obtain ⟨m, hm⟩ : ∃ m, (P ++ S).length = m := ⟨_, rfl⟩
          obtain ⟨p0, hp0⟩ : ∃ p0, P.length = p0 := ⟨_, rfl⟩
          have hpm : p0 ≤ m := by rw [← hm, ← hp0]; simp
          have hmc : m ≤ q4 := by rw [← hm]; exact hc4
          rw [hm] at hV hne hSl
          rw [hm, hp0]
          have HML := Lib.hid (And.intro hm hp0)
          clear HI hB hbl hS HLQ hT hlt2 HN1 hc4 hm hp0
          cases hod : decide (v % 2 = 1) with
          | true =>
            rw [hod] at HOD
            rw [if_pos (of_decide_eq_true hod)] at hLQ
            obtain ⟨Z, hsl, hZ⟩ := slice1_lo A4 m q4 p0 hpm
            have HRV := Lib.hid (revI_ok A4 Z m q4 p0 (m - p0) (q4 - p0) (inN (P ++ S)) wr w.heap.size hV.ord (by rw [inN_len, HML.out.1]; exact hSl) (by rw [inN_len, HML.out.1]; omega) hZ)
            have hrv : revS (inN (P ++ S)) p0 (m - p0) = inN (P ++ T) := by
              rw [← HML.out.1, ← HML.out.2]
              have := revS_mid (inN P) (inN S) []
              rw [List.append_nil, List.append_nil, inN_len, inN_len, inN_rev, ← inN_append, ← inN_append] at this
              rw [hLQ, ← this]
              congr 1
              simp
            rw [hrv] at HRV
            have HV := Lib.hid hV
            clear hrv hZ hV hLQ hod
            go_wp2_with (first
              | (go_at_call 23; (with_reducible refine (HOD.out _).mono ?_); rintro x u ⟨rfl, rfl⟩)
              | (go_at_call 24; (with_reducible refine HRV.out.mono ?_); rintro y u ⟨rfl, hMu, hBu, hFu⟩))
            go_roundw
            case rel => exact ⟨j + 1, by omega, by go_num, Lib.hid (by rw [HTK.out]; exact HV.out.turn hMu hBu hFu)⟩
            case measure => simp [intOf] <;> omega
          | false =>
            rw [hod] at HOD
            rw [if_neg (of_decide_eq_false hod)] at hLQ
            have HV := Lib.hid hV
            clear hV hod
            go_wp2_with (first
              | (go_at_call 23; (with_reducible refine (HOD.out _).mono ?_); rintro x u ⟨rfl, rfl⟩))
            go_roundw
            case rel => exact ⟨j + 1, by omega, by go_num, Lib.hid (by rw [HTK.out, hLQ]; exact HV.out)⟩
            case measure => simp [intOf] <;> omega
    · obtain rfl : j = Rl := by omega
      have hS := HM.out
      have e : (R.take j).flatMap layQ = O := by rw [List.take_of_length_le (by have := HRL.out; omega), HO.out.1]
      rw [e] at hS
      subst hu12
      go_wp2
      go_ret
      exact ⟨_, rfl, hS.ord, hS.bel⟩
end Go.Proofs.Ytnocdminhcpmpaa
