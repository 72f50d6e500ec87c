/-
  Contracts of the program's Logical, Turns, Is; mathematics of permutations and of what Logical makes. Condition: at most 1000 levels.
-/
import Derived.Test.YtnocdminhcpmpaaRof
set_option linter.unusedVariables false
set_option linter.unusedSimpArgs false
namespace Go.Proofs.Ytnocdminhcpmpaa
open Go.ChangeShapes Go.WideShapes Go.ChangeAt Go.RowKit Go.Sort

/-! permutations -/
theorem sub_perm {α : Type} [BEq α] [LawfulBEq α] : ∀ (s l : List α), s.Nodup → (∀ x ∈ s, x ∈ l) → l.length ≤ s.length → s.Perm l
  | [], l, _, _, h => by
    have : l = [] := List.eq_nil_of_length_eq_zero (by simpa using h)
    subst this
    exact List.Perm.refl _
  | x :: s, l, hn, hs, h => by
    rw [List.nodup_cons] at hn
    have hx := hs x (by simp)
    have h1 := List.perm_cons_erase hx
    have h2 := sub_perm s (l.erase x) hn.2 (fun y hy => by
      have hne : y ≠ x := fun e => hn.1 (e ▸ hy)
      exact (List.mem_erase_of_ne hne).2 (hs y (by simp [hy]))) (by
      rw [List.length_erase_of_mem hx]
      simp at h; omega)
    exact (List.Perm.cons x h2).trans h1.symm
theorem inN_range_nodup (n : Nat) : (inN (List.range n)).Nodup := by
  unfold inN
  unfold List.Nodup
  rw [List.pairwise_map]
  refine List.Pairwise.imp ?_ (List.nodup_range (n := n))
  intro a b h e
  exact h (by omega)
theorem mem_inN_range {n : Nat} {x : Int} : x ∈ inN (List.range n) ↔ 0 ≤ x ∧ x < n := by
  unfold inN
  rw [List.mem_map]
  constructor
  · rintro ⟨a, ha, rfl⟩
    rw [List.mem_range] at ha
    omega
  · rintro ⟨h1, h2⟩
    exact ⟨x.toNat, List.mem_range.2 (by omega), by omega⟩
/-- each number from 0 up is there -/
def isP (xs : List Int) : Bool := (List.range xs.length).all fun i => decide ((i : Int) ∈ xs)
theorem isP_true {xs : List Int} : isP xs = true ↔ ∀ i : Nat, i < xs.length → (i : Int) ∈ xs := by
  unfold isP
  rw [List.all_eq_true]
  constructor
  · intro h i hi
    exact of_decide_eq_true (h i (List.mem_range.2 hi))
  · intro h i hi
    exact decide_eq_true (h i (List.mem_range.1 hi))
theorem isP_perm {xs : List Int} (h : isP xs = true) : (inN (List.range xs.length)).Perm xs :=
  sub_perm _ _ (inN_range_nodup _) (fun x hx => by
    rw [mem_inN_range] at hx
    have := isP_true.1 h x.toNat (by omega)
    rwa [show ((x.toNat : Nat) : Int) = x by omega] at this) (by simp [inN])
theorem isP_of {xs : List Int} (h1 : ∀ x ∈ xs, 0 ≤ x ∧ x < xs.length) (h2 : xs.Nodup) : isP xs = true := by
  have := sub_perm xs (inN (List.range xs.length)) h2 (fun x hx => mem_inN_range.2 (h1 x hx)) (by simp [inN])
  rw [isP_true]
  intro i hi
  exact this.mem_iff.2 (mem_inN_range.2 (by omega))
theorem isP_out {xs : List Int} {x : Int} (hx : x ∈ xs) (h : ¬ (0 ≤ x ∧ x < xs.length)) : isP xs = false := by
  cases hp : isP xs with
  | false => rfl
  | true => exact absurd (mem_inN_range.1 ((isP_perm hp).mem_iff.2 hx)) h
theorem isP_twice {xs : List Int} {k : Nat} {x : Int} (hk : xs[k]? = some x) (h : x ∈ xs.take k) : isP xs = false := by
  cases hp : isP xs with
  | false => rfl
  | true =>
    exfalso
    have hn : xs.Nodup := (isP_perm hp).nodup (inN_range_nodup _)
    have hlt := (List.getElem?_eq_some_iff.1 hk).1
    have e : xs = xs.take k ++ x :: xs.drop (k + 1) := by
      have h1 := (List.take_append_drop k xs).symm
      rw [List.drop_eq_getElem_cons hlt] at h1
      rw [List.getElem?_eq_getElem hlt] at hk
      injection hk with hk
      rwa [hk] at h1
    rw [e] at hn
    have := (List.nodup_append.1 hn).2.2 x h x (by simp)
    exact this rfl
theorem isP_ord (lv : Nat → Nat) (n : Nat) : isP (inN (ordX lv n)) = true := by
  rw [isP_true, inN_len, ord_len]
  intro i hi
  exact List.mem_map.2 ⟨i, (ord_perm lv n).mem_iff.2 (List.mem_range.2 hi), rfl⟩

/-! the places -/
def putK (n : Nat) (O : List Nat) : Nat → List Int
  | 0 => List.replicate n 0
  | k + 1 => (putK n O k).set (O.getD k 0) (k : Int)
theorem put_len (n : Nat) (O : List Nat) : ∀ k, (putK n O k).length = n
  | 0 => by simp [putK]
  | k + 1 => by rw [putK, List.length_set]; exact put_len n O k
theorem put_get (n : Nat) (O : List Nat) (hO : ∀ x ∈ O, x < n) (hn : O.Nodup) : ∀ (k i : Nat), i < k → k ≤ O.length → (putK n O k)[O.getD i 0]? = some (i : Int)
  | 0, i, h, _ => by omega
  | k + 1, i, h, hk => by
    have hgd : ∀ j, j < O.length → O[j]? = some (O.getD j 0) := fun j hj => by rw [List.getD_eq_getElem?_getD, List.getElem?_eq_getElem hj]; rfl
    rw [putK, List.getElem?_set, put_len]
    by_cases e : i = k
    · subst e
      rw [if_pos rfl, if_pos (hO _ (List.mem_of_getElem? (hgd i (by omega))))]
    · have hne : O.getD k 0 ≠ O.getD i 0 := fun e2 => by
        have h1 := hgd k (by omega)
        have h2 := hgd i (by omega)
        rw [e2, ← h2] at h1
        exact e ((List.getElem?_inj (by omega) hn).1 h1).symm
      rw [if_neg hne]
      exact put_get n O hO hn k i (by omega) (by omega)
theorem ord_nodup (lv : Nat → Nat) (n : Nat) : (ordX lv n).Nodup := (ord_perm lv n).symm.nodup List.nodup_range
theorem ord_get (lv : Nat → Nat) (n k : Nat) (h : k < n) : (ordX lv n)[k]? = some ((ordX lv n).getD k 0) := by
  rw [List.getD_eq_getElem?_getD, List.getElem?_eq_getElem (by rw [ord_len]; exact h)]; rfl
theorem ord_getlt (lv : Nat → Nat) (n k : Nat) (h : k < n) : (ordX lv n).getD k 0 < n := ord_lt lv n (List.mem_of_getElem? (ord_get lv n k h))

theorem run_made (n : Nat) (hn : n ≤ 1000) (W : World) : (Instr.makeSlice 22 (.int .i64 (n : Int)) (.int .i64 (n : Int))).run Try.prog W = .ok (.slice (some ⟨W.heap.size, 0, none⟩) n n) (W.alloc (.cells (madeCells #[Value.int .i64 0] n) 3)) := by
  obtain ⟨i, hi, hzz⟩ := Option.map_eq_some_iff.1 fullI
  simp only [Prod.mk.injEq] at hzz
  obtain ⟨hz, hs, hb⟩ := hzz
  have := run_make (P := Try.prog) W 22 3 i (.int .i64 0) Try.underlying22 hi hz .i64 .i64 (n : Int) (n : Int) (by omega) (by omega) (by rw [hb]; omega) (by omega)
  rw [this, hs, Nat.mul_one]
  rfl
theorem mine_zero {w : World} {n : Nat} (hn : n ≤ 1000) : Mine .i64 3 (w.alloc (.cells (madeCells #[Value.int .i64 0] n) 3)) w.heap.size (.slice (some ⟨w.heap.size, 0, none⟩) n n) (List.replicate n 0) := by
  have e : madeCells #[Value.int .i64 0] n = ((List.replicate n (0 : Int)).map (Value.int .i64)).toArray := by
    have e1 : (madeCells #[Value.int .i64 0] n).toList = (List.replicate n (0 : Int)).map (Value.int .i64) := by
      unfold madeCells
      apply List.ext_getElem?
      intro i
      simp
      rcases Nat.lt_or_ge i n with h | h
      · simp [h, Nat.mod_one]
      · simp [Nat.not_lt.2 h]
    exact congrArg List.toArray e1
  rw [e]
  refine ⟨by simp, .inr ⟨w.heap.size, n, _, by simp, Nat.le_refl _, heap_alloc_new w _, by simp, by unfold maxLen; omega, by simp, ?_⟩⟩
  rw [List.length_replicate]
  exact List.take_of_length_le (by simp)
/-- what Logical holds: the places so far, and the order, apart -/
structure LogS (w : World) (B : Nat) (wr : World) (u v : Value) (n : Nat) (O : List Nat) (k : Nat) : Prop where
  pls : Mine .i64 3 wr B u (putK n O k)
  ord : Mine .i64 3 wr B v (inN O)
  far : Apart u v
  bel : Below B w wr
theorem LogS.step {w wr : World} {B n m c k x : Nat} {A : Option Addr} {v : Value} {O : List Nat} (h : LogS w B wr (.slice A m c) v n O k) (hx : O[k]? = some x) (hxn : x < n) :
    ∃ g y, A = some ⟨g, 0, none⟩ ∧ wr.cell? ⟨g, x, none⟩ = some y ∧ wr.frozen? ⟨g, x, none⟩ = false ∧ LogS w B (wr.setCell ⟨g, x, none⟩ (.int .i64 (k : Int))) (.slice A m c) v n O (k + 1) := by
  have hlt : x < (putK n O k).length := by rw [put_len]; exact hxn
  obtain ⟨g, rfl, hgB, hg, hc, hf, hs⟩ := h.pls.spot (List.getElem?_eq_getElem hlt)
  refine ⟨g, _, rfl, hc, hf, ?_, h.ord.stays fun b hb _ => Below.heap_setCell _ _ _ _ (fun e => h.far g rfl (by have e2 : b = g := e; rw [← e2]; exact hb)), h.far, h.bel.setCell (p := ⟨g, x, none⟩) hgB _⟩
  have := hs (k : Int)
  rw [putK, List.getD_eq_getElem?_getD, hx]
  exact this
set_option maxRecDepth 20000 in
set_option maxHeartbeats 4000000 in
theorem logical_ok (A : Option Addr) (n c : Nat) (xs : List Int) (w : World) (hn : n = xs.length) (hmax : n ≤ 1000) (h : Has w w.heap.size A (xs.map (Value.int .i64))) :
    Calls Try.prog 13 #[.slice A n c] w fun e w' => ∃ v, e = .returned v ∧ Mine .i64 3 w' w.heap.size v (putK n (ordX (lvX xs) n) n) ∧ Below w.heap.size w w' := by
  have HV := Lib.hid (fun (W : World) (hb : Below w.heap.size w W) => visual_ok A n c xs W hn hmax ((h.below hb).more hb.size))
  have HMK := fun W => run_made n hmax W
  have HG := Lib.hid (fun k h => ord_get (lvX xs) n k h)
  have HLT := Lib.hid (fun k h => ord_getlt (lvX xs) n k h)
  have HOL := Lib.hid (ord_len (lvX xs) n)
  generalize ordX (lvX xs) n = O at *
  clear h hn
  go_enter Try.func13, Try.ntmps13
  go_wp2_with (first
    | (go_at_call 11; (with_reducible refine (HV.out _ ((Below.refl _ _).alloc (Nat.le_refl _) _)).mono ?_); rintro x z0 ⟨v, rfl, m0, b0⟩; obtain ⟨A2, c2, rfl, hc2, _, _⟩ := m0.size))
  rw [inN_len, HOL.out]
  have hm1 := mine_zero (w := w) (n := n) hmax
  have hsz : (w.alloc (.cells (madeCells #[Value.int .i64 0] n) 3)).heap.size = w.heap.size + 1 := by simp
  have HM0 : Hid (LogS w w.heap.size z0 (.slice (some ⟨w.heap.size, 0, none⟩) n n) (.slice A2 n c2) n O 0) := Lib.hid (by
    have hb1 : Below w.heap.size w (w.alloc (.cells (madeCells #[Value.int .i64 0] n) 3)) := (Below.refl _ _).alloc (Nat.le_refl _) _
    rw [inN_len, HOL.out] at m0
    refine ⟨hm1.stays fun b _ hlt => b0.block b hlt, m0.low (by rw [hsz]; omega), fun b hb e => ?_, hb1.trans (b0.mono (by rw [hsz]; omega))⟩
    have h1 : some w.heap.size = some b := hb
    injection h1 with h1
    have h2 := (m0.own_lt b e).1
    omega)
  clear hm1 m0 b0 hsz HV hc2 HMK
  obtain ⟨G, hG⟩ : ∃ G, w.heap.size = G := ⟨_, rfl⟩
  rw [hG] at HM0
  simp only [hG]
  go_loopw [12] (fun v wr => ∃ k : Nat, k ≤ n ∧ v = .int .i64 k ∧ Hid (LogS w G wr (.slice (some ⟨G, 0, none⟩) n n) (.slice A2 n c2) n O k)) (fun v _ => n - (intOf v).toNat)
  case atStart => exact ⟨0, by omega, rfl, HM0⟩
  case round =>
    clear HM0
    obtain ⟨k, hkn, rfl, HM⟩ := hrel
    by_cases hlt : k < n
    · have hx := HG.out k hlt
      have hxn := HLT.out k hlt
      generalize O.getD k 0 = x at *
      obtain ⟨g, y, hgg, hc, hf, hS⟩ := HM.out.step hx hxn
      injection hgg with hgg
      injection hgg with hgg
      subst hgg
      have hv := HM.out.ord.spot (inN_get O k x hx)
      obtain ⟨g2, rfl, _, _, hc2, _, _⟩ := hv
      have HS := Lib.hid hS
      clear hS HM hx
      go_wp2
      go_roundw
      case rel => exact ⟨k + 1, by omega, by go_num, HS⟩
      case measure => simp [intOf] <;> omega
    · obtain rfl : k = n := by omega
      go_wp2
      go_ret
      exact ⟨_, rfl, by rw [hG]; exact HM.out.pls, by rw [hG]; exact HM.out.bel⟩

/-! Turns -/
theorem tS_le (lv : Nat → Nat) (lo : Nat) (h : ∀ i, lv i ≤ 126) (hlo : lo ≤ 127) : ∀ k, tS lv lo k ≤ 127 * k ∧ befK lv lo k ≤ 126
  | 0 => ⟨by simp [tS], by show lo - 1 ≤ 126; omega⟩
  | k + 1 => by
    have := (tS_le lv lo h hlo k).1
    have h1 := h k
    refine ⟨?_, ?_⟩
    · rw [tS]; omega
    · rw [befK]; omega
set_option maxRecDepth 20000 in
set_option maxHeartbeats 4000000 in
theorem turns_ok (A : Option Addr) (n c : Nat) (xs : List Int) (w : World) (hn : n = xs.length) (hmax : n ≤ 1000) (h : Has w w.heap.size A (xs.map (Value.int .i64))) :
    Calls Try.prog 18 #[.slice A n c] w fun e w' => e = .returned (.int .i64 (trnX (lvX xs) n : Int)) ∧ w = w' := by
  have HR := Lib.hid (prounds_ok A n c xs w hn hmax h)
  have HN := Lib.hid hn
  have HH := Lib.hid h
  rw [trn_all (lvX xs) n fun i => lv_le xs i]
  obtain ⟨lo, hlo⟩ : ∃ lo, lowK (lvX xs) n = lo := ⟨_, rfl⟩
  have hlo1 : 1 ≤ lo ∧ lo ≤ 127 := by rw [← hlo]; exact ⟨by have := low_odd (lv := lvX xs) n; omega, low_le127 _⟩
  rw [hlo] at HR
  rw [hlo]
  have HB := Lib.hid (fun k => tS_le (lvX xs) lo (fun i => lv_le xs i) hlo1.2 k)
  obtain ⟨l1, hl1⟩ : ∃ l1, lo = l1 + 1 := ⟨lo - 1, by omega⟩
  subst hl1
  clear hn h hlo
  go_enter Try.func18, Try.ntmps18
  go_wp2_with (first
    | (go_at_call 27; (with_reducible refine HR.out.mono ?_); rintro x u ⟨rfl, rfl⟩))
  clear HR
  go_loopw [6, 7, 20] (fun v6 v7 v20 wr => ∃ k : Nat, k ≤ n ∧ v20 = .int .i64 k ∧ ∃ t b : Nat, v6 = .int .i64 t ∧ v7 = .int .i64 b ∧ Hid (t = tS (lvX xs) (l1 + 1) k ∧ b = befK (lvX xs) (l1 + 1) k) ∧ wr = w) (fun _ _ v _ => n - (intOf v).toNat)
  case atStart => exact ⟨0, by omega, rfl, 0, l1, rfl, by go_num, Lib.hid ⟨rfl, rfl⟩, rfl⟩
  case round =>
    obtain ⟨k, hkn, rfl, t, b, rfl, rfl, HS, rfl⟩ := hrel
    by_cases hlt : k < n
    · have hk1 : k < xs.length := by have := HN.out; omega
      obtain ⟨b0, o0, rfl, hb0, hcc⟩ := HH.out.at_int hk1
      have hlv : lvX xs k = clP xs[k] := by unfold lvX; rw [List.getD_eq_getElem?_getD, List.getElem?_eq_getElem hk1]; rfl
      have HCL := Lib.hid (fun W => clamp_ok xs[k] W)
      rw [← hlv] at HCL
      have hst1 : tS (lvX xs) (l1 + 1) (k + 1) = tS (lvX xs) (l1 + 1) k + (max (lvX xs k) (l1 + 1 - 1) - befK (lvX xs) (l1 + 1) k) := rfl
      have hst2 : befK (lvX xs) (l1 + 1) (k + 1) = max (lvX xs k) (l1 + 1 - 1) := rfl
      obtain ⟨e1, e2⟩ := HS.out
      obtain ⟨hb1, hb2⟩ := HB.out k
      have hV := lv_le xs k
      rw [← e1] at hst1 hb1
      rw [← e2] at hst1 hb2
      generalize xs[k] = X at *
      generalize lvX xs k = V at *
      obtain ⟨M, hM⟩ : ∃ M : Int, max (V : Int) (l1 : Int) = M := ⟨_, rfl⟩
      obtain ⟨m, hm⟩ : ∃ m : Int, max (M - (b : Int)) 0 = m := ⟨_, rfl⟩
      have hM2 : M = ((max V (l1 + 1 - 1) : Nat) : Int) := by omega
      have hm2 : (t : Int) + m = ((t + (max V (l1 + 1 - 1) - b) : Nat) : Int) := by omega
      have hMb : 0 ≤ M ∧ M ≤ 126 := by omega
      have hmb : 0 ≤ m ∧ m ≤ 126 := by omega
      have htb : t ≤ 127000 := by omega
      have HS2 : Hid (t + (max V (l1 + 1 - 1) - b) = tS (lvX xs) (l1 + 1) (k + 1) ∧ max V (l1 + 1 - 1) = befK (lvX xs) (l1 + 1) (k + 1)) := Lib.hid ⟨hst1.symm, hst2.symm⟩
      have HM2 := Lib.hid (And.intro hM2 hm2)
      clear hst1 hst2 e1 e2 HS hlv hk1 hM2 hm2
      go_wp2_with (first
        | (go_at_call 30; (with_reducible refine (HCL.out _).mono ?_); rintro x u ⟨rfl, rfl⟩)
        | (refine wpList_max rfl _ _ _ rfl (V : Int) (l1 : Int) rfl rfl M hM ?_)
        | (refine wpList_max rfl _ _ _ rfl (M - (b : Int)) 0 rfl rfl m hm ?_))
      go_roundw
      case rel => exact ⟨k + 1, by omega, by go_num, _, _, by rw [← HM2.out.2], by rw [HM2.out.1], HS2, by trivial⟩
      case measure => simp [intOf] <;> omega
    · obtain rfl : k = n := by omega
      go_wp2
      go_ret
      exact ⟨by rw [← HS.out.1]; rfl, rfl⟩

/-! Is -/
def LBo : Lay Bool := ⟨fun b => [.bool b], 1, fun _ => rfl, fun b u hu => by simp at hu; subst hu; rfl⟩
theorem fullB : (Try.prog.info? 4).map (fun i => (i.zero, i.size, i.bytes)) = some (some (.bool false), 1, 1) := by kernel_rfl
theorem run_bools (n : Nat) (hn : n ≤ 1000) (W : World) : (Instr.makeSlice 41 (.int .i64 (n : Int)) (.int .i64 (n : Int))).run Try.prog W = .ok (.slice (some ⟨W.heap.size, 0, none⟩) n n) (W.alloc (.cells (madeCells #[Value.bool false] n) 4)) := by
  obtain ⟨i, hi, hzz⟩ := Option.map_eq_some_iff.1 fullB
  simp only [Prod.mk.injEq] at hzz
  obtain ⟨hz, hs, hb⟩ := hzz
  have := run_make (P := Try.prog) W 41 4 i (.bool false) Try.underlying41 hi hz .i64 .i64 (n : Int) (n : Int) (by omega) (by omega) (by rw [hb]; omega) (by omega)
  rw [this, hs, Nat.mul_one]
  rfl
/-- of the numbers below n, which have come -/
def seenF (xs : List Int) (n k : Nat) : List Bool := (List.range n).map fun x : Nat => decide ((x : Int) ∈ xs.take k)
theorem cells_bools : ∀ l : List Bool, cellsN LBo l = l.map Value.bool
  | [] => rfl
  | b :: l => by rw [cellsN_cons, cells_bools l]; rfl
theorem mine_bools {w : World} {n : Nat} (xs : List Int) (hn : n ≤ 1000) : MineN LBo 4 (w.alloc (.cells (madeCells #[Value.bool false] n) 4)) w.heap.size (.slice (some ⟨w.heap.size, 0, none⟩) n n) (seenF xs n 0) := by
  have e0 : seenF xs n 0 = List.replicate n false := by
    unfold seenF
    rw [List.eq_replicate_iff]
    refine ⟨by simp, fun b hb => ?_⟩
    obtain ⟨x, _, rfl⟩ := List.mem_map.1 hb
    simp
  have e : (madeCells #[Value.bool false] n).toList = (List.replicate n false).map Value.bool := by
    unfold madeCells
    apply List.ext_getElem?
    intro i
    simp
    rcases Nat.lt_or_ge i n with h | h
    · simp [h, Nat.mod_one]
    · simp [Nat.not_lt.2 h]
  have hl : (madeCells #[Value.bool false] n).size = n := by simp [madeCells]
  rw [e0]
  refine ⟨length_cellsN _, .inr ⟨w.heap.size, n, _, by simp, Nat.le_refl _, heap_alloc_new w _, by simp, by unfold maxLen; omega, by rw [hl]; exact (Nat.mul_one n).symm, ?_⟩⟩
  rw [List.length_replicate, e, cells_bools]
  exact List.take_of_length_le (by simp [LBo])
theorem seen_len (xs : List Int) (n k : Nat) : (seenF xs n k).length = n := by simp [seenF]
theorem seen_get (xs : List Int) (n k x : Nat) (hx : x < n) : (seenF xs n k)[x]? = some (decide ((x : Int) ∈ xs.take k)) := by
  unfold seenF
  rw [List.getElem?_map, List.getElem?_range hx]; rfl
theorem seen_step (xs : List Int) (n k x : Nat) (hk : xs[k]? = some (x : Int)) : (seenF xs n k).set x true = seenF xs n (k + 1) := by
  apply List.ext_getElem?
  intro j
  rw [List.getElem?_set, seen_len]
  have ht : xs.take (k + 1) = xs.take k ++ [(x : Int)] := by rw [List.take_add_one, hk]; rfl
  by_cases hj : j < n
  · rw [seen_get xs n (k + 1) j hj, seen_get xs n k j hj, ht]
    by_cases e : x = j
    · subst e
      rw [if_pos rfl, if_pos hj]
      simp
    · rw [if_neg e]
      congr 1
      rw [decide_eq_decide, List.mem_append]
      constructor
      · exact .inl
      · rintro (h | h)
        · exact h
        · simp at h; omega
  · have h1 : (seenF xs n (k + 1))[j]? = none := List.getElem?_eq_none (by rw [seen_len]; omega)
    have h2 : (seenF xs n k)[j]? = none := List.getElem?_eq_none (by rw [seen_len]; omega)
    rw [h1, h2]
    split
    · rw [if_neg (by omega)]
    · rfl
set_option maxRecDepth 20000 in
set_option maxHeartbeats 4000000 in
theorem is_ok (A : Option Addr) (n c : Nat) (xs : List Int) (w : World) (hn : n = xs.length) (hmax : n ≤ 1000) (h : Has w w.heap.size A (xs.map (Value.int .i64))) :
    Calls Try.prog 20 #[.slice A n c] w fun e w' => e = .returned (.bool (isP xs)) ∧ Below w.heap.size w w' := by
  have HN := Lib.hid hn
  have HH := Lib.hid (fun (W : World) (hb : Below w.heap.size w W) => (h.below hb).more hb.size)
  have HMK := fun W => run_bools n hmax W
  have hm1 := mine_bools (w := w) (n := n) xs hmax
  obtain ⟨r, hr⟩ : ∃ r, isP xs = r := ⟨_, rfl⟩
  have HP := Lib.hid hr
  rw [hr]
  clear h hn hr
  have HM0 := Lib.hid (And.intro hm1 ((Below.refl w.heap.size w).alloc (Nat.le_refl _) (.cells (madeCells #[Value.bool false] n) 4)))
  clear hm1
  go_enter Try.func20, Try.ntmps20
  go_wp2
  obtain ⟨G, hG⟩ : ∃ G, w.heap.size = G := ⟨_, rfl⟩
  rw [hG] at HM0
  simp only [hG]
  go_loopw [11] (fun v wr => ∃ k : Nat, k ≤ n ∧ v = .int .i64 k ∧ Hid ((∀ x ∈ xs.take k, 0 ≤ x ∧ x < n) ∧ (xs.take k).Nodup) ∧ Hid (MineN LBo 4 wr G (.slice (some ⟨G, 0, none⟩) n n) (seenF xs n k) ∧ Below G w wr)) (fun v _ => n - (intOf v).toNat)
  case atStart => exact ⟨0, by omega, rfl, Lib.hid ⟨(fun x hx => by simp at hx), by simp⟩, HM0⟩
  case round =>
    clear HM0 HMK
    obtain ⟨k, hkn, rfl, HC, HM⟩ := hrel
    have hbel := HM.out.2
    by_cases hlt : k < n
    · have hk1 : k < xs.length := by have := HN.out; omega
      obtain ⟨b0, o0, rfl, hb0, hcc⟩ := (HH.out _ (by rw [hG]; exact hbel)).at_int hk1
      have hx : xs[k]? = some xs[k] := List.getElem?_eq_getElem hk1
      have hmem : xs[k] ∈ xs := List.getElem_mem hk1
      obtain ⟨x, hxe⟩ : ∃ x, xs[k] = x := ⟨_, rfl⟩
      rw [hxe] at hx hmem hcc
      clear hxe
      by_cases h0 : x < 0
      · have hp : r = false := by rw [← HP.out]; exact isP_out hmem (by have := HN.out; omega)
        clear hx hmem HC HM HH HN hb0 hk1
        go_wp2
        go_ret
        exact ⟨by first | rfl | (rw [hp]; rfl), by first | exact hbel | (rw [hG]; exact hbel)⟩
      · by_cases h1 : x < n
        · obtain ⟨q, rfl⟩ : ∃ q : Nat, x = (q : Int) := ⟨x.toNat, by omega⟩
          have hq : q < n := by omega
          have h0' : ¬ ((q : Int) < 0) := by omega
          have h1' : ¬ ((n : Int) ≤ (q : Int)) := by omega
          have hs := seen_get xs n k q hq
          have hc := MineN.cellAt (q := 0) HM.out.1 hs rfl
          have hc' : wr.cell? ⟨G, q, none⟩ = some (.bool (decide ((q : Int) ∈ xs.take k))) := by
            have : wr.cell? ⟨G, q * 1 + 0, none⟩ = some (.bool (decide ((q : Int) ∈ xs.take k))) := hc
            rwa [Nat.mul_one, Nat.add_zero] at this
          have hf : wr.frozen? ⟨G, q, none⟩ = false := MineN.free HM.out.1 q
          clear hc
          cases hd : decide ((q : Int) ∈ xs.take k) with
          | true =>
            rw [hd] at hc'
            have hp : r = false := by rw [← HP.out]; exact isP_twice hx (of_decide_eq_true hd)
            clear hx hmem HC HM HH HN hb0 hk1 hs hd
            go_wp2
            go_ret
            exact ⟨by first | rfl | (rw [hp]; rfl), by first | exact hbel | (rw [hG]; exact hbel)⟩
          | false =>
            rw [hd] at hc'
            have hset : MineN LBo 4 (wr.setCell ⟨G, q, none⟩ (.bool true)) G (.slice (some ⟨G, 0, none⟩) n n) (seenF xs n (k + 1)) := by
              rw [← seen_step xs n k q hx]
              have := MineN.set (q := 0) (y := true) HM.out.1 hs (by decide) rfl
              have this2 : MineN LBo 4 (wr.setCell ⟨G, q * 1 + 0, none⟩ (.bool true)) G (.slice (some ⟨G, 0, none⟩) n n) ((seenF xs n k).set q true) := this
              rwa [Nat.mul_one, Nat.add_zero] at this2
            have HS2 := Lib.hid (And.intro hset (hbel.setCell (p := ⟨G, q, none⟩) (Nat.le_refl _) (.bool true)))
            have HC2 : Hid ((∀ x ∈ xs.take (k + 1), 0 ≤ x ∧ x < n) ∧ (xs.take (k + 1)).Nodup) := Lib.hid (by
              have ht : xs.take (k + 1) = xs.take k ++ [(q : Int)] := by rw [List.take_add_one, hx]; rfl
              rw [ht]
              refine ⟨fun x hx => ?_, ?_⟩
              · rw [List.mem_append] at hx
                rcases hx with hx | hx
                · exact HC.out.1 x hx
                · simp at hx; omega
              · rw [List.nodup_append]
                refine ⟨HC.out.2, by simp, fun a ha b hb e => ?_⟩
                simp at hb
                subst hb
                subst e
                exact of_decide_eq_false hd ha)
            clear hx hmem HC HM hb0 hk1 hs hd hset hbel
            go_wp2
            go_roundw
            case rel => exact ⟨k + 1, by omega, by go_num, HC2, HS2⟩
            case measure => simp [intOf] <;> omega
        · have hp : r = false := by rw [← HP.out]; exact isP_out hmem (by have := HN.out; omega)
          have h1' : (n : Int) ≤ x := by omega
          clear hx hmem HC HM HH HN hb0 hk1
          go_wp2
          go_ret
          exact ⟨by first | rfl | (rw [hp]; rfl), by first | exact hbel | (rw [hG]; exact hbel)⟩
    · obtain rfl : k = n := by omega
      have hp : r = true := by
        rw [← HP.out]
        have ht : xs.take k = xs := List.take_of_length_le (by have := HN.out; omega)
        have := HC.out
        rw [ht] at this
        exact isP_of (fun x hx => by have := this.1 x hx; have := HN.out; omega) this.2
      clear HC HM
      go_wp2
      go_ret
      exact ⟨by first | rfl | (rw [hp]; rfl), by first | exact hbel | (rw [hG]; exact hbel)⟩
end Go.Proofs.Ytnocdminhcpmpaa
