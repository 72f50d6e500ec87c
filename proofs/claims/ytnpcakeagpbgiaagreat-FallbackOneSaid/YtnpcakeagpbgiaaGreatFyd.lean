/-
  Layer 22: a code point is looked up among mappings in the order of their code points; Text: the glyphs of a text. Condition: at most 1000000 mappings and code points.
-/
import Derived.Test.YtnpcakeagpbgiaaGreatFzb
import Derived.Test.YtnpcakeagpbgiaaGreatZFbr
set_option linter.unusedVariables false
set_option linter.unusedSimpArgs false
namespace Go.Proofs.YtnpcakeagpbgiaaGreat
open Go.ChangeShapes Go.WideShapes Go.ChangeAt Go.RowKit Go.Sort

theorem findc_ok (x : mapS.Dat) (r : Int) (w : World) : Calls Tryz.prog 76 #[.agg #[.int .i32 x.1, .int .i64 x.2.1], .int .i32 r] w fun e w' => e = .returned (.int .i64 (cmpI x.1 r)) ∧ Up w w' := by
  obtain ⟨a, ha⟩ : ∃ a : Int, x.1 = a := ⟨_, rfl⟩
  obtain ⟨b, hb⟩ : ∃ b : Int, x.2.1 = b := ⟨_, rfl⟩
  rw [ha, hb]
  clear ha hb
  have HC := Lib.hid (compare_ok a r)
  go_enter Tryz.func76, Tryz.ntmps76
  go_wp2_with (go_at_call 71; (with_reducible refine (HC.out _).mono ?_); rintro e u ⟨rfl, rfl⟩)
  go_ret
  exact ⟨rfl, (Up.refl _).alloc _⟩
/-- between i and j the place is looked for -/
structure HalfAt (M : List mapS.Dat) (n : Nat) (r : Int) (i j : Nat) : Prop where
  lo : ∀ y, 0 < i → M[i - 1]? = some y → keyM y < r
  hi : ∀ y, j < n → M[j]? = some y → r ≤ keyM y
/-- what is found -/
def FoundAt (M : List mapS.Dat) (r : Int) (i : Nat) (b : Bool) : Prop := (b = true → (∃ x, M[i]? = some x ∧ gF M r = x.2.1) ∧ inF M r = true) ∧ (b = false → inF M r = false)
theorem HalfAt.low {M : List mapS.Dat} {n i : Nat} {r : Int} (h : HalfAt M n r i i) (hs : SortedOn keyM M 0 n) (hn : n = M.length) (hi : i ≤ n) {j : Nat} {x : mapS.Dat} (hj : j < i) (hx : M[j]? = some x) : keyM x < r := by
  obtain ⟨y, hy⟩ : ∃ y, M[i - 1]? = some y := ⟨_, List.getElem?_eq_getElem (by omega)⟩
  have h1 := h.lo y (by omega) hy
  by_cases e : j = i - 1
  · subst e; rw [hx] at hy; cases hy; exact h1
  · have := hs j (i - 1) x y (Nat.zero_le _) (by omega) (by omega) hx hy
    omega
theorem HalfAt.found {M : List mapS.Dat} {n i : Nat} {r : Int} (h : HalfAt M n r i i) (hs : SortedOn keyM M 0 n) (hn : n = M.length) {x : mapS.Dat} (hx : M[i]? = some x) (he : x.1 = r) : FoundAt M r i true := by
  obtain ⟨hlt, hxe⟩ := List.getElem?_eq_some_iff.1 hx
  refine ⟨fun _ => ⟨⟨x, hx, ?_⟩, List.any_eq_true.2 ⟨x, List.mem_of_getElem? hx, by simpa using he⟩⟩, (fun h => by cases h)⟩
  rw [gF_first M i r hlt (by rw [hxe]; exact he) fun j hj e => by
    have h2 : keyM M[j] < r := h.low hs hn (by omega) hj (List.getElem?_eq_getElem (by omega))
    have h3 : keyM M[j] = r := e
    omega, hxe]
theorem HalfAt.none_ {M : List mapS.Dat} {n i : Nat} {r : Int} (h : HalfAt M n r i i) (hs : SortedOn keyM M 0 n) (hn : n = M.length) (hi : i ≤ n) (hne : ∀ x, i < n → M[i]? = some x → ¬ x.1 = r) : FoundAt M r i false := by
  refine ⟨(fun h => by cases h), fun _ => ?_⟩
  rw [inF, List.any_eq_false]
  intro z hz
  obtain ⟨j, hj⟩ := List.getElem?_of_mem hz
  have hjl := (List.getElem?_eq_some_iff.1 hj).1
  have : ¬ z.1 = r := fun e => by
    by_cases c : j < i
    · have h2 : keyM z < r := h.low hs hn hi c hj
      have h3 : keyM z = r := e
      omega
    · obtain ⟨x, hx⟩ : ∃ x, M[i]? = some x := ⟨_, List.getElem?_eq_getElem (by omega)⟩
      have h1 := hne x (by omega) hx
      have h2 : r ≤ keyM x := h.hi x (by omega) hx
      by_cases e2 : j = i
      · subst e2; rw [hj] at hx; cases hx; exact h1 e
      · have h3 : keyM x ≤ keyM z := hs i j x z (Nat.zero_le _) (by omega) (by omega) hx hj
        have h4 : keyM z = r := e
        have h5 : ¬ keyM x = r := h1
        omega
  simpa using this
set_option maxRecDepth 20000 in
set_option maxHeartbeats 4000000 in
theorem searchF_ok (A : Option Addr) (n c : Nat) (M : List mapS.Dat) (r : Int) (w : World) (hn : n = M.length) (hmax : n ≤ 1000000) (h : HasN mapS.lay w w.heap.size A M) (hs : SortedOn keyM M 0 n) :
    Calls Tryz.prog 75 #[.slice A n c, .int .i32 r, .func (.func 76) #[] #[]] w fun e w' =>
      ∃ (i : Nat) (b : Bool), e = .returned (.tuple #[.int .i64 i, .bool b]) ∧ FoundAt M r i b ∧ Up w w' := by
  have HN := Lib.hid hn
  have HS := Lib.hid hs
  have HH := Lib.hid (fun (W : World) (hu : Up w W) => h.up hu)
  clear h hn hs
  go_enter Tryz.func75, Tryz.ntmps75
  go_wp2
  go_loopw [9, 10] (fun u v wr => ∃ (i j : Nat), (i ≤ j ∧ j ≤ n) ∧ u = .int .i64 i ∧ v = .int .i64 j ∧ Hid (HalfAt M n r i j ∧ Up w wr)) (fun u v _ => (intOf v).toNat - (intOf u).toNat)
  case atStart => exact ⟨0, n, by omega, rfl, rfl, Lib.hid ⟨⟨fun y h => absurd h (by omega), fun y h => absurd h (by omega)⟩, Up.refl _⟩⟩
  case round =>
    obtain ⟨i, j, ⟨hij, hjn⟩, rfl, rfl, HM⟩ := hrel
    by_cases hlt : i < j
    · obtain ⟨k, hk⟩ : ∃ k, (i + j) / 2 = k := ⟨_, rfl⟩
      have hkI : ((i : Int) + (j : Int)) / 2 = (k : Int) := by omega
      have hkn : k < n := by omega
      have hik : i ≤ k := by omega
      have hkj : k < j := by omega
      obtain ⟨x, hx⟩ : ∃ x, M[k]? = some x := ⟨_, List.getElem?_eq_getElem (by rw [← HN.out]; exact hkn)⟩
      obtain ⟨b, off, hA, hb, ca1, ca2⟩ := map_cells (HH.out _ HM.out.2) hx
      subst hA
      obtain ⟨q, hq⟩ : ∃ q, cmpI x.1 r = q := ⟨_, rfl⟩
      have HC := Lib.hid (findc_ok x r)
      rw [hq] at HC
      have hql : q < 0 ↔ x.1 < r := by rw [← hq]; exact cmpI_neg _ _
      have HU := Lib.hid (fun (u : World) (hu : Up wr u) => (HM.out.2.trans hu : Up w u))
      by_cases hq0 : q < 0
      · have HE : Hid (HalfAt M n r (k + 1) j) := Lib.hid ⟨fun y _ hy => by
          rw [show k + 1 - 1 = k by omega, hx] at hy; cases hy; exact hql.1 hq0, HM.out.1.hi⟩
        clear HM hx hq hql hk hb
        go_wp2_with (go_at_call 76; (refine (HC.out _).mono ?_); rintro e u ⟨rfl, hu⟩)
        have HF := Lib.hid (HU.out u hu)
        clear HU HC hu
        go_roundw
        case rel => exact ⟨k + 1, j, by omega, by go_num, rfl, Lib.hid ⟨HE.out, HF.out⟩⟩
        case measure => simp [intOf] <;> omega
      · have HE : Hid (HalfAt M n r i k) := Lib.hid ⟨HM.out.1.lo, fun y _ hy => by
          rw [hx] at hy; cases hy
          exact Int.not_lt.1 fun c => hq0 (hql.2 c)⟩
        clear HM hx hq hql hk hb
        go_wp2_with (go_at_call 76; (refine (HC.out _).mono ?_); rintro e u ⟨rfl, hu⟩)
        have HF := Lib.hid (HU.out u hu)
        clear HU HC hu
        go_roundw
        case rel => exact ⟨i, k, by omega, rfl, by go_num, Lib.hid ⟨HE.out, HF.out⟩⟩
        case measure => simp [intOf] <;> omega
    · obtain rfl : i = j := by omega
      by_cases hin : i < n
      · obtain ⟨x, hx⟩ : ∃ x, M[i]? = some x := ⟨_, List.getElem?_eq_getElem (by rw [← HN.out]; exact hin)⟩
        obtain ⟨b, off, hA, hb, ca1, ca2⟩ := map_cells (HH.out _ HM.out.2) hx
        subst hA
        obtain ⟨q, hq⟩ : ∃ q, cmpI x.1 r = q := ⟨_, rfl⟩
        have HC := Lib.hid (findc_ok x r)
        rw [hq] at HC
        have hqz : q = 0 ↔ x.1 = r := by rw [← hq]; exact cmpI_zero _ _
        have HU := Lib.hid (fun (u : World) (hu : Up wr u) => (HM.out.2.trans hu : Up w u))
        by_cases hq0 : q = 0
        · have HE : Hid (FoundAt M r i true) := Lib.hid (HM.out.1.found HS.out HN.out hx (hqz.1 hq0))
          subst hq0
          clear HM hx hq hqz hb
          go_wp2_with (go_at_call 76; (refine (HC.out _).mono ?_); rintro e u ⟨rfl, hu⟩)
          exact bodyPost_ret (results_tmp2 rfl _ _ _) rfl ⟨i, true, rfl, HE.out, HU.out u hu⟩
        · have HE : Hid (FoundAt M r i false) := Lib.hid (HM.out.1.none_ HS.out HN.out hjn fun y _ hy => by
            rw [hx] at hy; cases hy
            exact fun e => hq0 (hqz.2 e))
          have hqb : (q == 0) = false := by rw [beq_eq_false_iff_ne]; exact hq0
          clear HM hx hq hqz hb
          go_wp2_with (go_at_call 76; (refine (HC.out _).mono ?_); rintro e u ⟨rfl, hu⟩)
          exact bodyPost_ret (results_tmp2 rfl _ _ _) rfl ⟨i, false, rfl, HE.out, HU.out u hu⟩
      · have HE : Hid (FoundAt M r i false ∧ Up w wr) := Lib.hid ⟨HM.out.1.none_ HS.out HN.out hjn fun y h => absurd h hin, HM.out.2⟩
        clear HM
        go_wp2
        exact bodyPost_ret (results_tmp2 rfl _ _ _) rfl ⟨i, false, rfl, HE.out.1, HE.out.2⟩
theorem cvfind_ok (A : Option Addr) (n c : Nat) (M : List mapS.Dat) (r : Int) (w : World) (hn : n = M.length) (hmax : n ≤ 1000000) (h : HasN mapS.lay w w.heap.size A M) (hs : SortedOn keyM M 0 n) :
    Calls Tryz.prog 54 #[.slice A n c, .int .i32 r] w fun e w' => ∃ (i : Nat) (b : Bool), e = .returned (.tuple #[.int .i64 i, .bool b]) ∧ FoundAt M r i b ∧ Up w w' := by
  have HC := Lib.hid (searchF_ok A n c M r w hn hmax h hs)
  clear h hn hs
  go_enter Tryz.func54, Tryz.ntmps54
  go_wp2_with (go_at_call 75; (with_reducible refine HC.out.mono ?_); rintro e u ⟨i, b, rfl, h1, h2⟩)
  exact bodyPost_ret (results_tmp2 rfl _ _ _) rfl ⟨i, b, rfl, h1, h2⟩
theorem find_yes (A : Option Addr) (n c : Nat) (M : List mapS.Dat) (r : Int) (w : World) (hn : n = M.length) (hmax : n ≤ 1000000) (h : HasN mapS.lay w w.heap.size A M) (hs : SortedOn keyM M 0 n) (hi : inF M r = true) :
    Calls Tryz.prog 54 #[.slice A n c, .int .i32 r] w fun e w' => ∃ (i : Nat) (x : mapS.Dat), e = .returned (.tuple #[.int .i64 i, .bool true]) ∧ (M[i]? = some x ∧ gF M r = x.2.1 ∧ i < n) ∧ Up w w' := by
  refine (cvfind_ok A n c M r w hn hmax h hs).mono ?_
  rintro e w' ⟨i, b, rfl, ⟨h1, h2⟩, hu⟩
  cases b with
  | true =>
    obtain ⟨⟨x, hx, hg⟩, _⟩ := h1 rfl
    exact ⟨i, x, rfl, ⟨hx, hg, by rw [hn]; exact (List.getElem?_eq_some_iff.1 hx).1⟩, hu⟩
  | false => rw [h2 rfl] at hi; cases hi
theorem find_no (A : Option Addr) (n c : Nat) (M : List mapS.Dat) (r : Int) (w : World) (hn : n = M.length) (hmax : n ≤ 1000000) (h : HasN mapS.lay w w.heap.size A M) (hs : SortedOn keyM M 0 n) (hi : inF M r = false) :
    Calls Tryz.prog 54 #[.slice A n c, .int .i32 r] w fun e w' => ∃ (i : Nat), e = .returned (.tuple #[.int .i64 i, .bool false]) ∧ Up w w' := by
  refine (cvfind_ok A n c M r w hn hmax h hs).mono ?_
  rintro e w' ⟨i, b, rfl, ⟨h1, h2⟩, hu⟩
  cases b with
  | true => rw [(h1 rfl).2] at hi; cases hi
  | false => exact ⟨i, rfl, hu⟩
/-- mappings in the order of their code points, that give each code point the glyph that M gives it -/
def Ordered (M E : List mapS.Dat) (n : Nat) : Prop := n = E.length ∧ SortedOn keyM E 0 n ∧ ∀ r, gF E r = gF M r
theorem hasM_own {w : World} {B n c : Nat} {A : Option Addr} {M : List mapS.Dat} (h : MineM w B (.slice A n c) M) : HasN mapS.lay w w.heap.size A M := by
  obtain ⟨A', c', e, _, _, hh⟩ := MineN.has h
  injection e with e1 e2 e3
  rw [e1]; exact hh
theorem ownedM {w : World} {B : Nat} {v : Value} {M : List mapS.Dat} (h : MineM w B v M) (hne : 1 < M.length) : ∃ g c, v = .slice (some ⟨g, 0, none⟩) M.length c ∧ B ≤ g ∧ g < w.heap.size := by
  obtain ⟨g, c, hv, _, h1, h2, _⟩ := MineN.form h (fun e => by rw [e] at hne; simp at hne)
  exact ⟨g, c, hv, h1, h2⟩
set_option maxRecDepth 20000 in
set_option maxHeartbeats 4000000 in
theorem byCode_ok (A : Option Addr) (n c : Nat) (M : List mapS.Dat) (w : World) (hn : n = M.length) (hmax : n ≤ 1000000) (h : HasN mapS.lay w w.heap.size A M) :
    Calls Tryz.prog 53 #[.slice A n c] w fun e w' => ∃ (A' : Option Addr) (c' : Nat) (E : List mapS.Dat), e = .returned (.slice A' n c') ∧ Ordered M E n ∧ HasN mapS.lay w' w'.heap.size A' E ∧ Below w.heap.size w w' := by
  have HI := Lib.hid (sortedF_ok A n c M w hn hmax h)
  have HN := Lib.hid hn
  have HH := Lib.hid (fun (W : World) (hu : Up w W) => h.up hu)
  cases A with
  | none =>
    have hM : M = [] := by
      rcases M with _ | ⟨y, ys⟩
      · rfl
      · obtain ⟨b, off, e, _⟩ := h (by simp)
        cases e
    have hn0 : n = 0 := by rw [hn, hM]; rfl
    have HZ := Lib.hid hn0
    clear h hn hM hn0
    go_enter Tryz.func53, Tryz.ntmps53
    go_wp2_with (first
      | (go_at_call 72; (with_reducible refine HI.out.mono ?_); rintro e u ⟨b, rfl, ⟨hb1, hb2⟩, hu⟩; rotate_left)
      | (go_at_call 73; (have h1 := hb2 (by assumption)); (have h2 := HZ.out); exfalso; omega))
    all_goals (go_ret; exact ⟨_, _, M, rfl, ⟨HN.out, hb1 (by assumption), fun r => rfl⟩, HH.out u hu, hu.1⟩)
  | some a =>
    have HCl := Lib.hid (fun (W : World) (hu : Up w W) => cloneM_ok a n c M W hn hmax (h.up hu))
    clear h hn
    go_enter Tryz.func53, Tryz.ntmps53
    go_wp2_with (first
      | (go_at_call 72; (with_reducible refine HI.out.mono ?_); rintro e u ⟨b, rfl, ⟨hb1, hb2⟩, hu⟩; rotate_left)
      | (go_at_call 73; (have h1n := hb2 (by assumption)); (with_reducible refine (HCl.out u hu).mono ?_); rintro e u2 ⟨v, rfl, hM, hbl⟩; (obtain ⟨g, c', rfl, hgB, _⟩ := ownedM hM (by rw [← HN.out]; exact h1n)); rw [← HN.out])
      | (go_at_call 74; (refine (sortM_ok g n c' u.heap.size M u2 (by rw [← HN.out] at hM; exact hM) hmax).mono ?_); rintro e u3 ⟨rfl, E, ⟨hE1, hE2⟩, hM3, hO⟩))
    · go_ret
      exact ⟨_, _, M, rfl, ⟨HN.out, hb1 (by assumption), fun r => rfl⟩, HH.out u hu, hu.1⟩
    · go_ret
      exact ⟨_, _, E, rfl, ⟨by rw [hE1.len]; exact HN.out, hE2, hE1.gF⟩, hasM_own hM3, below_trans hu.1 (hbl.trans (hO.below hgB hbl.size)) hu.1.size⟩
end Go.Proofs.YtnpcakeagpbgiaaGreat

/-
  Layer 22's Text: the glyphs of a text. Condition: at most 1000000 mappings and code points.
-/
set_option linter.unusedVariables false
set_option linter.unusedSimpArgs false
namespace Go.Proofs.YtnpcakeagpbgiaaGreat
open Go.ChangeShapes Go.WideShapes Go.ChangeAt Go.RowKit Go.Sort

theorem run_mk (n : Nat) (hn : n ≤ 1000000) (W : World) : (Instr.makeSlice 33 (.int .i64 (n : Int)) (.int .i64 (n : Int))).run Tryz.prog W = .ok (.slice (some ⟨W.heap.size, 0, none⟩) n n) (W.alloc (.cells (madeCells #[Value.int .i64 0] n) 3)) := by
  obtain ⟨i, hi, hzz⟩ := Option.map_eq_some_iff.1 fullI
  simp only [Prod.mk.injEq] at hzz
  obtain ⟨hz, hs, hb⟩ := hzz
  have := run_make (P := Tryz.prog) W 33 3 i (.int .i64 0) Tryz.underlying33 hi hz .i64 .i64 (n : Int) (n : Int) (by omega) (by omega) (by rw [hb]; omega) (by omega)
  rw [this, hs, Nat.mul_one]
  rfl
theorem mine_mk {w : World} {n : Nat} (hn : n ≤ 1000000) : Mine .i64 3 (w.alloc (.cells (madeCells #[Value.int .i64 0] n) 3)) w.heap.size (.slice (some ⟨w.heap.size, 0, none⟩) n n) (List.replicate n 0) := by
  have e : madeCells #[Value.int .i64 0] n = ((List.replicate n (0 : Int)).map (Value.int .i64)).toArray := by
    have e1 : (madeCells #[Value.int .i64 0] n).toList = (List.replicate n (0 : Int)).map (Value.int .i64) := by
      unfold madeCells
      apply List.ext_getElem?
      intro i
      simp
      rcases Nat.lt_or_ge i n with h | h
      · simp [h, Nat.mod_one]
      · simp [Nat.not_lt.2 h]
    exact congrArg List.toArray e1
  rw [e]
  refine ⟨by simp, .inr ⟨w.heap.size, n, _, by simp, Nat.le_refl _, heap_alloc_new w _, by simp, by unfold maxLen; omega, by simp, ?_⟩⟩
  rw [List.length_replicate]
  exact List.take_of_length_le (by simp)
/-- the glyphs of the first code points, and nothing yet -/
def textL (G : Int → Int) (t : List Int) (k : Nat) : List Int := (t.take k).map G ++ List.replicate (t.length - k) 0
theorem textL_len (G : Int → Int) (t : List Int) (k : Nat) (h : k ≤ t.length) : (textL G t k).length = t.length := by simp [textL]; omega
theorem textL_zero (G : Int → Int) (t : List Int) : textL G t 0 = List.replicate t.length 0 := by simp [textL]
theorem textL_end (G : Int → Int) (t : List Int) : textL G t t.length = t.map G := by simp [textL]
theorem textL_at (G : Int → Int) (t : List Int) (k : Nat) (h : k < t.length) : (textL G t k)[k]? = some 0 := by
  unfold textL
  rw [List.getElem?_append_right (by simp; omega), List.length_map, List.length_take, Nat.min_eq_left (by omega), Nat.sub_self, List.getElem?_replicate, if_pos (by omega)]
theorem textL_step (G : Int → Int) (t : List Int) (k : Nat) (h : k < t.length) : (textL G t k).set k (G t[k]) = textL G t (k + 1) := by
  unfold textL
  rw [List.set_append_right _ _ (by simp; omega), List.length_map, List.length_take, Nat.min_eq_left (by omega), Nat.sub_self, show t.length - k = (t.length - (k + 1)) + 1 by omega, List.replicate_succ, List.set_cons_zero, List.take_add_one, List.getElem?_eq_getElem h, List.map_append, List.append_assoc]
  rfl
theorem textL_same (G : Int → Int) (t : List Int) (k : Nat) (h : k < t.length) : (textL G t k).set k 0 = textL G t k := by
  apply List.ext_getElem?
  intro j
  rw [List.getElem?_set]
  split
  · next e =>
    subst e
    rw [textL_at G t k h, if_pos (by rw [textL_len G t k (by omega)]; exact h)]
  · rfl

set_option maxRecDepth 20000 in
set_option maxHeartbeats 4000000 in
theorem ptext_ok (v0 v1 v3 v4 v5 : Value) (A T : Option Addr) (c n d m : Nat) (M : List mapS.Dat) (t : List Int) (w : World) (hnl : n = M.length) (hn : n ≤ 1000000) (hml : m = t.length) (hm : m ≤ 1000000)
    (h : HasN mapS.lay w w.heap.size A M) (ht : Has w w.heap.size T (t.map (Value.int .i32))) (h0 : v0.cells = #[v0]) (h1 : v1.cells = #[v1]) (h3 : v3.cells = #[v3]) (h4 : v4.cells = #[v4]) (h5 : v5.cells = #[v5]) :
    Calls Tryz.prog 30 #[.agg #[v0, v1, .slice A n c, v3, v4, v5], .slice T m d] w fun e w' => ∃ v, e = .returned v ∧ Mine .i64 3 w' w.heap.size v (t.map (gF M)) ∧ Below w.heap.size w w' := by
  have hc2 : (w.alloc (.cells #[v0, v1, .slice A n c, v3, v4, v5] 43)).cell? ⟨w.heap.size, 2, none⟩ = some (.slice A n c) := (at_new w _ _).cell 2 _ rfl
  have hup : Below w.heap.size w (w.alloc (.cells #[v0, v1, .slice A n c, v3, v4, v5] 43)) := (Below.refl _ _).alloc (Nat.le_refl _) _
  have HB := Lib.hid (byCode_ok A n c M _ hnl hn (h.carry hup))
  have HT := Lib.hid (fun (W : World) (hb : Below w.heap.size w W) => ht.carry hb)
  have HUP := Lib.hid hup
  have HML := Lib.hid hml
  have HMK := fun W => run_mk m hm W
  clear h ht hup hnl hml
  go_enter Tryz.func30, Tryz.ntmps30
  go_wp2_with (first
    | (go_at_call 53; (with_reducible refine HB.out.mono ?_); rintro e u ⟨A', c', E, rfl, hE, hEH, hbu⟩))
  have hbw : Below w.heap.size w u := below_trans HUP.out hbu (by simp)
  have hm1 : Mine .i64 3 (u.alloc (.cells (madeCells #[Value.int .i64 0] m) 3)) u.heap.size (.slice (some ⟨u.heap.size, 0, none⟩) m m) (textL (gF M) t 0) := by
    rw [textL_zero, ← HML.out]
    exact mine_mk hm
  have htu := HT.out u hbw
  have hb1 : Below u.heap.size u (u.alloc (.cells (madeCells #[Value.int .i64 0] m) 3)) := (Below.refl _ _).alloc (Nat.le_refl _) _
  have hwu := hbw.size
  generalize u.alloc (.cells (madeCells #[Value.int .i64 0] m) 3) = W1 at *
  obtain ⟨gb, hgb⟩ : ∃ gb, u.heap.size = gb := ⟨_, rfl⟩
  rw [hgb] at hm1 hb1 hEH htu hwu
  rw [hgb]
  obtain ⟨wb, hwb⟩ : ∃ wb, w.heap.size = wb := ⟨_, rfl⟩
  have HGW : Hid (w.heap.size ≤ gb ∧ u.heap.size = gb ∧ Below w.heap.size w u) := Lib.hid ⟨hwu, hgb, hbw⟩
  simp only [hwb]
  have HM0 : Hid (Mine .i64 3 W1 gb (.slice (some ⟨gb, 0, none⟩) m m) (textL (gF M) t 0) ∧ Below gb u W1) := Lib.hid ⟨hm1, hb1⟩
  have HEX := Lib.hid (And.intro hE (And.intro hEH htu))
  clear hm1 hb1 hEH htu hwu hgb hwb hbw hbu HT HB hc2 h0 h1 h3 h4 h5 HMK hE
  go_loopw [19] (fun v wr => ∃ k : Nat, k ≤ m ∧ v = .int .i64 k ∧ Hid (Mine .i64 3 wr gb (.slice (some ⟨gb, 0, none⟩) m m) (textL (gF M) t k) ∧ Below gb u wr)) (fun v _ => m - (intOf v).toNat)
  case atStart => exact ⟨0, by omega, rfl, HM0⟩
  case round =>
    clear HM0
    obtain ⟨k, hkm, rfl, HM⟩ := hrel
    by_cases hlt : k < m
    · have hlt1 : k < t.length := by rw [← HML.out]; exact hlt
      obtain ⟨bt, offt, hT, hbt, hct⟩ := (HEX.out.2.2.below HM.out.2).at_int hlt1
      subst hT
      have hf := HM.out.1.free k
      have hcg := HM.out.1.cellAt k (by rw [textL_len _ _ _ (by omega)]; exact hlt1)
      have hst := HM.out.1.set k (by rw [textL_len _ _ _ (by omega)]; exact hlt1) 0
      rw [textL_same _ _ _ hlt1] at hst
      have hb1 : Below gb u (wr.setCell ⟨gb, k, none⟩ (.int .i64 0)) := HM.out.2.setCell (p := ⟨gb, k, none⟩) (Nat.le_refl _) _
      have hgx : (textL (gF M) t k)[k]'(by rw [textL_len _ _ _ (by omega)]; exact hlt1) = 0 := by
        have := textL_at (gF M) t k hlt1
        rw [List.getElem?_eq_getElem (by rw [textL_len _ _ _ (by omega)]; exact hlt1)] at this
        injection this
      rw [hgx] at hcg
      have hstep := textL_step (gF M) t k hlt1
      obtain ⟨r, hr⟩ : ∃ r, t[k] = r := ⟨_, rfl⟩
      rw [hr] at hct hstep
      have HSTEP := Lib.hid hstep
      have HM1 : Hid (Mine .i64 3 (wr.setCell ⟨gb, k, none⟩ (.int .i64 0)) gb (.slice (some ⟨gb, 0, none⟩) m m) (textL (gF M) t k) ∧ Below gb u (wr.setCell ⟨gb, k, none⟩ (.int .i64 0))) := Lib.hid ⟨hst, hb1⟩
      have HLT : Hid (k < (textL (gF M) t k).length) := Lib.hid (by rw [textL_len _ _ _ (by omega)]; exact hlt1)
      have HUW := Lib.hid (fun (W : World) (hb : Below gb u W) => ((HEX.out.2.1.below hb).more (by have := hb.size; have := HGW.out.2.1; omega) : HasN mapS.lay W W.heap.size A' E))
      clear hgx hst hb1 hbt hstep HM hr hlt1
      by_cases hin : inF E r = true
      · have HF := Lib.hid (find_yes A' n c' E r (wr.setCell ⟨gb, k, none⟩ (.int .i64 0)) HEX.out.1.1 hn (HUW.out _ HM1.out.2) HEX.out.1.2.1 hin)
        clear hin
        go_wp2_with (go_at_call 54; (with_reducible refine HF.out.mono ?_); rintro e z ⟨i, x, rfl, ⟨hx, hg, hin⟩, hu⟩; (have hbz := HM1.out.2.trans (hu.1.mono (by have := HGW.out.2.1; have := HM1.out.2.size; omega))); (obtain ⟨be, offe, hA', hbe, ce1, ce2⟩ := map_cells (HUW.out z hbz) hx); subst hA'; (have hMz := HM1.out.1.up hu); (have hfz := hMz.free k); (obtain ⟨y, hcz⟩ : ∃ y, z.cell? ⟨gb, k, none⟩ = some (.int .i64 y) := ⟨_, hMz.cellAt k HLT.out⟩))
        have HZ : Hid (Mine .i64 3 (z.setCell ⟨gb, k, none⟩ (.int .i64 x.2.1)) gb (.slice (some ⟨gb, 0, none⟩) m m) (textL (gF M) t (k + 1)) ∧ Below gb u (z.setCell ⟨gb, k, none⟩ (.int .i64 x.2.1))) := Lib.hid ⟨by
          have h9 := hMz.set k HLT.out x.2.1
          rw [← hg, HEX.out.1.2.2, HSTEP.out] at h9
          rw [← hg, HEX.out.1.2.2]
          exact h9, hbz.setCell (p := ⟨gb, k, none⟩) (Nat.le_refl _) _⟩
        clear hg hMz hbz hu HF
        go_roundw
        case rel => exact ⟨k + 1, by omega, by go_num, HZ⟩
        case measure => simp [intOf] <;> omega
      · have hin2 : inF E r = false := by simpa using hin
        have HF := Lib.hid (find_no A' n c' E r (wr.setCell ⟨gb, k, none⟩ (.int .i64 0)) HEX.out.1.1 hn (HUW.out _ HM1.out.2) HEX.out.1.2.1 hin2)
        have hg0 : gF M r = 0 := by rw [← HEX.out.1.2.2]; exact gF_none E r hin2
        have HSAME : Hid (textL (gF M) t k = textL (gF M) t (k + 1)) := Lib.hid (by
          have h9 := HSTEP.out
          rw [hg0, textL_same _ _ _ (by rw [← HML.out]; exact hlt)] at h9
          exact h9)
        clear hin hin2 hg0
        go_wp2_with (go_at_call 54; (with_reducible refine HF.out.mono ?_); rintro e z ⟨i, rfl, hu⟩; (have hbz := HM1.out.2.trans (hu.1.mono (by have := HGW.out.2.1; have := HM1.out.2.size; omega))); (have hMz := HM1.out.1.up hu))
        have HZ : Hid (Mine .i64 3 z gb (.slice (some ⟨gb, 0, none⟩) m m) (textL (gF M) t (k + 1)) ∧ Below gb u z) := Lib.hid ⟨by rw [← HSAME.out]; exact hMz, hbz⟩
        clear hMz hbz hu HF
        go_roundw
        case rel => exact ⟨k + 1, by omega, by go_num, HZ⟩
        case measure => simp [intOf] <;> omega
    · have HZ : Hid (Mine .i64 3 wr w.heap.size (.slice (some ⟨gb, 0, none⟩) m m) (t.map (gF M)) ∧ Below w.heap.size w wr) := Lib.hid (by
        have h9 := HM.out.1
        rw [show k = t.length by have := HML.out; omega, textL_end] at h9
        exact ⟨h9.low HGW.out.1, HGW.out.2.2.trans (HM.out.2.mono HGW.out.1)⟩)
      clear HM
      go_wp2
      go_ret
      exact ⟨_, rfl, HZ.out⟩
end Go.Proofs.YtnpcakeagpbgiaaGreat
