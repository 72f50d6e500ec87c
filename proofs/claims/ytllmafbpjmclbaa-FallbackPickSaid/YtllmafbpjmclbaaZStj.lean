/-
  Layer 22: a code point is looked up among mappings in the order of their code points; Text: the glyphs of a text. Condition: at most 1000000 mappings and code points.
-/
import Derived.Test.YtllmafbpjmclbaaFzb
import Derived.Test.YtllmafbpjmclbaaFbr
set_option linter.unusedVariables false
set_option linter.unusedSimpArgs false
namespace Go.Proofs.Ytllmafbpjmclbaa
open Go.ChangeShapes Go.WideShapes Go.ChangeAt Go.RowKit Go.Sort

theorem findc_ok (x : mapS.Dat) (r : Int) (w : World) : Calls Try.prog 74 #[.agg #[.int .i32 x.1, .int .i64 x.2.1], .int .i32 r] w fun e w' => e = .returned (.int .i64 (cmpI x.1 r)) ∧ Up w w' := by
  obtain ⟨a, ha⟩ : ∃ a : Int, x.1 = a := ⟨_, rfl⟩
  obtain ⟨b, hb⟩ : ∃ b : Int, x.2.1 = b := ⟨_, rfl⟩
  rw [ha, hb]
  clear ha hb
  have HC := Lib.hid (compare_ok a r)
  go_enter Try.func74, Try.ntmps74
  go_wp2_with (go_at_call 69; (with_reducible refine (HC.out _).mono ?_); rintro e u ⟨rfl, rfl⟩)
  go_ret
  exact ⟨rfl, (Up.refl _).alloc _⟩
/-- between i and j the place is looked for -/
structure HalfAt (M : List mapS.Dat) (n : Nat) (r : Int) (i j : Nat) : Prop where
  lo : ∀ y, 0 < i → M[i - 1]? = some y → keyM y < r
  hi : ∀ y, j < n → M[j]? = some y → r ≤ keyM y
/-- what is found -/
def FoundAt (M : List mapS.Dat) (r : Int) (i : Nat) (b : Bool) : Prop := (b = true → (∃ x, M[i]? = some x ∧ gF M r = x.2.1) ∧ inF M r = true) ∧ (b = false → inF M r = false)
theorem HalfAt.low {M : List mapS.Dat} {n i : Nat} {r : Int} (h : HalfAt M n r i i) (hs : SortedOn keyM M 0 n) (hn : n = M.length) (hi : i ≤ n) {j : Nat} {x : mapS.Dat} (hj : j < i) (hx : M[j]? = some x) : keyM x < r := by
  obtain ⟨y, hy⟩ : ∃ y, M[i - 1]? = some y := ⟨_, List.getElem?_eq_getElem (by omega)⟩
  have h1 := h.lo y (by omega) hy
  by_cases e : j = i - 1
  · subst e; rw [hx] at hy; cases hy; exact h1
  · have := hs j (i - 1) x y (Nat.zero_le _) (by omega) (by omega) hx hy
    omega
theorem HalfAt.found {M : List mapS.Dat} {n i : Nat} {r : Int} (h : HalfAt M n r i i) (hs : SortedOn keyM M 0 n) (hn : n = M.length) {x : mapS.Dat} (hx : M[i]? = some x) (he : x.1 = r) : FoundAt M r i true := by
  obtain ⟨hlt, hxe⟩ := List.getElem?_eq_some_iff.1 hx
  refine ⟨fun _ => ⟨⟨x, hx, ?_⟩, List.any_eq_true.2 ⟨x, List.mem_of_getElem? hx, by simpa using he⟩⟩, (fun h => by cases h)⟩
  rw [gF_first M i r hlt (by rw [hxe]; exact he) fun j hj e => by
    have h2 : keyM M[j] < r := h.low hs hn (by omega) hj (List.getElem?_eq_getElem (by omega))
    have h3 : keyM M[j] = r := e
    omega, hxe]
theorem HalfAt.none_ {M : List mapS.Dat} {n i : Nat} {r : Int} (h : HalfAt M n r i i) (hs : SortedOn keyM M 0 n) (hn : n = M.length) (hi : i ≤ n) (hne : ∀ x, i < n → M[i]? = some x → ¬ x.1 = r) : FoundAt M r i false := by
  refine ⟨(fun h => by cases h), fun _ => ?_⟩
  rw [inF, List.any_eq_false]
  intro z hz
  obtain ⟨j, hj⟩ := List.getElem?_of_mem hz
  have hjl := (List.getElem?_eq_some_iff.1 hj).1
  have : ¬ z.1 = r := fun e => by
    by_cases c : j < i
    · have h2 : keyM z < r := h.low hs hn hi c hj
      have h3 : keyM z = r := e
      omega
    · obtain ⟨x, hx⟩ : ∃ x, M[i]? = some x := ⟨_, List.getElem?_eq_getElem (by omega)⟩
      have h1 := hne x (by omega) hx
      have h2 : r ≤ keyM x := h.hi x (by omega) hx
      by_cases e2 : j = i
      · subst e2; rw [hj] at hx; cases hx; exact h1 e
      · have h3 : keyM x ≤ keyM z := hs i j x z (Nat.zero_le _) (by omega) (by omega) hx hj
        have h4 : keyM z = r := e
        have h5 : ¬ keyM x = r := h1
        omega
  simpa using this
set_option maxRecDepth 20000 in
set_option maxHeartbeats 4000000 in
theorem searchF_ok (A : Option Addr) (n c : Nat) (M : List mapS.Dat) (r : Int) (w : World) (hn : n = M.length) (hmax : n ≤ 1000000) (h : HasN mapS.lay w w.heap.size A M) (hs : SortedOn keyM M 0 n) :
    Calls Try.prog 73 #[.slice A n c, .int .i32 r, .func (.func 74) #[] #[]] w fun e w' =>
      ∃ (i : Nat) (b : Bool), e = .returned (.tuple #[.int .i64 i, .bool b]) ∧ FoundAt M r i b ∧ Up w w' := by
  have HN := Lib.hid hn
  have HS := Lib.hid hs
  have HH := Lib.hid (fun (W : World) (hu : Up w W) => h.up hu)
  clear h hn hs
  go_enter Try.func73, Try.ntmps73
  go_wp2
  go_loopw [9, 10] (fun u v wr => ∃ (i j : Nat), (i ≤ j ∧ j ≤ n) ∧ u = .int .i64 i ∧ v = .int .i64 j ∧ Hid (HalfAt M n r i j ∧ Up w wr)) (fun u v _ => (intOf v).toNat - (intOf u).toNat)
  case atStart => exact ⟨0, n, by omega, rfl, rfl, Lib.hid ⟨⟨fun y h => absurd h (by omega), fun y h => absurd h (by omega)⟩, Up.refl _⟩⟩
  case round =>
    obtain ⟨i, j, ⟨hij, hjn⟩, rfl, rfl, HM⟩ := hrel
    by_cases hlt : i < j
    · obtain ⟨k, hk⟩ : ∃ k, (i + j) / 2 = k := ⟨_, rfl⟩
      have hkI : ((i : Int) + (j : Int)) / 2 = (k : Int) := by omega
      have hkn : k < n := by omega
      have hik : i ≤ k := by omega
      have hkj : k < j := by omega
      obtain ⟨x, hx⟩ : ∃ x, M[k]? = some x := ⟨_, List.getElem?_eq_getElem (by rw [← HN.out]; exact hkn)⟩
      obtain ⟨b, off, hA, hb, ca1, ca2⟩ := map_cells (HH.out _ HM.out.2) hx
      subst hA
      obtain ⟨q, hq⟩ : ∃ q, cmpI x.1 r = q := ⟨_, rfl⟩
      have HC := Lib.hid (findc_ok x r)
      rw [hq] at HC
      have hql : q < 0 ↔ x.1 < r := by rw [← hq]; exact cmpI_neg _ _
      have HU := Lib.hid (fun (u : World) (hu : Up wr u) => (HM.out.2.trans hu : Up w u))
      by_cases hq0 : q < 0
      · have HE : Hid (HalfAt M n r (k + 1) j) := Lib.hid ⟨fun y _ hy => by
          rw [show k + 1 - 1 = k by omega, hx] at hy; cases hy; exact hql.1 hq0, HM.out.1.hi⟩
        clear HM hx hq hql hk hb
        go_wp2_with (go_at_call 74; (refine (HC.out _).mono ?_); rintro e u ⟨rfl, hu⟩)
        have HF := Lib.hid (HU.out u hu)
        clear HU HC hu
        go_roundw
        case rel => exact ⟨k + 1, j, by omega, by go_num, rfl, Lib.hid ⟨HE.out, HF.out⟩⟩
        case measure => simp [intOf] <;> omega
      · have HE : Hid (HalfAt M n r i k) := Lib.hid ⟨HM.out.1.lo, fun y _ hy => by
          rw [hx] at hy; cases hy
          exact Int.not_lt.1 fun c => hq0 (hql.2 c)⟩
        clear HM hx hq hql hk hb
        go_wp2_with (go_at_call 74; (refine (HC.out _).mono ?_); rintro e u ⟨rfl, hu⟩)
        have HF := Lib.hid (HU.out u hu)
        clear HU HC hu
        go_roundw
        case rel => exact ⟨i, k, by omega, rfl, by go_num, Lib.hid ⟨HE.out, HF.out⟩⟩
        case measure => simp [intOf] <;> omega
    · obtain rfl : i = j := by omega
      by_cases hin : i < n
      · obtain ⟨x, hx⟩ : ∃ x, M[i]? = some x := ⟨_, List.getElem?_eq_getElem (by rw [← HN.out]; exact hin)⟩
        obtain ⟨b, off, hA, hb, ca1, ca2⟩ := map_cells (HH.out _ HM.out.2) hx
        subst hA
        obtain ⟨q, hq⟩ : ∃ q, cmpI x.1 r = q := ⟨_, rfl⟩
        have HC := Lib.hid (findc_ok x r)
        rw [hq] at HC
        have hqz : q = 0 ↔ x.1 = r := by rw [← hq]; exact cmpI_zero _ _
        have HU := Lib.hid (fun (u : World) (hu : Up wr u) => (HM.out.2.trans hu : Up w u))
        by_cases hq0 : q = 0
        · have HE : Hid (FoundAt M r i true) := Lib.hid (HM.out.1.found HS.out HN.out hx (hqz.1 hq0))
          subst hq0
          clear HM hx hq hqz hb
          go_wp2_with (go_at_call 74; (refine (HC.out _).mono ?_); rintro e u ⟨rfl, hu⟩)
          exact bodyPost_ret (results_tmp2 rfl _ _ _) rfl ⟨i, true, rfl, HE.out, HU.out u hu⟩
        · have HE : Hid (FoundAt M r i false) := Lib.hid (HM.out.1.none_ HS.out HN.out hjn fun y _ hy => by
            rw [hx] at hy; cases hy
            exact fun e => hq0 (hqz.2 e))
          have hqb : (q == 0) = false := by rw [beq_eq_false_iff_ne]; exact hq0
          clear HM hx hq hqz hb
          go_wp2_with (go_at_call 74; (refine (HC.out _).mono ?_); rintro e u ⟨rfl, hu⟩)
          exact bodyPost_ret (results_tmp2 rfl _ _ _) rfl ⟨i, false, rfl, HE.out, HU.out u hu⟩
      · have HE : Hid (FoundAt M r i false ∧ Up w wr) := Lib.hid ⟨HM.out.1.none_ HS.out HN.out hjn fun y h => absurd h hin, HM.out.2⟩
        clear HM
        go_wp2
        exact bodyPost_ret (results_tmp2 rfl _ _ _) rfl ⟨i, false, rfl, HE.out.1, HE.out.2⟩
theorem cvfind_ok (A : Option Addr) (n c : Nat) (M : List mapS.Dat) (r : Int) (w : World) (hn : n = M.length) (hmax : n ≤ 1000000) (h : HasN mapS.lay w w.heap.size A M) (hs : SortedOn keyM M 0 n) :
    Calls Try.prog 58 #[.slice A n c, .int .i32 r] w fun e w' => ∃ (i : Nat) (b : Bool), e = .returned (.tuple #[.int .i64 i, .bool b]) ∧ FoundAt M r i b ∧ Up w w' := by
  have HC := Lib.hid (searchF_ok A n c M r w hn hmax h hs)
  clear h hn hs
  go_enter Try.func58, Try.ntmps58
  go_wp2_with (go_at_call 73; (with_reducible refine HC.out.mono ?_); rintro e u ⟨i, b, rfl, h1, h2⟩)
  exact bodyPost_ret (results_tmp2 rfl _ _ _) rfl ⟨i, b, rfl, h1, h2⟩
theorem find_yes (A : Option Addr) (n c : Nat) (M : List mapS.Dat) (r : Int) (w : World) (hn : n = M.length) (hmax : n ≤ 1000000) (h : HasN mapS.lay w w.heap.size A M) (hs : SortedOn keyM M 0 n) (hi : inF M r = true) :
    Calls Try.prog 58 #[.slice A n c, .int .i32 r] w fun e w' => ∃ (i : Nat) (x : mapS.Dat), e = .returned (.tuple #[.int .i64 i, .bool true]) ∧ (M[i]? = some x ∧ gF M r = x.2.1 ∧ i < n) ∧ Up w w' := by
  refine (cvfind_ok A n c M r w hn hmax h hs).mono ?_
  rintro e w' ⟨i, b, rfl, ⟨h1, h2⟩, hu⟩
  cases b with
  | true =>
    obtain ⟨⟨x, hx, hg⟩, _⟩ := h1 rfl
    exact ⟨i, x, rfl, ⟨hx, hg, by rw [hn]; exact (List.getElem?_eq_some_iff.1 hx).1⟩, hu⟩
  | false => rw [h2 rfl] at hi; cases hi
theorem find_no (A : Option Addr) (n c : Nat) (M : List mapS.Dat) (r : Int) (w : World) (hn : n = M.length) (hmax : n ≤ 1000000) (h : HasN mapS.lay w w.heap.size A M) (hs : SortedOn keyM M 0 n) (hi : inF M r = false) :
    Calls Try.prog 58 #[.slice A n c, .int .i32 r] w fun e w' => ∃ (i : Nat), e = .returned (.tuple #[.int .i64 i, .bool false]) ∧ Up w w' := by
  refine (cvfind_ok A n c M r w hn hmax h hs).mono ?_
  rintro e w' ⟨i, b, rfl, ⟨h1, h2⟩, hu⟩
  cases b with
  | true => rw [(h1 rfl).2] at hi; cases hi
  | false => exact ⟨i, rfl, hu⟩
/-- mappings in the order of their code points, that give each code point the glyph that M gives it -/
def Ordered (M E : List mapS.Dat) (n : Nat) : Prop := n = E.length ∧ SortedOn keyM E 0 n ∧ ∀ r, gF E r = gF M r
theorem hasM_own {w : World} {B n c : Nat} {A : Option Addr} {M : List mapS.Dat} (h : MineM w B (.slice A n c) M) : HasN mapS.lay w w.heap.size A M := by
  obtain ⟨A', c', e, _, _, hh⟩ := MineN.has h
  injection e with e1 e2 e3
  rw [e1]; exact hh
theorem ownedM {w : World} {B : Nat} {v : Value} {M : List mapS.Dat} (h : MineM w B v M) (hne : 1 < M.length) : ∃ g c, v = .slice (some ⟨g, 0, none⟩) M.length c ∧ B ≤ g ∧ g < w.heap.size := by
  obtain ⟨g, c, hv, _, h1, h2, _⟩ := MineN.form h (fun e => by rw [e] at hne; simp at hne)
  exact ⟨g, c, hv, h1, h2⟩
set_option maxRecDepth 20000 in
set_option maxHeartbeats 4000000 in
theorem byCode_ok (A : Option Addr) (n c : Nat) (M : List mapS.Dat) (w : World) (hn : n = M.length) (hmax : n ≤ 1000000) (h : HasN mapS.lay w w.heap.size A M) :
    Calls Try.prog 57 #[.slice A n c] w fun e w' => ∃ (A' : Option Addr) (c' : Nat) (E : List mapS.Dat), e = .returned (.slice A' n c') ∧ Ordered M E n ∧ HasN mapS.lay w' w'.heap.size A' E ∧ Below w.heap.size w w' := by
  have HI := Lib.hid (sortedF_ok A n c M w hn hmax h)
  have HN := Lib.hid hn
  have HH := Lib.hid (fun (W : World) (hu : Up w W) => h.up hu)
  cases A with
  | none =>
    have hM : M = [] := by
      rcases M with _ | ⟨y, ys⟩
      · rfl
      · obtain ⟨b, off, e, _⟩ := h (by simp)
        cases e
    have hn0 : n = 0 := by rw [hn, hM]; rfl
    have HZ := Lib.hid hn0
    clear h hn hM hn0
    go_enter Try.func57, Try.ntmps57
    go_wp2_with (first
      | (go_at_call 70; (with_reducible refine HI.out.mono ?_); rintro e u ⟨b, rfl, ⟨hb1, hb2⟩, hu⟩; rotate_left)
      | (go_at_call 71; (have h1 := hb2 (by assumption)); (have h2 := HZ.out); exfalso; omega))
    all_goals (go_ret; exact ⟨_, _, M, rfl, ⟨HN.out, hb1 (by assumption), fun r => rfl⟩, HH.out u hu, hu.1⟩)
  | some a =>
    have HCl := Lib.hid (fun (W : World) (hu : Up w W) => cloneM_ok a n c M W hn hmax (h.up hu))
    clear h hn
    go_enter Try.func57, Try.ntmps57
    go_wp2_with (first
      | (go_at_call 70; (with_reducible refine HI.out.mono ?_); rintro e u ⟨b, rfl, ⟨hb1, hb2⟩, hu⟩; rotate_left)
      | (go_at_call 71; (have h1n := hb2 (by assumption)); (with_reducible refine (HCl.out u hu).mono ?_); rintro e u2 ⟨v, rfl, hM, hbl⟩; (obtain ⟨g, c', rfl, hgB, _⟩ := ownedM hM (by rw [← HN.out]; exact h1n)); rw [← HN.out])
      | (go_at_call 72; (refine (sortM_ok g n c' u.heap.size M u2 (by rw [← HN.out] at hM; exact hM) hmax).mono ?_); rintro e u3 ⟨rfl, E, ⟨hE1, hE2⟩, hM3, hO⟩))
    · go_ret
      exact ⟨_, _, M, rfl, ⟨HN.out, hb1 (by assumption), fun r => rfl⟩, HH.out u hu, hu.1⟩
    · go_ret
      exact ⟨_, _, E, rfl, ⟨by rw [hE1.len]; exact HN.out, hE2, hE1.gF⟩, hasM_own hM3, below_trans hu.1 (hbl.trans (hO.below hgB hbl.size)) hu.1.size⟩
end Go.Proofs.Ytllmafbpjmclbaa
