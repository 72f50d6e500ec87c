/-
  How many letters a text begins with ('letterCount'); slices.DeleteFunc at ints over In's closure. Condition: at most 1000 code points.
-/
import Derived.Test.YtekjejbcdnghjaaDoorZHri
import Derived.Test.YtekjejbcdnghjaaDoorZHsl
import Derived.Lib.SliceRun
import Derived.Test.YtekjejbcdnghjaaDoorZi
set_option linter.unusedVariables false
set_option linter.unusedSimpArgs false
namespace Go.Proofs.YtekjejbcdnghjaaDoor
open Go.ChangeShapes Go.WideShapes Go.ChangeAt Go.RowKit Go.Sort

/-- how many letters ahead -/
def lead : List Int → Nat
  | [] => 0
  | c :: l => if isL c then lead l + 1 else 0
theorem lead_le : ∀ l : List Int, lead l ≤ l.length
  | [] => Nat.le_refl _
  | c :: l => by
    unfold lead
    split
    · have := lead_le l; simp; omega
    · simp
theorem lead_eq : ∀ (l : List Int) (k : Nat), (∀ j, j < k → isL (l.getD j 0)) → k ≤ l.length → (k = l.length ∨ ¬ isL (l.getD k 0)) → lead l = k
  | [], k, _, h1, _ => by simp at h1; subst h1; rfl
  | c :: l, 0, _, _, h2 => by
    have : ¬ isL c := by simpa using h2
    simp [lead, this]
  | c :: l, k + 1, h, h1, h2 => by
    have h0 : isL c := by simpa using h 0 (by omega)
    have ih := lead_eq l k (fun j hj => by simpa using h (j + 1) (by omega)) (by simpa using h1) (by simpa using h2)
    simp [lead, h0, ih]
theorem lead_range {t : List Int} {p : Nat} (hp : p ≤ t.length) (hl : p = 0 ∨ ¬ isL (t.getD (p - 1) 0)) : RangeL isL t p (p + lead (t.drop p)) := by
  have key : ∀ l : List Int, (∀ j, j < lead l → isL (l.getD j 0)) ∧ (lead l = l.length ∨ ¬ isL (l.getD (lead l) 0)) := fun l => by
    induction l with
    | nil => exact ⟨fun j hj => absurd hj (Nat.not_lt_zero _), Or.inl rfl⟩
    | cons c l ih =>
      by_cases h : isL c
      · simp only [lead, if_pos h]
        refine ⟨fun j hj => ?_, ?_⟩
        · cases j with
          | zero => simpa using h
          | succ j => simpa using ih.1 j (by omega)
        · rcases ih.2 with h2 | h2
          · left; simp [h2]
          · right; simpa using h2
      · simp only [lead, if_neg h]
        exact ⟨fun j hj => absurd hj (Nat.not_lt_zero _), Or.inr (by simpa using h)⟩
  have hd : ∀ j, (t.drop p).getD j 0 = t.getD (p + j) 0 := fun j => by simp [List.getD, List.getElem?_drop]
  have hle := lead_le (t.drop p)
  rw [List.length_drop] at hle
  obtain ⟨h1, h2⟩ := key (t.drop p)
  refine ⟨Nat.le_add_right _ _, by omega, fun k hk1 hk2 => ?_, hl, ?_⟩
  · have := h1 (k - p) (by omega)
    rwa [hd, show p + (k - p) = k by omega] at this
  · rcases h2 with h2 | h2
    · left; rw [h2, List.length_drop]; omega
    · right; rwa [hd] at h2

theorem of_w (r : Int) (p : Pr) (hp : ofP r = p) (w : World) : Calls Tryd.prog 65 #[.int .i32 r] w fun e w' => e = .returned (.agg #[.int .i64 p.bidi, .int .i64 p.cl, .int .i64 p.br, .int .i64 p.sc, .int .i64 p.jn, .int .i64 p.wd, .int .i32 p.mi, .int .i32 p.pa, .bool p.op]) ∧ Up w w' :=
  (of_ok r w).mono fun e w' ⟨he, hu⟩ => ⟨by rw [he, hp]; rfl, hu⟩
set_option maxHeartbeats 1000000 in
theorem lclo_ok (r : Int) (w : World) : Calls Tryd.prog 64 #[.int .i32 r] w fun e w' => e = .returned (.bool (!decide (isL r))) ∧ Up w w' := by
  obtain ⟨p, hp⟩ : ∃ p, ofP r = p := ⟨_, rfl⟩
  have hd : isL r ↔ p.wd = 1 := by unfold isL; rw [hp]
  have HC := Lib.hid (fun w => of_w r p hp w)
  have hfb := fun w => fieldW p w
  have HD := Lib.hid hd
  clear hp hd
  by_cases h1 : p.wd = 1
  · have hb : (p.wd == 1) = true := by simp [h1]
    have HR : Hid (decide (isL r) = true) := Lib.hid (decide_eq_true (HD.out.2 h1))
    have H1 := Lib.hid h1
    clear h1
    go_enter Tryd.func64, Tryd.ntmps64
    go_wp2_with (first | (go_at_call 65; refine (HC.out _).mono ?_; rintro e u ⟨rfl, hu⟩))
    go_ret
    exact ⟨by rw [HR.out]; simp [H1.out], by assumption⟩
  · have hb : (p.wd == 1) = false := by simp [h1]
    have HR : Hid (decide (isL r) = false) := Lib.hid (decide_eq_false (fun h => h1 (HD.out.1 h)))
    have H1 := Lib.hid h1
    clear h1
    go_enter Tryd.func64, Tryd.ntmps64
    go_wp2_with (first | (go_at_call 65; refine (HC.out _).mono ?_; rintro e u ⟨rfl, hu⟩))
    go_ret
    exact ⟨by rw [HR.out]; simp [H1.out], by assumption⟩

def idxL (l : List Int) : Int := if lead l < l.length then (lead l : Int) else -1
set_option maxHeartbeats 2000000 in
theorem indexL_ok (A : Option Addr) (c n : Nat) (zs : List Int) (w : World) (hzn : n = zs.length) (hn : zs.length ≤ 1000) (h : Has w w.heap.size A (zs.map (Value.int .i32))) :
    Calls Tryd.prog 63 #[.slice A n c, .func (.func 64) #[] #[]] w fun e w' => e = .returned (.int .i64 (idxL zs)) ∧ Up w w' := by
  subst hzn
  obtain ⟨V, hV⟩ : ∃ V, idxL zs = V := ⟨_, rfl⟩
  rw [hV]
  unfold idxL at hV
  have HV := Lib.hid hV
  have HH := Lib.hid (fun (w' : World) (hu : Up w w') => (h.carry hu.1 : Has w' w'.heap.size A _))
  clear h hV
  go_enter Tryd.func63, Tryd.ntmps63
  go_wp2
  go_loopw [8] (fun v wr => ∃ k : Nat, k ≤ zs.length ∧ v = .int .i64 k ∧ Hid (∀ j, j < k → isL (zs.getD j 0)) ∧ Up w wr) (fun v _ => zs.length - (intOf v).toNat)
  case atStart => exact ⟨0, by omega, rfl, Lib.hid (fun j hj => absurd hj (Nat.not_lt_zero _)), Up.refl _⟩
  case round =>
    obtain ⟨k, hk, rfl, HA, hU⟩ := hrel
    by_cases hlt : k < zs.length
    · obtain ⟨b, off, rfl, hb, hcc⟩ := (HH.out _ hU).at_int hlt
      have hD : zs.getD k 0 = zs[k] := by simp [List.getD, List.getElem?_eq_getElem hlt]
      obtain ⟨X, hX⟩ : ∃ X, zs[k] = X := ⟨_, rfl⟩
      rw [hX] at hcc hD
      have HD := Lib.hid hD
      have HC := Lib.hid (lclo_ok X)
      clear hX hD
      by_cases hq : isL X
      · rw [decide_eq_true hq, Bool.not_true] at HC
        have HK : Hid (∀ j, j < k + 1 → isL (zs.getD j 0)) := Lib.hid (fun j hj => by
          rcases Nat.lt_or_ge j k with e | e
          · exact HA.out j e
          · obtain rfl : j = k := by omega
            rw [HD.out]; exact hq)
        clear hq
        go_wp2_with (first | (go_at_call 64; refine (HC.out _).mono ?_; rintro e u ⟨rfl, hu⟩; have hU := hU.trans hu))
        go_roundw
        case rel => exact ⟨k + 1, by omega, by go_num, HK, hU⟩
        case measure => simp [intOf] <;> omega
      · rw [decide_eq_false hq, Bool.not_false] at HC
        have HE : Hid (V = (k : Int)) := Lib.hid (by
          have := lead_eq zs k HA.out (by omega) (Or.inr (by rw [HD.out]; exact hq))
          rw [← HV.out, this, if_pos hlt])
        clear hq
        go_wp2_with (first | (go_at_call 64; refine (HC.out _).mono ?_; rintro e u ⟨rfl, hu⟩; have hU := hU.trans hu))
        go_ret
        exact ⟨by rw [HE.out] <;> rfl, hU⟩
    · obtain rfl : k = zs.length := by omega
      have HE : Hid (V = -1) := Lib.hid (by
        have := lead_eq zs zs.length HA.out (Nat.le_refl _) (Or.inl rfl)
        rw [← HV.out, this, if_neg (by omega)])
      go_wp2
      go_ret
      exact ⟨by rw [HE.out] <;> rfl, hU⟩

theorem letters_ok (A : Option Addr) (c n : Nat) (zs : List Int) (w : World) (hzn : n = zs.length) (hn : zs.length ≤ 1000) (h : Has w w.heap.size A (zs.map (Value.int .i32))) :
    Calls Tryd.prog 42 #[.slice A n c] w fun e w' => e = .returned (.int .i64 (lead zs : Int)) ∧ Up w w' := by
  have HC := Lib.hid (indexL_ok A c n zs w hzn hn h)
  have hle := lead_le zs
  obtain ⟨L, hL⟩ : ∃ L, lead zs = L := ⟨_, rfl⟩
  unfold idxL at HC
  rw [hL] at HC hle ⊢
  clear h
  by_cases q : L < zs.length
  · rw [if_pos q] at HC
    clear hzn
    go_enter Tryd.func42, Tryd.ntmps42
    go_wp2_with (first | (go_at_call 63; (with_reducible refine HC.out.mono ?_); rintro e u ⟨rfl, hu⟩))
    go_ret
    exact ⟨rfl, hu⟩
  · rw [if_neg q] at HC
    have hn2 : n = L := by omega
    clear hzn
    subst hn2
    go_enter Tryd.func42, Tryd.ntmps42
    go_wp2_with (first | (go_at_call 63; (with_reducible refine HC.out.mono ?_); rintro e u ⟨rfl, hu⟩))
    go_ret
    exact ⟨rfl, hu⟩

/-- the closure of In: a place of the text in the box that is no bound -/
def BoxT (u : World) (T0 : Nat) (Bt : Option Addr) (n ct : Nat) : Prop := T0 < u.heap.size ∧ u.cell? ⟨T0, 0, none⟩ = some (.slice Bt n ct)
theorem iclo_ok (T0 : Nat) (Bt : Option Addr) (ct : Nat) (t : List Int) (i : Int) (w : World) (ht : t.length ≤ 1000) (hc : t.length ≤ ct) (hbox : BoxT w T0 Bt t.length ct) (h : Has w w.heap.size Bt (t.map (Value.int .i32))) :
    Calls Tryd.prog 44 #[.int .i64 i, .pointer (some ⟨T0, 0, none⟩)] w fun e w' => e = .returned (.bool (!isV (cls t) i)) ∧ Up w w' := by
  have HC := Lib.hid (is_ok Bt ct i t w ht hc h)
  have hcell := hbox.2
  obtain ⟨V, hV⟩ : ∃ V, isV (cls t) i = V := ⟨_, rfl⟩
  rw [hV] at HC ⊢
  clear hV h
  go_enter Tryd.func44, Tryd.ntmps44
  go_wp2_with (first | (go_at_call 45; (with_reducible refine HC.out.mono ?_); rintro e u ⟨rfl, hu⟩))
  go_ret
  exact ⟨rfl, hu⟩

/-- of all blocks only g has turned since W0: what the closure reads stands -/
theorem BoxT.keeps {W0 u : World} {T0 g n ct : Nat} {Bt : Option Addr} (h : BoxT W0 T0 Bt n ct) (hk : Keeps g W0 u) (hne : T0 ≠ g) : BoxT u T0 Bt n ct :=
  ⟨by have := hk.1; have := h.1; omega, by rw [← h.2]; unfold World.cell?; rw [hk.2 T0 h.1 hne]⟩
theorem Has.keep {W0 u : World} {g : Nat} {A : Option Addr} {xs : List Value} (h : Has W0 W0.heap.size A xs) (hk : Keeps g W0 u) (hne : ∀ a, A = some a → a.block ≠ g) : Has u u.heap.size A xs :=
  h.stays hk.1 fun a ha hlt => hk.2 a.block hlt (hne a ha)
theorem Keeps.up {g : Nat} {a b c : World} (h : Keeps g a b) (hu : Up b c) : Keeps g a c := h.trans (Keeps.of_up hu)

def keepF (t : List Int) (z : Int) : Bool := isV (cls t) z
/-- the first place that is no bound -/
def idxD (t : List Int) : List Int → Option Nat
  | [] => none
  | x :: l => if keepF t x then (idxD t l).map (· + 1) else some 0
theorem idxD_at (t : List Int) : ∀ (l : List Int) (k : Nat), (∀ j, j < k → keepF t (l.getD j 0) = true) → k < l.length → keepF t (l.getD k 0) = false → idxD t l = some k
  | [], k, _, h1, _ => by simp at h1
  | c :: l, 0, _, _, h2 => by
    have : keepF t c = false := by simpa using h2
    simp [idxD, this]
  | c :: l, k + 1, h, h1, h2 => by
    have h0 : keepF t c = true := by simpa using h 0 (by omega)
    have ih := idxD_at t l k (fun j hj => by simpa using h (j + 1) (by omega)) (by simpa using h1) (by simpa using h2)
    simp [idxD, h0, ih]
theorem idxD_none (t : List Int) : ∀ (l : List Int), (∀ j, j < l.length → keepF t (l.getD j 0) = true) → idxD t l = none ∧ l.filter (keepF t) = l
  | [], _ => ⟨rfl, rfl⟩
  | c :: l, h => by
    have h0 : keepF t c = true := by simpa using h 0 (by simp)
    have ih := idxD_none t l (fun j hj => by simpa using h (j + 1) (by simpa using hj))
    refine ⟨by simp [idxD, h0, ih.1], ?_⟩
    rw [List.filter_cons_of_pos h0, ih.2]
theorem idxD_all {t : List Int} : ∀ {l : List Int}, idxD t l = none → ∀ (j : Nat) (hj : j < l.length), keepF t l[j] = true
  | [], _, j, hj => absurd hj (Nat.not_lt_zero _)
  | c :: l, h, j, hj => by
    unfold idxD at h
    split at h
    · rename_i h0
      rw [Option.map_eq_none_iff] at h
      cases j with
      | zero => exact h0
      | succ j => exact idxD_all h j (by simpa using hj)
    · cases h
theorem idxD_some (t : List Int) : ∀ (l : List Int) (k : Nat), idxD t l = some k → k < l.length ∧ (l.take (k + 1)).filter (keepF t) = l.take k
  | [], k, h => by cases h
  | c :: l, k, h => by
    unfold idxD at h
    split at h
    · rename_i h0
      rw [Option.map_eq_some_iff] at h
      obtain ⟨k', h1, rfl⟩ := h
      obtain ⟨a, b⟩ := idxD_some t l k' h1
      refine ⟨by simpa using a, ?_⟩
      rw [List.take_succ_cons, List.filter_cons_of_pos h0, b, List.take_succ_cons]
    · rename_i h0
      injection h with h
      subst h
      refine ⟨by simp, ?_⟩
      simp [h0]

def zO : Option Nat → Int
  | some k => (k : Int)
  | none => -1
set_option maxHeartbeats 2000000 in
theorem indexD_ok (T0 : Nat) (Bt : Option Addr) (ct : Nat) (t : List Int) (A : Option Addr) (c n : Nat) (zs : List Int) (w : World) (ht : t.length ≤ 1000) (hc : t.length ≤ ct) (hbox : BoxT w T0 Bt t.length ct) (h2 : Has w w.heap.size Bt (t.map (Value.int .i32)))
    (hzn : n = zs.length) (hn : zs.length ≤ 100000) (h : Has w w.heap.size A (zs.map (Value.int .i64))) :
    Calls Tryd.prog 50 #[.slice A n c, .func (.func 44) #[] #[.pointer (some ⟨T0, 0, none⟩)]] w fun e w' => e = .returned (.int .i64 (zO (idxD t zs))) ∧ Up w w' := by
  subst hzn
  have HA0 := Lib.hid (fun (k : Nat) a b c => idxD_at t zs k a b c)
  have HN0 := Lib.hid (fun a => (idxD_none t zs a).1)
  obtain ⟨V, hV⟩ : ∃ V, idxD t zs = V := ⟨_, rfl⟩
  rw [hV] at HA0 HN0 ⊢
  have HH := Lib.hid (fun (w' : World) (hu : Up w w') => (h.carry hu.1 : Has w' w'.heap.size A _))
  have HCL := Lib.hid (fun (w' : World) (hu : Up w w') (i : Int) => iclo_ok T0 Bt ct t i w' ht hc ⟨by have := hu.1.size; have := hbox.1; omega, (hu.1.cell (p := ⟨T0, 0, none⟩) hbox.1).trans hbox.2⟩ (h2.carry hu.1))
  clear h h2 hbox hV
  go_enter Tryd.func50, Tryd.ntmps50
  go_wp2
  go_loopw [8] (fun v wr => ∃ k : Nat, k ≤ zs.length ∧ v = .int .i64 k ∧ Hid (∀ j, j < k → keepF t (zs.getD j 0) = true) ∧ Up w wr) (fun v _ => zs.length - (intOf v).toNat)
  case atStart => exact ⟨0, by omega, rfl, Lib.hid (fun j hj => absurd hj (Nat.not_lt_zero _)), Up.refl _⟩
  case round =>
    obtain ⟨k, hk, rfl, HA, hU⟩ := hrel
    by_cases hlt : k < zs.length
    · obtain ⟨b, off, rfl, hb, hcc⟩ := (HH.out _ hU).at_int hlt
      have hD : zs.getD k 0 = zs[k] := by simp [List.getD, List.getElem?_eq_getElem hlt]
      obtain ⟨X, hX⟩ : ∃ X, zs[k] = X := ⟨_, rfl⟩
      rw [hX] at hcc hD
      have HD := Lib.hid hD
      have HC := Lib.hid (HCL.out _ hU X)
      obtain ⟨Y, hY⟩ : ∃ Y, isV (cls t) X = Y := ⟨_, rfl⟩
      rw [hY] at HC
      have HY := Lib.hid (show keepF t X = Y from hY)
      clear hX hD hY
      cases Y
      · rw [Bool.not_false] at HC
        have HE : Hid (V = some k) := Lib.hid (HA0.out k HA.out hlt (by rw [HD.out]; exact HY.out))
        go_wp2_with (first | (go_at_call 44; (with_reducible refine HC.out.mono ?_); rintro e u ⟨rfl, hu⟩; have hU := hU.trans hu))
        go_ret
        exact ⟨by rw [HE.out] <;> rfl, hU⟩
      · rw [Bool.not_true] at HC
        have HK : Hid (∀ j, j < k + 1 → keepF t (zs.getD j 0) = true) := Lib.hid (fun j hj => by
          rcases Nat.lt_or_ge j k with e | e
          · exact HA.out j e
          · obtain rfl : j = k := by omega
            rw [HD.out]; exact HY.out)
        go_wp2_with (first | (go_at_call 44; (with_reducible refine HC.out.mono ?_); rintro e u ⟨rfl, hu⟩; have hU := hU.trans hu))
        go_roundw
        case rel => exact ⟨k + 1, by omega, by go_num, HK, hU⟩
        case measure => simp [intOf] <;> omega
    · obtain rfl : k = zs.length := by omega
      have HE : Hid (V = none) := Lib.hid (HN0.out HA.out)
      go_wp2
      go_ret
      exact ⟨by rw [HE.out] <;> rfl, hU⟩
end Go.Proofs.YtekjejbcdnghjaaDoor

/-
  slices.DeleteFunc at ints over In's closure: what is no bound is struck. Condition: at most 1000 code points, at most 100000 places.
-/
set_option linter.unusedVariables false
set_option linter.unusedSimpArgs false
namespace Go.Proofs.YtekjejbcdnghjaaDoor
open Go.ChangeShapes Go.WideShapes Go.ChangeAt Go.RowKit Go.Sort

theorem Mine.beyond {k : IntKind} {e : TypeId} {w : World} {B g i c : Nat} {xs : List Int} (h : Mine k e w B (.slice (some ⟨g, 0, none⟩) i c) xs) (j : Nat) (hj : xs.length ≤ j) (v : Value) : Mine k e (w.setCell ⟨g, j, none⟩ v) B (.slice (some ⟨g, 0, none⟩) i c) xs := by
  refine ⟨h.1, ?_⟩
  rcases h.2 with ⟨a, b⟩ | ⟨g', cap, cur, a, b, hg, hc, hm, hs, ht⟩
  · cases a
  · injection a with a1 a2 a3
    injection a1 with a1
    injection a1 with a1
    subst a1; subst a2; subst a3
    refine .inr ⟨g, c, cur.setIfInBounds j v, rfl, b, ?_, hc, hm, by simp [hs], ?_⟩
    · have hlt := (Array.getElem?_eq_some_iff.1 hg).1
      have h' : w.heap[g] = .cells cur e (0, 0) := by simpa [Array.getElem?_eq_getElem hlt] using hg
      show (w.heap.modify g _)[g]? = _
      rw [Array.getElem?_eq_getElem (by simpa using hlt), Array.getElem_modify_self, h']
      rfl
    · rw [Array.toList_setIfInBounds, Nat.mul_one, List.take_set_of_le hj]
      rwa [Nat.mul_one] at ht
theorem Mine.beyonds {k : IntKind} {e : TypeId} {B g i c : Nat} {xs : List Int} : ∀ (vs : List Value) (j : Nat) {w : World}, Mine k e w B (.slice (some ⟨g, 0, none⟩) i c) xs → xs.length ≤ j → Mine k e (w.setCells g j vs) B (.slice (some ⟨g, 0, none⟩) i c) xs
  | [], _, _, h, _ => h
  | v :: vs, j, w, h, hj => Mine.beyonds vs (j + 1) (h.beyond j hj v) (by omega)
theorem below_setCells {B g : Nat} {a : World} (hg : B ≤ g) : ∀ (vs : List Value) (j : Nat) {w : World}, Below B a w → Below B a (w.setCells g j vs)
  | [], _, _, h => h
  | v :: vs, j, w, h => below_setCells hg vs (j + 1) (h.setCell (p := ⟨g, j, none⟩) hg v)

/-- between two places: i have been kept of the first j; what comes behind stands as it stood -/
structure DelS (t xs M : List Int) (i j : Nat) : Prop where
  len : M.length = xs.length
  kept : M.take i = (xs.take j).filter (keepF t)
  cnt : i = ((xs.take j).filter (keepF t)).length
  lt : i < j
  rest : ∀ k, j ≤ k → M[k]? = xs[k]?
theorem DelS.yes {t xs M : List Int} {i j : Nat} {X : Int} (h : DelS t xs M i j) (hj : xs[j]? = some X) (hk : keepF t X = true) : DelS t xs (M.set i X) (i + 1) (j + 1) := by
  have e : xs.take (j + 1) = xs.take j ++ [X] := by rw [List.take_add_one, hj]; rfl
  have hjl := (List.getElem?_eq_some_iff.1 hj).1
  refine ⟨by rw [List.length_set]; exact h.len, ?_, ?_, by have := h.lt; omega, fun k hk2 => ?_⟩
  · rw [e, List.filter_append, ← h.kept, List.filter_cons_of_pos hk, List.filter_nil, List.take_set, List.take_add_one, List.getElem?_eq_getElem (by have := h.lt; have := h.len; omega)]
    have hl : (M.take i).length = i := by rw [List.length_take]; have := h.lt; have := h.len; omega
    show (M.take i ++ [_]).set i X = _
    rw [List.set_append_right _ _ (by omega), hl]
    simp
  · rw [e, List.filter_append, List.length_append, ← h.cnt, List.filter_cons_of_pos hk]; rfl
  · rw [List.getElem?_set_ne (by have := h.lt; omega)]
    exact h.rest k (by omega)
theorem DelS.no {t xs M : List Int} {i j : Nat} {X : Int} (h : DelS t xs M i j) (hj : xs[j]? = some X) (hk : keepF t X = false) : DelS t xs M i (j + 1) := by
  have e : xs.take (j + 1) = xs.take j ++ [X] := by rw [List.take_add_one, hj]; rfl
  have e2 : (xs.take (j + 1)).filter (keepF t) = (xs.take j).filter (keepF t) := by
    rw [e, List.filter_append, List.filter_cons_of_neg (by simp [hk]), List.filter_nil, List.append_nil]
  exact ⟨h.len, by rw [e2]; exact h.kept, by rw [e2]; exact h.cnt, by have := h.lt; omega, fun k hk2 => h.rest k (by omega)⟩

/-- what DeleteFunc holds between two places -/
structure DelW (t xs : List Int) (B g c : Nat) (W0 wx : World) (M : List Int) (i j : Nat) : Prop where
  st : DelS t xs M i j
  own : Mine .i64 3 wx B (.slice (some ⟨g, 0, none⟩) xs.length c) M
  keep : Keeps g W0 wx
  bel : Below B W0 wx

set_option maxRecDepth 20000 in
set_option maxHeartbeats 4000000 in
theorem del_nil (A : Option Addr) (c : Nat) (T0 : Nat) (Bt : Option Addr) (ct : Nat) (t : List Int) (w : World) (ht : t.length ≤ 1000) (hc : t.length ≤ ct) (hbox : BoxT w T0 Bt t.length ct) (h2 : Has w w.heap.size Bt (t.map (Value.int .i32))) :
    Calls Tryd.prog 43 #[.slice A 0 c, .func (.func 44) #[] #[.pointer (some ⟨T0, 0, none⟩)]] w fun e w' => e = .returned (.slice A 0 c) ∧ Up w w' := by
  have HI := Lib.hid (indexD_ok T0 Bt ct t A c 0 [] w ht hc hbox h2 rfl (by simp) Has.nil_)
  rw [show zO (idxD t []) = -1 from rfl] at HI
  clear h2 hbox
  go_enter Tryd.func43, Tryd.ntmps43
  go_wp2_with (first | (go_at_call 50; (with_reducible refine HI.out.mono ?_); rintro e u ⟨rfl, hu⟩))
  go_ret
  exact ⟨rfl, hu⟩

set_option maxRecDepth 20000 in
set_option maxHeartbeats 8000000 in
theorem del_ok (B g n c T0 : Nat) (Bt : Option Addr) (ct : Nat) (t xs : List Int) (W0 : World) (hn : n = xs.length) (hx : xs.length ≤ 100000) (ht : t.length ≤ 1000) (hct : t.length ≤ ct)
    (hM : Mine .i64 3 W0 B (.slice (some ⟨g, 0, none⟩) n c) xs) (hbox : BoxT W0 T0 Bt t.length ct) (hne : T0 ≠ g) (hH : Has W0 W0.heap.size Bt (t.map (Value.int .i32))) (hBt : ∀ a, Bt = some a → a.block ≠ g) :
    Calls Tryd.prog 43 #[.slice (some ⟨g, 0, none⟩) n c, .func (.func 44) #[] #[.pointer (some ⟨T0, 0, none⟩)]] W0 fun e w' => ∃ v', e = .returned v' ∧ Mine .i64 3 w' B v' (xs.filter (keepF t)) ∧ Below B W0 w' := by
  obtain ⟨A1, c1, hv, hc1, hf1, hh1⟩ := hM.size
  injection hv with hv1 hv2 hv3
  subst hv1
  subst hv3
  have hBg : B ≤ g ∧ g < W0.heap.size := hM.own_lt g rfl
  have HI := Lib.hid (indexD_ok T0 Bt ct t (some ⟨g, 0, none⟩) c n xs W0 ht hct hbox hH hn hx hh1)
  have hB0 : B ≤ W0.heap.size := by omega
  have HBX := Lib.hid (fun (u : World) (hk : Keeps g W0 u) (i : Int) => iclo_ok T0 Bt ct t i u ht hct (hbox.keeps hk hne) (hH.keep hk hBt))
  have HS := fun k => Lib.hid (idxD_some t xs k)
  have HN := Lib.hid (fun (h : idxD t xs = none) => show xs.filter (keepF t) = xs from List.filter_eq_self.2 (fun a ha => by
    obtain ⟨j, hj, rfl⟩ := List.mem_iff_getElem.1 ha
    exact idxD_all h j hj))
  subst hn
  have HM := Lib.hid hM
  obtain ⟨V, hV⟩ : ∃ V, idxD t xs = V := ⟨_, rfl⟩
  rw [hV] at HI HN
  simp only [hV] at HS
  clear hV hM hbox hH hBt hh1 hf1
  cases V with
  | none =>
    rw [show zO none = -1 from rfl] at HI
    have HE := Lib.hid (HN.out rfl)
    go_enter Tryd.func43, Tryd.ntmps43
    go_wp2_with (first | (go_at_call 50; (with_reducible refine HI.out.mono ?_); rintro e u ⟨rfl, hu⟩))
    go_ret
    exact ⟨_, rfl, by rw [HE.out]; exact HM.out.up hu, hu.1.mono hB0⟩
  | some k0 =>
    rw [show zO (some k0) = (k0 : Int) from rfl] at HI
    obtain ⟨hk0, htk⟩ := (HS k0).out rfl
    have hD0 : DelS t xs xs k0 (k0 + 1) := ⟨rfl, htk.symm, by rw [htk, List.length_take]; omega, by omega, fun _ _ => rfl⟩
    have HD0 := Lib.hid hD0
    have hk00 : ((k0 : Int) == -1) = false := beq_eq_false_iff_ne.2 (by omega)
    clear HS HN htk hD0
    go_enter Tryd.func43, Tryd.ntmps43
    go_wp2_with (first | (go_at_call 50; (with_reducible refine HI.out.mono ?_); rintro e u ⟨rfl, hu⟩))
    have HST := Lib.hid (show DelW t xs B g c W0 u xs k0 (k0 + 1) from ⟨HD0.out, HM.out.up hu, Keeps.of_up hu, hu.1.mono hB0⟩)
    clear HI HM HD0 hu
    go_loopw [5, 6] (fun v5 v6 wx => ∃ (i j : Nat) (M : List Int), j ≤ xs.length ∧ i < j ∧ v5 = .int .i64 i ∧ v6 = .int .i64 j ∧ Hid (DelW t xs B g c W0 wx M i j)) (fun _ v _ => xs.length - (intOf v).toNat)
    case atStart => exact ⟨k0, k0 + 1, xs, by omega, by omega, rfl, by go_num, HST⟩
    case round =>
      clear HST
      obtain ⟨i, j, M, hj, hij, rfl, rfl, HW⟩ := hrel
      have hml := HW.out.st.len
      by_cases hlt : j < xs.length
      · have hxj : xs[j]? = some xs[j] := List.getElem?_eq_getElem hlt
        have hMj : M[j]? = some xs[j] := by rw [HW.out.st.rest j (Nat.le_refl _)]; exact hxj
        obtain ⟨X, hX⟩ : ∃ X, xs[j] = X := ⟨_, rfl⟩
        rw [hX] at hxj hMj
        have hcc : wr.cell? ⟨g, j, none⟩ = some (.int .i64 X) := by
          have := HW.out.own.cellAt j (by omega)
          rw [this]
          rw [List.getElem?_eq_getElem (by omega)] at hMj
          injection hMj with hMj
          rw [hMj]
        have HC := Lib.hid (HBX.out wr HW.out.keep X)
        obtain ⟨Y, hY⟩ : ∃ Y, isV (cls t) X = Y := ⟨_, rfl⟩
        rw [hY] at HC
        have HY := Lib.hid (show keepF t X = Y from hY)
        have HXJ := Lib.hid hxj
        have HML := Lib.hid hml
        clear hX hY hxj hMj hml
        cases Y
        · rw [Bool.not_false] at HC
          have HS2 := Lib.hid (HW.out.st.no HXJ.out HY.out)
          go_wp2_with (first | (go_at_call 44; (with_reducible refine HC.out.mono ?_); rintro e u2 ⟨rfl, hu2⟩))
          have HW2 := Lib.hid (show DelW t xs B g c W0 u2 M i (j + 1) from ⟨HS2.out, HW.out.own.up hu2, HW.out.keep.up hu2, HW.out.bel.trans (hu2.1.mono (by have := HW.out.bel.size; omega))⟩)
          go_roundw
          case rel => exact ⟨i, j + 1, M, by omega, by omega, rfl, by go_num, HW2⟩
          case measure => simp [intOf] <;> omega
        · rw [Bool.not_true] at HC
          have HS2 := Lib.hid (HW.out.st.yes HXJ.out HY.out)
          have HUP := Lib.hid (fun (u2 : World) (hu2 : Up wr u2) => show Mine .i64 3 u2 B (.slice (some ⟨g, 0, none⟩) xs.length c) M ∧ Keeps g W0 u2 ∧ Below B W0 u2 from ⟨HW.out.own.up hu2, HW.out.keep.up hu2, HW.out.bel.trans (hu2.1.mono (by have := HW.out.bel.size; omega))⟩)
          go_wp2_with (first | (go_at_call 44; (with_reducible refine HC.out.mono ?_); rintro e u2 ⟨rfl, hu2⟩; obtain ⟨hO2, hK2, hB2⟩ := HUP.out u2 hu2; have hfz := hO2.free i; obtain ⟨y, hcy⟩ : ∃ y, u2.cell? ⟨g, i, none⟩ = some (.int .i64 y) := ⟨_, hO2.cellAt i (by have := HML.out; omega)⟩; have HW2 := Lib.hid (show DelW t xs B g c W0 (u2.setCell ⟨g, i, none⟩ (.int .i64 X)) (M.set i X) (i + 1) (j + 1) from ⟨HS2.out, hO2.set i (by have := HML.out; omega) X, hK2.trans (Keeps.setCell u2 g i _), hB2.setCell (p := ⟨g, i, none⟩) hBg.1 _⟩); clear hO2 hK2 hB2))
          go_roundw
          case rel => exact ⟨i + 1, j + 1, _, by omega, by omega, by go_num, by go_num, HW2⟩
          case measure => simp [intOf] <;> omega
      · obtain rfl : j = xs.length := by omega
        have hil : i < xs.length := by omega
        have hT : M.take i = xs.filter (keepF t) := by have := HW.out.st.kept; rwa [List.take_length] at this
        have hcl : ∀ ty, (Builtin.clear_ #[23] ty #[.slice (some ⟨g, i, none⟩) (xs.length - i) (c - i)]).run Tryd.prog wr = .ok (.tuple #[]) (wr.setCells g i (List.replicate (xs.length - i) (.int .i64 0))) :=
          fun ty => Lib.run_clear_slice wr _ _ ty _ Tryd.underlying23 Tryd.zeroValue3 rfl rfl g i _ _ (by omega) (fun q hq => by rw [HW.out.own.cellAt (i + q) (by omega)]; rfl) (fun q hq => HW.out.own.free (i + q))
        have hs1 := fun W => is_lo (some ⟨g, 0, none⟩) xs.length c i (i : Int) rfl (by omega) W
        have e1 : subA (some ⟨g, 0, none⟩) c i = some ⟨g, i, none⟩ := by unfold subA; rw [if_neg (by omega)]; simp [Addr.add] <;> omega
        rw [e1] at hs1
        have hs2 := fun W => is_hi (some ⟨g, 0, none⟩) xs.length c i (i : Int) rfl (by omega) (by omega) W
        have hcut := HW.out.own.cut (q := i) (by omega)
        have hlen : (M.take i).length = i := by rw [List.length_take]; omega
        have hfin : Mine .i64 3 (wr.setCells g i (List.replicate (xs.length - i) (.int .i64 0))) B (.slice (some ⟨g, 0, none⟩) i c) (xs.filter (keepF t)) := by
          rw [← hT]
          exact Mine.beyonds _ i hcut (by omega)
        have HF := Lib.hid (And.intro hfin (below_setCells hBg.1 (List.replicate (xs.length - i) (.int .i64 0)) i HW.out.bel))
        obtain ⟨d, hd⟩ : ∃ d, xs.length - i = d := ⟨_, rfl⟩
        rw [hd] at hcl hs1 HF
        obtain ⟨W9, hW9⟩ : ∃ W9, wr.setCells g i (List.replicate d (.int .i64 0)) = W9 := ⟨_, rfl⟩
        rw [hW9] at hcl HF
        clear hcut hfin hT hlen e1 hd hW9 hml
        go_wp2
        go_ret
        exact ⟨_, rfl, HF.out.1, HF.out.2⟩
end Go.Proofs.YtekjejbcdnghjaaDoor

/-
  The program's In, of a receiver whose Points are known; of a nil one. Condition: at most 1000 code points.
-/
set_option linter.unusedVariables false
set_option linter.unusedSimpArgs false
namespace Go.Proofs.YtekjejbcdnghjaaDoor
open Go.ChangeShapes Go.WideShapes Go.ChangeAt Go.RowKit Go.Sort

set_option maxRecDepth 100000 in
theorem soft_no : ¬ isL 173 := fun h => absurd (show (ofP 173).wd = 1 from h) (by decide +kernel)
/-- the places found ahead of p -/
def InL (t : List Int) (W : List Int → Int → Prop) (p : Nat) (l : List Int) : Prop := l.Pairwise (· < ·) ∧ ∀ z, z ∈ l ↔ ∃ i : Nat, z = i ∧ ((SoftH t i ∧ i ≤ p) ∨ DoneH isL W t p i)
theorem inL_start (t : List Int) (W : List Int → Int → Prop) : InL t W 0 [] := ⟨List.Pairwise.nil, fun z => ⟨fun h => absurd h List.not_mem_nil, fun ⟨i, _, h⟩ => by
  rcases h with ⟨h1, h2⟩ | h
  · have := h1.1; omega
  · exact absurd h DoneH.zero⟩⟩
theorem inL_le {t : List Int} {W : List Int → Int → Prop} {p : Nat} {l : List Int} (hW : InsideW W) (h : InL t W p l) : ∀ z ∈ l, 0 ≤ z ∧ z ≤ p := fun z hz => by
  obtain ⟨i, rfl, h1⟩ := (h.2 z).1 hz
  rcases h1 with ⟨_, h2⟩ | ⟨a, b, h2, h3⟩
  · omega
  · have := h3.in_ hW; omega
theorem inL_len {t : List Int} {W : List Int → Int → Prop} {p : Nat} {l : List Int} (hW : InsideW W) (h : InL t W p l) : l.length ≤ p + 1 := by
  have := rise_len l 0 ((p : Int) + 1) h.1 (fun z hz => by have := inL_le hW h z hz; omega)
  omega
theorem inL_ne {t : List Int} {W : List Int → Int → Prop} {p : Nat} {l : List Int} (hW : InsideW W) (h : InL t W p l) (hl : l ≠ []) : t ≠ [] := fun e => by
  obtain ⟨z, hz⟩ := List.exists_mem_of_ne_nil l hl
  obtain ⟨i, rfl, h1⟩ := (h.2 z).1 hz
  subst e
  rcases h1 with ⟨h2, _⟩ | ⟨a, b, h2, h3⟩
  · have := h2.2.1; simp at this
  · have h4 := h3.in_ hW
    have h5 := h3.1.fits
    simp at h5
    omega
theorem inL_step {t : List Int} {acc : List Pat} {p q : Nat} {l r : List Int} (h : InL t (PtW acc) p l) (hR : RangeL isL t p q) (hr : PointsS acc ((t.drop p).take (q - p)) r) :
    InL t (PtW acc) (q + 1) ((l ++ r.map fun z => (p : Int) + z) ++ (if q + 1 < t.length ∧ t.getD q 0 = 173 then [((q : Int) + 1)] else [])) := by
  have hW := PtW.inside acc
  have hle := inL_le hW h
  have hrr := hr.rise
  have hlen : ((t.drop p).take (q - p)).length = q - p := by rw [List.length_take, List.length_drop]; have := hR.fits; omega
  rw [hlen] at hrr
  have hpq := hR.le
  refine ⟨?_, fun z => ?_⟩
  · rw [List.pairwise_append, List.pairwise_append]
    refine ⟨⟨h.1, ?_, fun x hx y hy => ?_⟩, ?_, fun x hx y hy => ?_⟩
    · rw [List.pairwise_map]; exact hrr.1.imp fun h => by omega
    · obtain ⟨z, hz, rfl⟩ := List.mem_map.1 hy
      have := hle x hx; have := hrr.2 z hz; omega
    · split <;> simp
    · split at hy
      · rw [List.mem_singleton.1 hy]
        rcases List.mem_append.1 hx with hx | hx
        · have := hle x hx; omega
        · obtain ⟨z, hz, rfl⟩ := List.mem_map.1 hx
          have := hrr.2 z hz; omega
      · simp at hy
  · rw [List.mem_append, List.mem_append, h.2 z, List.mem_map]
    have hstep := fun i => DoneH.step (i := i) hW hR r (fun z => PtW.iff hr z)
    constructor
    · rintro ((⟨i, rfl, h1⟩ | ⟨y, hy, rfl⟩) | h1)
      · refine ⟨i, rfl, ?_⟩
        rcases h1 with ⟨h2, h3⟩ | h2
        · exact Or.inl ⟨h2, by omega⟩
        · exact Or.inr ((hstep i).2 (Or.inl h2))
      · have := hrr.2 y hy
        refine ⟨((p : Int) + y).toNat, by omega, Or.inr ((hstep _).2 (Or.inr ⟨y, hy, by omega⟩))⟩
      · split at h1
        · rename_i hc
          refine ⟨q + 1, by rw [List.mem_singleton.1 h1]; omega, Or.inl ⟨⟨by omega, hc.1, by rw [Nat.add_sub_cancel]; exact hc.2⟩, Nat.le_refl _⟩⟩
        · simp at h1
    · rintro ⟨i, rfl, h1⟩
      rcases h1 with ⟨h2, h3⟩ | h2
      · rcases Nat.lt_or_ge p i with e | e
        · rcases Nat.lt_or_ge q i with e2 | e2
          · obtain rfl : i = q + 1 := by omega
            right
            obtain ⟨a, b, c⟩ := h2
            rw [Nat.add_sub_cancel] at c
            rw [if_pos ⟨b, c⟩]
            simp
          · exfalso
            have := hR.all (i - 1) (by omega) (by omega)
            rw [h2.2.2] at this
            exact soft_no this
        · exact Or.inl (Or.inl ⟨i, rfl, Or.inl ⟨h2, e⟩⟩)
      · rcases (hstep i).1 h2 with h3 | ⟨y, hy, e⟩
        · exact Or.inl (Or.inl ⟨i, rfl, Or.inr h3⟩)
        · exact Or.inl (Or.inr ⟨y, hy, e.symm⟩)
theorem bnds_isV (L : List Int) (i : Nat) : (i : Int) ∈ zb (bnds L) ↔ isV L i = true := by
  unfold zb isV
  rw [List.mem_map, Bool.and_eq_true, decide_eq_true_eq, Int.toNat_natCast]
  constructor
  · rintro ⟨j, hj, e⟩
    obtain rfl : j = i := by omega
    obtain ⟨a, b⟩ := mem_bnds.1 hj
    exact ⟨by omega, b⟩
  · rintro ⟨a, b⟩
    exact ⟨i, mem_bnds.2 ⟨by omega, b⟩, rfl⟩
theorem inL_end {t : List Int} {W : List Int → Int → Prop} {p : Nat} {l : List Int} (hW : InsideW W) (h : InL t W p l) (hp : t.length ≤ p) (hl : p = 0 ∨ t.length < p ∨ ¬ isL (t.getD (p - 1) 0)) : InS isL W (zb (bnds (cls t))) t (l.filter (keepF t)) := by
  refine ⟨h.1.filter _, fun z => ?_⟩
  rw [List.mem_filter, h.2 z]
  have hend := fun i => DoneH.end_ (i := i) hW hp hl
  constructor
  · rintro ⟨⟨i, rfl, h1⟩, h2⟩
    refine ⟨(bnds_isV _ i).2 h2, i, rfl, ?_⟩
    rcases h1 with ⟨h3, _⟩ | h3
    · exact Or.inl h3
    · exact Or.inr ((hend i).1 h3)
  · rintro ⟨h1, i, rfl, h2⟩
    refine ⟨⟨i, rfl, ?_⟩, (bnds_isV _ i).1 h1⟩
    rcases h2 with h3 | h3
    · exact Or.inl ⟨h3, by have := h3.2.1; omega⟩
    · exact Or.inr ((hend i).2 h3)

set_option maxRecDepth 20000 in
set_option maxHeartbeats 16000000 in
theorem in_gen (v : Value) (acc : List Pat) (B : Option Addr) (c : Nat) (t : List Int) (w : World) (ht : t.length ≤ 1000) (hc : t.length ≤ c) (hwf : ∀ z ∈ t, (Lit.int .i32 z).wf = true) (h : Has w w.heap.size B (t.map (Value.int .i32)))
    (hPO : ∀ (u : World) (A : Option Addr) (c' : Nat) (wd : List Int), Below w.heap.size w u → wd.length ≤ 1000 → wd.length ≤ c' → (∀ z ∈ wd, (Lit.int .i32 z).wf = true) → Has u u.heap.size A (wd.map (Value.int .i32)) →
      Calls Tryd.prog 19 #[v, .slice A wd.length c'] u fun e w' => ∃ r, SliceOf .i64 u w' e r ∧ PointsS acc wd r) :
    Calls Tryd.prog 21 #[v, .slice B t.length c] w fun e w' => ∃ r, SliceOf .i64 w w' e r ∧ InS isL (PtW acc) (zb (bnds (cls t))) t r := by
  obtain ⟨n, hn⟩ : ∃ n, t.length = n := ⟨_, rfl⟩
  have hb0 : Below w.heap.size w (w.alloc (.cells #[.slice B n c] 22)) := (Below.refl _ _).alloc (Nat.le_refl _) _
  have hcell : (w.alloc (.cells #[.slice B n c] 22)).cell? ⟨w.heap.size, 0, none⟩ = some (.slice B n c) := push_cell w (.slice B n c) 22 0 _ rfl
  have hs0 : (w.alloc (.cells #[.slice B n c] 22)).heap.size = w.heap.size + 1 := by simp
  obtain ⟨W0, hW0⟩ : ∃ W0, w.alloc (.cells #[.slice B n c] 22) = W0 := ⟨_, rfl⟩
  rw [hW0] at hb0 hcell hs0
  have HP := Lib.hid hPO
  have HB0 := Lib.hid hb0
  have HH := Lib.hid (h.carry hb0)
  have HW := Lib.hid hwf
  have HN := Lib.hid hn
  have hBlt : ∀ a, B = some a → t ≠ [] → a.block < w.heap.size := fun a ha hne => by
    obtain ⟨b, off, e, hl, _⟩ := h (by simpa using hne)
    rw [ha] at e; injection e with e; rw [e]; exact hl
  have HBL := Lib.hid hBlt
  obtain ⟨T0, hT0⟩ : ∃ T0, w.heap.size = T0 := ⟨_, rfl⟩
  have HT0 := Lib.hid hT0
  rw [hT0] at hcell hs0
  have hBX : BoxT W0 T0 B n c := ⟨by omega, hcell⟩
  have HBX := Lib.hid hBX
  have HS0 := Lib.hid hs0
  rw [hn] at ht hc ⊢
  clear hPO hb0 h hwf hBlt hBX hn
  go_enter Tryd.func21, Tryd.ntmps21
  go_wp2
  (try simp only [hT0, hW0])
  clear hT0 hW0 hcell hs0
  go_loopw [5, 6] (fun v5 v6 wx => ∃ (p : Nat) (l : List Int), p ≤ n + 1 ∧ v6 = .int .i64 p ∧ Mine .i64 3 wx W0.heap.size v5 l ∧ Below W0.heap.size W0 wx ∧ Hid (p = 0 ∨ n < p ∨ ¬ isL (t.getD (p - 1) 0)) ∧ Hid (InL t (PtW acc) p l)) (fun _ v _ => n - (intOf v).toNat)
  case atStart => exact ⟨0, [], by omega, rfl, Mine.nil_ _ _ _ _, Below.refl _ _, Lib.hid (Or.inl rfl), Lib.hid (inL_start t (PtW acc))⟩
  case round =>
    obtain ⟨p, l, hp, rfl, hM, hbl, HL, HI⟩ := hrel
    have hcell : wr.cell? ⟨T0, 0, none⟩ = some (.slice B n c) := (hbl.cell (p := ⟨T0, 0, none⟩) HBX.out.1).trans HBX.out.2
    have hll := inL_len (PtW.inside acc) HI.out
    by_cases hlt : p < n
    · have hHw := HH.out.carry hbl
      have htl := HN.out
      have hR := lead_range (t := t) (p := p) (by omega) (by rcases HL.out with h1 | h1 | h1 <;> first | exact Or.inl h1 | omega | exact Or.inr h1)
      have hs1 := fun W => rs_lo B n c p (p : Int) rfl (by omega) W
      have hx1 := hHw.sub p c (by simp; omega)
      rw [← List.map_drop] at hx1
      have hcl := letters_ok (subA B c p) (c - p) (n - p) (t.drop p) wr (by rw [List.length_drop]; omega) (by rw [List.length_drop]; omega) hx1
      have hlel := lead_le (t.drop p)
      rw [List.length_drop] at hlel
      obtain ⟨L, hL⟩ : ∃ L, lead (t.drop p) = L := ⟨_, rfl⟩
      rw [hL] at hcl hR hlel
      obtain ⟨q, hq⟩ : ∃ q, p + L = q := ⟨_, rfl⟩
      rw [hq] at hR
      have hqI : (p : Int) + (L : Int) = (q : Int) := by omega
      have hqn : q ≤ n := by omega
      have hpq : p ≤ q := by omega
      have hs2 := fun W => rs_lh B n c p q (p : Int) (q : Int) rfl rfl hpq (by omega) W
      have HR := Lib.hid hR
      have hx2 := fun (u : World) (hu : Up wr u) => (((hx1.carry hu.1).front' (q - p) : Has u u.heap.size (subA B c p) (((t.drop p).map (Value.int .i32)).take (q - p))))
      obtain ⟨wd, hwd⟩ : ∃ wd, (t.drop p).take (q - p) = wd := ⟨_, rfl⟩
      have hwl : wd.length = q - p := by rw [← hwd, List.length_take, List.length_drop]; omega
      have hww : ∀ z ∈ wd, (Lit.int .i32 z).wf = true := fun z hz => HW.out z (List.mem_of_mem_drop (List.mem_of_mem_take (hwd ▸ hz)))
      simp only [← List.map_take, hwd] at hx2
      have HX2 := Lib.hid hx2
      have HCP := Lib.hid (fun (u : World) (hu : Up wr u) => HP.out u (subA B c p) (c - p) wd ((HB0.out.trans (hbl.mono (by have := HS0.out; have := HT0.out; omega))).trans (hu.1.mono (by have := hbl.size; have := HS0.out; have := HT0.out; omega))) (by omega) (by omega) hww (HX2.out u hu))
      have HCL := Lib.hid hcl
      rw [hwl] at HCP
      obtain ⟨A1, hA1⟩ : ∃ A1, subA B c p = A1 := ⟨_, rfl⟩
      obtain ⟨n1, hn1⟩ : ∃ n1, n - p = n1 := ⟨_, rfl⟩
      obtain ⟨n2, hn2⟩ : ∃ n2, q - p = n2 := ⟨_, rfl⟩
      obtain ⟨c1, hc1⟩ : ∃ c1, c - p = c1 := ⟨_, rfl⟩
      rw [hA1, hn1, hc1] at hs1
      rw [hA1, hn2, hc1] at hs2
      rw [hA1, hn1, hc1] at HCL
      simp only [hA1, hn2, hc1] at HCP
      have HWD := Lib.hid hwd
      have HXX := Lib.hid hx1
      clear hcl hlel hL hq hR hx1 hx2 hwl hww HX2 hA1 hn1 hc1 hwd htl
      have HN2 := Lib.hid hn2
      clear hn2
      have hp1 : p ≤ 1000 := by omega
      go_wp2_with (first
        | (go_at_call 42; (with_reducible refine HCL.out.mono ?_); rintro e u ⟨rfl, hu⟩; have hcell2 : u.cell? ⟨T0, 0, none⟩ = some (.slice B n c) := (hu.1.cell (p := ⟨T0, 0, none⟩) (by show T0 < _; have := hbl.size; have := HBX.out.1; omega)).trans hcell; have hcp := HCP.out u hu; have HM2 := Lib.hid (hM.up hu); have HBL2 := Lib.hid (hbl.trans (hu.1.mono hbl.size)); clear hM hbl hu)
        | (go_at_call 19; (with_reducible refine hcp.mono ?_); rintro e u3 ⟨r, ⟨vr, rfl, Ar, cr, rfl, hcr, hhr, hb3⟩, hpr⟩))
      have HM3 := Lib.hid (HM2.out.below hb3)
      have HBL3 := Lib.hid (HBL2.out.trans (hb3.mono (by have := HBL2.out.size; omega)))
      have HHR := Lib.hid hhr
      have hrl := PointsS.length hpr
      have HRR : Hid (∀ z ∈ r, 0 ≤ z ∧ z ≤ 1000) := Lib.hid (fun z hz => by
        have h1 := hpr.rise.2 z hz
        have h2 : wd.length ≤ 1000 := by rw [← HWD.out, List.length_take, List.length_drop]; have := HN.out; omega
        omega)
      have HFA : Hid (∀ a, Ar = some a → u5.ownBlock ≠ some a.block) := Lib.hid (fun a ha e => by
        have h1 := hcr.2 a ha
        have h2 := (HM2.out.own_lt _ e).2
        omega)
      have HPR := Lib.hid hpr
      have hT0 : T0 < W0.heap.size := HBX.out.1
      have HL0 := Lib.hid (show Mine .i64 3 u3 W0.heap.size u5 (l ++ (r.take 0).map fun z => (p : Int) + z) by rw [List.take_zero, List.map_nil, List.append_nil]; exact HM3.out)
      clear hcr hhr hb3 hpr hcp hcell2 hcell hs1 hs2 HCL HCP HM2 HM3
      go_loopw [5, 27] (fun v5 i wx => ∃ j : Nat, j ≤ r.length ∧ i = .int .i64 j ∧ Mine .i64 3 wx W0.heap.size v5 (l ++ (r.take j).map fun z => (p : Int) + z) ∧ Below W0.heap.size W0 wx ∧ Hid (Has wx wx.heap.size Ar (r.map (Value.int .i64))) ∧ Hid (∀ a, Ar = some a → v5.ownBlock ≠ some a.block)) (fun _ i _ => r.length - (intOf i).toNat)
      case atStart => exact ⟨0, by omega, rfl, HL0.out, HBL3.out, HHR, HFA⟩
      case round =>
        clear HL0 HHR HFA HBL3
        obtain ⟨j, hj, rfl, hM, hbl, HHR, HFA⟩ := hrel
        have hbs := hbl.size
        by_cases hjl : j < r.length
        · obtain ⟨b9, o9, rfl, hb9, hc9⟩ := HHR.out.at_int hjl
          have hz := HRR.out _ (List.getElem_mem hjl)
          have hTK : (r.take (j + 1)).map (fun z => (p : Int) + z) = (r.take j).map (fun z => (p : Int) + z) ++ [(p : Int) + r[j]] := by
            rw [List.take_add_one, List.getElem?_eq_getElem hjl, Option.toList_some, List.map_append]; rfl
          obtain ⟨Z, hZ⟩ : ∃ Z, r[j] = Z := ⟨_, rfl⟩
          rw [hZ] at hc9 hz hTK
          have hml : (l ++ (r.take j).map fun z => (p : Int) + z).length ≤ 3000 := by rw [List.length_append, List.length_map, List.length_take]; omega
          obtain ⟨ml, hmle⟩ : ∃ ml, (l ++ (r.take j).map fun z => (p : Int) + z) = ml := ⟨_, rfl⟩
          rw [hmle] at hM hml
          have HMM : Hid ((l ++ (r.take (j + 1)).map fun z => (p : Int) + z) = ml ++ [(p : Int) + Z]) := Lib.hid (by rw [hTK, ← List.append_assoc, hmle])
          have hwz : IntKind.i64.wrap ((p : Int) + Z) = (p : Int) + Z := IntWalk.i64_in _ (by omega)
          clear hZ hTK hmle
          go_wp2_with (at_builtin; refine wpList_push_far rfl _ _ 23 rfl Tryd.underlying23 fullI (by omega) W0.heap.size _ _ ((p : Int) + Z) _ hM rfl rfl hbs (by omega) ?_; intro v' w4 hM4 hb4 hf4; have HF4 := Lib.hid hf4; have HHR4 := Lib.hid (HHR.out.stays hb4.size fun a ha hlt => (hf4 a.block hlt (HFA.out a ha)).2); have HFA4 : Hid (∀ a, some (⟨b9, o9, none⟩ : Addr) = some a → v'.ownBlock ≠ some a.block) := Lib.hid (fun a ha => (by injection ha with ha; rw [← ha]; exact (hf4 b9 hb9 (HFA.out _ rfl)).1)); have HBL4 := Lib.hid (hbl.trans hb4); clear hf4 hb4 hM hbl hc9)
          go_roundw
          case rel => exact ⟨j + 1, by omega, by go_num, by rw [HMM.out]; exact hM4, HBL4.out, HHR4, HFA4⟩
          case measure => simp [intOf]; omega
        · obtain rfl : j = r.length := by omega
          rw [List.take_length] at hM
          have HIL := Lib.hid (inL_step HI.out HR.out (by rw [HWD.out]; exact HPR.out))
          have hmlen : (l ++ r.map fun z => (p : Int) + z).length ≤ 3000 := by rw [List.length_append, List.length_map]; omega
          obtain ⟨ml, hmle⟩ : ∃ ml, (l ++ r.map fun z => (p : Int) + z) = ml := ⟨_, rfl⟩
          rw [hmle] at HIL hM hmlen
          have hcell := (hbl.cell (p := ⟨T0, 0, none⟩) hT0).trans HBX.out.2
          have hHy := HH.out.carry hbl
          have hLn : Hid (n < q + 1 ∨ ¬ isL (t.getD q 0)) := Lib.hid (by
            rcases HR.out.right with h1 | h1
            · left; have := HN.out; omega
            · exact Or.inr h1)
          clear hmle HHR HFA
          by_cases hq1 : q + 1 < n
          · obtain ⟨b8, o8, hB8, hb8, hc8⟩ := hHy.at_int (k := q) (by have := HN.out; omega)
            have hgd : t.getD q 0 = t[q]'(by have := HN.out; omega) := by simp [List.getD, List.getElem?_eq_getElem (show q < t.length by have := HN.out; omega)]
            rw [← hgd] at hc8
            obtain ⟨Y, hY⟩ : ∃ Y, t.getD q 0 = Y := ⟨_, rfl⟩
            rw [hY] at hc8 HIL hLn
            rw [hB8] at hcell
            have hq2 : (q : Int) + 1 < (n : Int) := by omega
            clear hgd hHy hB8
            by_cases hY2 : Y = 173
            · have HI9 : Hid (InL t (PtW acc) (q + 1) (ml ++ [(q : Int) + 1])) := Lib.hid (by
                have := HIL.out
                rwa [if_pos ⟨by have := HN.out; omega, hY2⟩] at this)
              subst hY2
              have HYY := Lib.hid hY
              clear HIL hY
              go_wp2_with (at_builtin; refine wpList_push_far rfl _ _ 23 rfl Tryd.underlying23 fullI (by omega) W0.heap.size _ _ ((q : Int) + 1) _ hM rfl rfl hbs (by omega) ?_; intro v' w4 hM4 hb4 hf4; have HBL4 := Lib.hid (hbl.trans hb4); clear hf4 hb4)
              go_roundw
              case rel => exact ⟨q + 1, ml ++ [(q : Int) + 1], by omega, by go_num, hM4, HBL4.out, Lib.hid (hLn.out.elim (fun h => Or.inr (Or.inl h)) (fun h => Or.inr (Or.inr (by rw [Nat.add_sub_cancel, HYY.out]; exact h)))), HI9⟩
              case measure => simp [intOf]; omega
            · have HI9 : Hid (InL t (PtW acc) (q + 1) ml) := Lib.hid (by
                have := HIL.out
                rwa [if_neg (fun h => hY2 h.2), List.append_nil] at this)
              have HYY := Lib.hid hY
              clear HIL hY
              go_wp2
              go_roundw
              case rel => exact ⟨q + 1, ml, by omega, by go_num, hM, hbl, Lib.hid (hLn.out.elim (fun h => Or.inr (Or.inl h)) (fun h => Or.inr (Or.inr (by rw [Nat.add_sub_cancel, HYY.out]; exact h)))), HI9⟩
              case measure => simp [intOf]; omega
          · have HI9 : Hid (InL t (PtW acc) (q + 1) ml) := Lib.hid (by
              have := HIL.out
              rwa [if_neg (fun h => hq1 (by have := HN.out; have := h.1; omega)), List.append_nil] at this)
            have hq2 : ¬ (q : Int) + 1 < (n : Int) := by omega
            clear HIL hHy
            go_wp2
            go_roundw
            case rel => exact ⟨q + 1, ml, by omega, by go_num, hM, hbl, Lib.hid (hLn.out.elim (fun h => Or.inr (Or.inl h)) (fun h => Or.inr (Or.inr (by rw [Nat.add_sub_cancel]; exact h)))), HI9⟩
            case measure => simp [intOf]; omega
    · have htl := HN.out
      have hBX := HBX.out
      have hbx : BoxT wr T0 B t.length c := ⟨by have := hBX.1; have := hbl.size; omega, by rw [htl]; exact hcell⟩
      have HE := Lib.hid (inL_end (PtW.inside acc) HI.out (by omega) (by rw [htl]; exact HL.out))
      have HWB := Lib.hid (HB0.out)
      have hbs := hbl.size
      by_cases hl : l = []
      · subst hl
        obtain ⟨A5, c5, hv5, _, _, _⟩ := hM.size
        subst hv5
        have HD := Lib.hid (del_nil A5 c5 T0 B c t wr (by omega) (by omega) hbx (HH.out.carry hbl))
        simp only [List.length_nil] at hM ⊢
        have HM := Lib.hid hM
        have HBL5 := Lib.hid hbl
        clear hM hbl hbx htl
        go_wp2_with (go_at_call 43; (with_reducible refine HD.out.mono ?_); rintro e u ⟨rfl, hu⟩)
        go_ret
        exact ⟨_, ⟨_, rfl, Mine.give (HM.out.up hu) HWB.out (HBL5.out.trans (hu.1.mono hbs))⟩, HE.out⟩
      · obtain ⟨g, c5, hv5, hc5, hgB, hgl⟩ := hM.formB (List.length_pos_iff.2 hl)
        subst hv5
        have htn : t ≠ [] := inL_ne (PtW.inside acc) HI.out hl
        have HD := Lib.hid (del_ok W0.heap.size g l.length c5 T0 B c t l wr rfl (by omega) (by omega) (by omega) hM hbx (by have := hBX.1; omega) (HH.out.carry hbl) (fun a ha => by have := HBL.out a ha htn; have := hBX.1; have := HT0.out; omega))
        have HBL5 := Lib.hid hbl
        clear hM hbl hbx htl
        go_wp2_with (go_at_call 43; (with_reducible refine HD.out.mono ?_); rintro e u ⟨v9, rfl, hM9, hb9⟩)
        go_ret
        exact ⟨_, ⟨_, rfl, Mine.give hM9 HWB.out (HBL5.out.trans hb9)⟩, HE.out⟩

set_option maxRecDepth 20000 in
set_option maxHeartbeats 4000000 in
theorem ppoints_nil (B : Option Addr) (c : Nat) (wd : List Int) (w : World) (hw : wd.length ≤ 1000000) (hc : wd.length ≤ c) (hwf : ∀ z ∈ wd, (Lit.int .i32 z).wf = true) (h : Has w w.heap.size B (wd.map (Value.int .i32))) :
    Calls Tryd.prog 19 #[.pointer none, .slice B wd.length c] w fun e w' => SliceOf .i64 w w' e [] := by
  go_enter Tryd.func19, Tryd.ntmps19
  go_wp2
  go_ret
  exact ⟨_, rfl, sliceV_nil _ _ _ (Below.refl _ _)⟩

/-- In of a nil trie -/
theorem pin_nil (B : Option Addr) (c : Nat) (t : List Int) (w : World) (ht : t.length ≤ 1000) (hc : t.length ≤ c) (hwf : ∀ z ∈ t, (Lit.int .i32 z).wf = true) (h : Has w w.heap.size B (t.map (Value.int .i32))) :
    Calls Tryd.prog 21 #[.pointer none, .slice B t.length c] w fun e w' => ∃ r, SliceOf .i64 w w' e r ∧ InS isL (PtW []) (zb (bnds (cls t))) t r :=
  in_gen (.pointer none) [] B c t w ht hc hwf h fun u A c' wd hb h1 h2 h3 h4 => (ppoints_nil A c' wd u (by omega) h2 h3 h4).mono fun e w' he => ⟨[], he, points_none wd⟩
end Go.Proofs.YtekjejbcdnghjaaDoor

/-
  In of a trie of patterns. Condition: at most 1000 code points.
-/
set_option linter.unusedVariables false
namespace Go.Proofs.YtekjejbcdnghjaaDoor
open Go.ChangeShapes Go.WideShapes Go.ChangeAt Go.RowKit Go.Sort

theorem pin_ok (v : Value) (acc : List Pat) (B : Option Addr) (c : Nat) (t : List Int) (w : World) (ha : acc.length ≤ 1000) (hok : ∀ p ∈ acc, OkP p.1 p.2) (ht : t.length ≤ 1000) (hc : t.length ≤ c) (hwf : ∀ z ∈ t, (Lit.int .i32 z).wf = true) (hT : TrieV w v acc) (h : Has w w.heap.size B (t.map (Value.int .i32))) :
    Calls Tryd.prog 21 #[v, .slice B t.length c] w fun e w' => ∃ r, SliceOf .i64 w w' e r ∧ InS isL (PtW acc) (zb (bnds (cls t))) t r :=
  in_gen v acc B c t w ht hc hwf h fun u A c' wd hb h1 h2 h3 h4 => ppoints_ok v acc A c' wd u ha hok (by omega) h2 h3 (hT.below hb) h4
end Go.Proofs.YtekjejbcdnghjaaDoor
