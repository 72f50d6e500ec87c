/-
  slices.Index and Contains at runes, IndexFunc and ContainsFunc at ints over Parse's closure; a pattern's form ('hasForm'). No condition but the greatest length of a slice.
-/
import Derived.Test.YtekjejbcdnghjaaDoorHpa
import Derived.Test.YtekjejbcdnghjaaDoorHsl
set_option linter.unusedVariables false
set_option linter.unusedSimpArgs false
namespace Go.Proofs.YtekjejbcdnghjaaDoor
open Go.ChangeShapes Go.WideShapes Go.ChangeAt Go.RowKit Go.Sort

theorem all_take {zs : List Int} {k : Nat} {p : Int → Bool} (hk : k < zs.length) (h0 : (zs.take k).any p = false) (h : p zs[k] = false) : (zs.take (k + 1)).any p = false := by
  rw [List.take_add_one, List.getElem?_eq_getElem hk, List.any_append, h0]
  simp [h]
theorem any_at {zs : List Int} {k : Nat} {p : Int → Bool} (hk : k < zs.length) (h : p zs[k] = true) : zs.any p = true := List.any_eq_true.2 ⟨zs[k], List.getElem_mem hk, h⟩

set_option maxHeartbeats 2000000 in
theorem indexR_ok (A : Option Addr) (c n : Nat) (x : Int) (zs : List Int) (w : World) (hzn : n = zs.length) (hn : zs.length ≤ 9223372036854775807) (h : Has w w.heap.size A (zs.map (Value.int .i32))) :
    Calls Tryd.prog 71 #[.slice A n c, .int .i32 x] w fun e w' => (∃ r : Int, e = .returned (.int .i64 r) ∧ decide (0 ≤ r) = zs.any (fun r => decide (r = x))) ∧ w = w' := by
  subst hzn
  go_enter Tryd.func71, Tryd.ntmps71
  go_wp2
  go_loop [8] (fun v => ∃ k : Nat, k ≤ zs.length ∧ v = .int .i64 k ∧ Hid ((zs.take k).any (fun r => decide (r = x)) = false)) (fun v => zs.length - (intOf v).toNat)
  case atStart => exact ⟨0, by omega, rfl, Lib.hid rfl⟩
  case round =>
    obtain ⟨k, hk, rfl, HA⟩ := hrel
    by_cases hlt : k < zs.length
    · obtain ⟨b, off, rfl, hb, hcc⟩ := h.at_int hlt
      have hf := any_at (p := fun r => decide (r = x)) hlt
      have ht := all_take hlt HA.out
      obtain ⟨X, hX⟩ : ∃ X, zs[k] = X := ⟨_, rfl⟩
      rw [hX] at hcc hf ht
      clear hX h
      by_cases hq : X = x
      · have HV := Lib.hid (hf (by simp [hq]))
        subst hq
        clear hf ht
        go_wp2
        go_ret
        exact ⟨⟨k, rfl, by rw [HV.out]; exact decide_eq_true (by omega)⟩, rfl⟩
      · have HV := Lib.hid (ht (by simp [hq]))
        have hq' : x ≠ X := fun e => hq e.symm
        clear hf ht
        go_wp2
        go_round
        case rel => exact ⟨k + 1, by omega, by go_num, HV⟩
        case measure => simp [intOf] <;> omega
    · obtain rfl : k = zs.length := by omega
      have hA := HA.out
      rw [List.take_length] at hA
      have HV := Lib.hid hA
      clear hA
      go_wp2
      go_ret
      exact ⟨⟨-1, rfl, by rw [HV.out]; rfl⟩, rfl⟩
set_option maxHeartbeats 2000000 in
theorem containsR_ok (A : Option Addr) (c n : Nat) (x : Int) (zs : List Int) (w : World) (hzn : n = zs.length) (hn : zs.length ≤ 9223372036854775807) (h : Has w w.heap.size A (zs.map (Value.int .i32))) :
    Calls Tryd.prog 49 #[.slice A n c, .int .i32 x] w fun e w' => e = .returned (.bool (zs.any (fun r => decide (r = x)))) ∧ w = w' := by
  have HC := Lib.hid (indexR_ok A c n x zs w hzn hn h)
  clear h hzn
  go_enter Tryd.func49, Tryd.ntmps49
  go_wp2_with (first | (go_at_call 71; (with_reducible refine HC.out.mono ?_); rintro e u ⟨⟨r, rfl, hr⟩, rfl⟩))
  go_ret
  exact ⟨by rw [← hr]; rfl, rfl⟩

theorem clo_ok (r : Int) (w : World) : Calls Tryd.prog 30 #[.int .i64 r] w fun e w' => e = .returned (.bool (decide (0 < r))) ∧ w = w' := by
  go_enter Tryd.func30, Tryd.ntmps30
  go_wp2
  go_ret
  exact ⟨rfl, rfl⟩
set_option maxHeartbeats 2000000 in
theorem indexF_ok (A : Option Addr) (c n : Nat) (zs : List Int) (w : World) (hzn : n = zs.length) (hn : zs.length ≤ 9223372036854775807) (h : Has w w.heap.size A (zs.map (Value.int .i64))) :
    Calls Tryd.prog 50 #[.slice A n c, .func (.func 30) #[] #[]] w fun e w' => (∃ r : Int, e = .returned (.int .i64 r) ∧ decide (0 ≤ r) = anyP zs) ∧ w = w' := by
  subst hzn
  unfold anyP
  go_enter Tryd.func50, Tryd.ntmps50
  go_wp2
  go_loop [8] (fun v => ∃ k : Nat, k ≤ zs.length ∧ v = .int .i64 k ∧ Hid ((zs.take k).any (fun r => decide (0 < r)) = false)) (fun v => zs.length - (intOf v).toNat)
  case atStart => exact ⟨0, by omega, rfl, Lib.hid rfl⟩
  case round =>
    obtain ⟨k, hk, rfl, HA⟩ := hrel
    by_cases hlt : k < zs.length
    · obtain ⟨b, off, rfl, hb, hcc⟩ := h.at_int hlt
      have hf := any_at (p := fun r => decide (0 < r)) hlt
      have ht := all_take hlt HA.out
      obtain ⟨X, hX⟩ : ∃ X, zs[k] = X := ⟨_, rfl⟩
      rw [hX] at hcc hf ht
      have HC := Lib.hid (clo_ok X)
      clear hX h
      by_cases hq : 0 < X
      · have HV := Lib.hid (hf (by simp [hq]))
        have hd : decide (0 < X) = true := decide_eq_true hq
        rw [hd] at HC
        clear hf ht hd
        go_wp2_with (first | (go_at_call 30; refine (HC.out _).mono ?_; rintro e u ⟨rfl, rfl⟩))
        go_ret
        exact ⟨⟨k, rfl, by rw [HV.out]; exact decide_eq_true (by omega)⟩, rfl⟩
      · have HV := Lib.hid (ht (by simp [hq]))
        have hd : decide (0 < X) = false := decide_eq_false hq
        rw [hd] at HC
        clear hf ht hd
        go_wp2_with (first | (go_at_call 30; refine (HC.out _).mono ?_; rintro e u ⟨rfl, rfl⟩))
        go_round
        case rel => exact ⟨k + 1, by omega, by go_num, HV⟩
        case measure => simp [intOf] <;> omega
    · obtain rfl : k = zs.length := by omega
      have hA := HA.out
      rw [List.take_length] at hA
      have HV := Lib.hid hA
      clear hA
      go_wp2
      go_ret
      exact ⟨⟨-1, rfl, by rw [HV.out]; rfl⟩, rfl⟩
set_option maxHeartbeats 2000000 in
theorem containsF_ok (A : Option Addr) (c n : Nat) (zs : List Int) (w : World) (hzn : n = zs.length) (hn : zs.length ≤ 9223372036854775807) (h : Has w w.heap.size A (zs.map (Value.int .i64))) :
    Calls Tryd.prog 29 #[.slice A n c, .func (.func 30) #[] #[]] w fun e w' => e = .returned (.bool (anyP zs)) ∧ w = w' := by
  have HC := Lib.hid (indexF_ok A c n zs w hzn hn h)
  clear h hzn
  go_enter Tryd.func29, Tryd.ntmps29
  go_wp2_with (first | (go_at_call 50; (with_reducible refine HC.out.mono ?_); rintro e u ⟨⟨r, rfl, hr⟩, rfl⟩))
  go_ret
  exact ⟨by rw [← hr]; rfl, rfl⟩

/-- without a dot ahead; without a dot behind -/
def strip1 : List Int → List Int
  | [] => []
  | x :: l => if x = 46 then l else x :: l
def strip2 (l : List Int) : List Int := if l.getLast? = some 46 then l.dropLast else l
def formL (m : List Int) : Bool := decide (0 < m.length) && decide (m.length ≤ 16) && !(m.any fun r => decide (r = 46))
theorem strip1_of (l : List Int) : l = strip1 l ∨ l = 46 :: strip1 l := by
  cases l with
  | nil => exact Or.inl rfl
  | cons x l =>
    by_cases e : x = 46
    · subst e; right; simp [strip1]
    · left; simp [strip1, e]
theorem strip1_head {l : List Int} (h : l = strip1 l) : l.head? ≠ some 46 := by
  cases l with
  | nil => simp
  | cons x l =>
    by_cases e : x = 46
    · simp only [strip1, if_pos e] at h
      have := congrArg List.length h; simp at this
    · simpa using e
theorem strip2_of (l : List Int) : (l = strip2 l ∧ l.getLast? ≠ some 46) ∨ l = strip2 l ++ [46] := by
  unfold strip2
  split
  · rename_i e
    right
    rcases List.eq_nil_or_concat l with rfl | ⟨m, z, rfl⟩
    · simp at e
    · simp at e; subst e; simp
  · rename_i e; exact Or.inl ⟨rfl, e⟩
theorem ownN_app (a b : List Int) : ownN (a ++ b) = ownN a + ownN b := by unfold ownN; rw [List.filter_append, List.length_append]
theorem ownN_full {m : List Int} (h : m.any (fun r => decide (r = 46)) = false) : ownN m = m.length := by
  unfold ownN
  rw [List.any_eq_false] at h
  rw [List.filter_eq_self.2]
  intro a ha
  have := h a ha
  simpa using this
theorem get_app (a b c : List Int) (i : Nat) (h : i < b.length) : (a ++ b ++ c).getD (a.length + i) 0 = b[i] := by
  simp [List.getD, List.getElem?_append, h, show ¬ a.length + i < a.length by omega]
theorem form_may (l : List Int) : mayB l = formL (strip2 (strip1 l)) := by
  -- the parts
  obtain ⟨pre, m, suf, e, hp, hs, hm⟩ : ∃ pre m suf, l = pre ++ m ++ suf ∧ (pre = [46] ∨ (pre = [] ∧ l.head? ≠ some 46)) ∧ (suf = [46] ∨ (suf = [] ∧ (m.getLast? ≠ some 46))) ∧ strip2 (strip1 l) = m := by
    rcases strip1_of l with h1 | h1
    · rcases strip2_of (strip1 l) with ⟨h2, h3⟩ | h2
      · exact ⟨[], _, [], by rw [← h2, List.append_nil, List.nil_append]; exact h1, Or.inr ⟨rfl, strip1_head h1⟩, Or.inr ⟨rfl, by rw [← h2]; exact h3⟩, rfl⟩
      · exact ⟨[], _, [46], by rw [List.nil_append, ← h2]; exact h1, Or.inr ⟨rfl, strip1_head h1⟩, Or.inl rfl, rfl⟩
    · rcases strip2_of (strip1 l) with ⟨h2, h3⟩ | h2
      · exact ⟨[46], _, [], by rw [← h2, List.append_nil]; exact h1, Or.inl rfl, Or.inr ⟨rfl, by rw [← h2]; exact h3⟩, rfl⟩
      · exact ⟨[46], _, [46], by rw [List.append_assoc, ← h2]; exact h1, Or.inl rfl, Or.inl rfl, rfl⟩
  rw [hm]
  have hown : ownN l = ownN m := by
    rw [e, ownN_app, ownN_app]
    have o1 : ownN pre = 0 := by rcases hp with rfl | ⟨rfl, _⟩ <;> rfl
    have o2 : ownN suf = 0 := by rcases hs with rfl | ⟨rfl, _⟩ <;> rfl
    omega
  have hpl : pre.length ≤ 1 := by rcases hp with rfl | ⟨rfl, _⟩ <;> simp
  have hsl : suf.length ≤ 1 := by rcases hs with rfl | ⟨rfl, _⟩ <;> simp
  have hlen : l.length = pre.length + m.length + suf.length := by rw [e]; simp [Nat.add_assoc]
  cases hd : m.any (fun r => decide (r = 46)) with
  | false =>
    have h1 := ownN_full hd
    unfold formL
    rw [hd, Bool.eq_iff_iff]
    rw [mayB_iff, hown, h1]
    simp only [Bool.and_eq_true, decide_eq_true_eq, Bool.not_false, and_true]
    constructor
    · rintro ⟨a, b, _⟩; exact ⟨a, b⟩
    · rintro ⟨a, b⟩
      refine ⟨a, b, fun i hi h46 => ?_⟩
      rcases Nat.lt_or_ge i pre.length with c1 | c1
      · omega
      · rcases Nat.lt_or_ge i (pre.length + m.length) with c2 | c2
        · exfalso
          have := get_app pre m suf (i - pre.length) (by omega)
          rw [← e, show pre.length + (i - pre.length) = i by omega, h46] at this
          rw [List.any_eq_false] at hd
          have h3 := hd _ (List.getElem_mem (show i - pre.length < m.length by omega))
          rw [← this] at h3
          simp at h3
        · omega
  | true =>
    unfold formL
    rw [hd]
    simp only [Bool.not_true, Bool.and_false]
    rw [Bool.eq_false_iff]
    intro hmay
    obtain ⟨_, _, h3⟩ := (mayB_iff l).1 hmay
    rw [List.any_eq_true] at hd
    obtain ⟨x, hx, hx2⟩ := hd
    have hx3 : x = 46 := by simpa using hx2
    subst hx3
    obtain ⟨i, hi, hi2⟩ := List.mem_iff_getElem.1 hx
    have h4 := get_app pre m suf i hi
    rw [← e, hi2] at h4
    rcases h3 (pre.length + i) (by omega) h4 with h5 | h5
    · rcases hp with rfl | ⟨rfl, h6⟩
      · simp at h5
      · apply h6
        have hi0 : i = 0 := by simpa using h5
        subst hi0
        rw [e, List.nil_append]
        cases m with
        | nil => simp at hi
        | cons y m => simp at hi2; simp [hi2]
    · rcases hs with rfl | ⟨rfl, h6⟩
      · simp at hlen; omega
      · apply h6
        rw [List.getLast?_eq_getElem?]
        simp at hlen
        rw [show m.length - 1 = i by omega, List.getElem?_eq_getElem hi, hi2]
end Go.Proofs.YtekjejbcdnghjaaDoor
