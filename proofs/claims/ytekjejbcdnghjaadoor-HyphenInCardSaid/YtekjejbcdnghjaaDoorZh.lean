/-
  Going through a string's runes by Go's own decoder, in the words of the document's decoder; which strings are valid; what is left of a pattern to be read. No program, no condition.
-/
import Derived.Test.YtekjejbcdnghjaaDoorZc
import Derived.Test.YtekjejbcdnghjaaDoorZe
import Derived.Lib.ValidLaws
import Derived.Lib.TrimUEq
import Derived.Test.YtekjejbcdnghjaaDoorZHsl
import Derived.Test.YtekjejbcdnghjaaDoorZShelfV
import Derived.Lib.OthersKept
import Derived.Laws.RangeAny
set_option linter.unusedVariables false
set_option linter.unusedSimpArgs false
namespace Go.Proofs.YtekjejbcdnghjaaDoor
open Go.Lib (decodeL validD)

theorem bytes_get (s : ByteArray) (j : Nat) : (bytesS s).getD j 0 = ((s.data.toList.getD j 0).toNat : Int) := by
  unfold bytesS
  by_cases h : j < s.data.toList.length
  · simp [List.getD, List.getElem?_map, List.getElem?_eq_getElem h]
  · simp [List.getD, List.getElem?_map, List.getElem?_eq_none (Nat.le_of_not_lt h)]
theorem drop_get (s : ByteArray) (pos j : Nat) : ((bytesS s).drop pos).getD j 0 = ((s.data.toList.getD (pos + j) 0).toNat : Int) := by
  rw [← bytes_get]
  simp [List.getD, List.getElem?_drop]
/-- one rune, by either decoder -/
theorem dec_at (s : ByteArray) (pos : Nat) (hp : pos < s.size) :
    (((Utf8.decode s pos).1 : Int), (Utf8.decode s pos).2) = if (standP ((bytesS s).drop pos)).2 = true then (runeP ((bytesS s).drop pos), (standP ((bytesS s).drop pos)).1) else (65533, 1) := by
  have hl : s.data.toList.length = s.size := Array.length_toList
  have h := decode_stand (s.data.toList.length - pos) (s.data.toList.getD pos 0).toNat (s.data.toList.getD (pos + 1) 0).toNat (s.data.toList.getD (pos + 2) 0).toNat (s.data.toList.getD (pos + 3) 0).toNat (by omega) (s.data.toList.getD pos 0).toNat_lt (s.data.toList.getD (pos + 1) 0).toNat_lt (s.data.toList.getD (pos + 2) 0).toNat_lt (s.data.toList.getD (pos + 3) 0).toNat_lt
  rw [← Lib.decode_N] at h
  have e : ((bytesS s).drop pos).length = s.data.toList.length - pos := by rw [List.length_drop, bytesS_length, hl]
  unfold runeP standP
  rw [drop_get, drop_get, drop_get, drop_get, e]
  exact h
theorem dec_list (s : ByteArray) (pos : Nat) : decodeL (s.data.toList.drop pos) = Utf8.decode s pos := by
  rw [Lib.decodeL_N, Lib.decode_N]
  simp [List.getD, List.getElem?_drop]

theorem decG_acc (s : List Int) : ∀ (k p : Nat) (t : List Int), (decG k s p t).2 = (decG k s p []).2 ∧ ((decG k s p []).2.2 = 0 → (decG k s p t).1 = t ++ (decG k s p []).1)
  | 0, p, t => ⟨rfl, fun _ => by simp [decG]⟩
  | k + 1, p, t => by
    by_cases hp : p < s.length
    · by_cases h : (standP (s.drop p)).2 = true
      · rw [decG_ok k s p t hp h, decG_ok k s p [] hp h, List.nil_append]
        obtain ⟨a1, a2⟩ := decG_acc s k (p + (standP (s.drop p)).1) (t ++ [runeP (s.drop p)])
        obtain ⟨b1, b2⟩ := decG_acc s k (p + (standP (s.drop p)).1) [runeP (s.drop p)]
        refine ⟨by rw [a1, b1], fun h0 => ?_⟩
        rw [b1] at h0
        rw [a2 h0, b2 h0]
        simp
      · have h' : (standP (s.drop p)).2 = false := by simpa using h
        rw [decG_bad k s p t hp h', decG_bad k s p [] hp h']
        refine ⟨rfl, fun h0 => ?_⟩
        simp only at h0
        split at h0 <;> simp at h0
    · simp [decG, if_neg hp]

/-- u: the runes from place pos on; all of them stand -/
def LeftR (s : ByteArray) (pos : Nat) (u : List Int) : Prop := ∃ k, s.size - pos < k ∧ pos ≤ s.size ∧ (decG k (bytesS s) pos []).2.2 = 0 ∧ (decG k (bytesS s) pos []).1 = u
theorem left_start {s : ByteArray} (h : (decP (bytesS s)).2.2 = 0) : LeftR s 0 (decP (bytesS s)).1 := ⟨(bytesS s).length + 1, by rw [bytesS_length]; omega, by omega, h, rfl⟩
theorem left_end {s : ByteArray} {pos : Nat} {u : List Int} (h : LeftR s pos u) (hp : ¬ pos < s.size) : u = [] := by
  obtain ⟨k, h1, h2, h3, rfl⟩ := h
  obtain ⟨k', rfl⟩ : ∃ k', k = k' + 1 := ⟨k - 1, by omega⟩
  rw [decG, if_neg (by rw [bytesS_length]; exact hp)]
theorem left_step {s : ByteArray} {pos : Nat} {u : List Int} (h : LeftR s pos u) (hp : pos < s.size) :
    ∃ u', u = ((Utf8.decode s pos).1 : Int) :: u' ∧ LeftR s (pos + (Utf8.decode s pos).2) u' ∧ 1 ≤ (Utf8.decode s pos).2 ∧ pos + (Utf8.decode s pos).2 ≤ s.size := by
  obtain ⟨k, h1, h2, h3, rfl⟩ := h
  obtain ⟨k', rfl⟩ : ∃ k', k = k' + 1 := ⟨k - 1, by omega⟩
  have hp' : pos < (bytesS s).length := by rw [bytesS_length]; exact hp
  have hd := dec_at s pos hp
  by_cases hs : (standP ((bytesS s).drop pos)).2 = true
  · rw [if_pos hs] at hd
    have e1 := congrArg Prod.fst hd
    have e2 := congrArg Prod.snd hd
    simp only at e1 e2
    rw [decG_ok k' _ pos [] hp' hs, List.nil_append, ← e1, ← e2] at h3 ⊢
    obtain ⟨a1, a2⟩ := decG_acc (bytesS s) k' (pos + (Utf8.decode s pos).2) [((Utf8.decode s pos).1 : Int)]
    rw [a1] at h3
    rw [a2 h3]
    have h4 := (rest_facts (bytesS s) pos hp').2.2
    have h5 := (standP_pos ((bytesS s).drop pos)).1
    rw [bytesS_length] at h4
    refine ⟨_, rfl, ⟨k', by omega, by omega, h3, rfl⟩, by omega, by omega⟩
  · rw [decG_bad k' _ pos [] hp' (by simpa using hs)] at h3
    simp only at h3
    split at h3 <;> simp at h3
/-- .. and where one doesn't stand -/
theorem valid_go (s : ByteArray) : ∀ (k pos : Nat), s.size - pos < k → pos ≤ s.size → validD (s.data.toList.drop pos) = decide ((decG k (bytesS s) pos []).2.2 = 0)
  | 0, pos, h, _ => by omega
  | k + 1, pos, h, hle => by
    have hl : s.data.toList.length = s.size := Array.length_toList
    by_cases hp : pos < s.size
    · have hp' : pos < (bytesS s).length := by rw [bytesS_length]; exact hp
      have hne : s.data.toList.drop pos ≠ [] := fun e => by have := congrArg List.length e; rw [List.length_drop, hl] at this; simp at this; omega
      rw [Lib.validD_step _ hne, dec_list, List.drop_drop]
      have hd := dec_at s pos hp
      have h4 := (rest_facts (bytesS s) pos hp').2.2
      have h5 := (standP_pos ((bytesS s).drop pos)).1
      rw [bytesS_length] at h4
      by_cases hs : (standP ((bytesS s).drop pos)).2 = true
      · rw [if_pos hs] at hd
        have e1 := congrArg Prod.fst hd
        have e2 := congrArg Prod.snd hd
        simp only at e1 e2
        rw [if_neg, decG_ok k _ pos [] hp' hs, (decG_acc _ _ _ _).1, ← e2]
        · exact valid_go s k _ (by omega) (by omega)
        · rintro ⟨f1, f2⟩
          have := runeN_one _ _ _ _ _ hs (show (standP ((bytesS s).drop pos)).1 ≤ 1 by omega)
          change runeP ((bytesS s).drop pos) < 128 at this
          omega
      · rw [if_neg hs] at hd
        have e1 := congrArg Prod.fst hd
        have e2 := congrArg Prod.snd hd
        simp only at e1 e2
        rw [if_pos ⟨by omega, e2⟩, decG_bad k _ pos [] hp' (by simpa using hs)]
        simp only
        split <;> simp
    · have : s.data.toList.drop pos = [] := List.drop_eq_nil_of_le (by omega)
      rw [this, decG, if_neg (by rw [bytesS_length]; exact hp)]
      simp [Lib.validD_nil]
theorem valid_is (s : ByteArray) : validD s.data.toList = decide ((decP (bytesS s)).2.2 = 0) := by
  have := valid_go s ((bytesS s).length + 1) 0 (by rw [bytesS_length]; omega) (by omega)
  rwa [List.drop_zero] at this

/-- what is left (u) of a pattern's text (t): letters l, digits d and N have been read; S: the last sign was a digit -/
def RestU (t u l d : List Int) (N : Int) (S : Bool) : Prop := pz 0 false t = (pz N S u).map fun z => (l ++ z.1, d ++ z.2)
theorem restU_start (t : List Int) : RestU t t [] [] 0 false := by unfold RestU; simp
theorem restU_digit {t u l d : List Int} {N c : Int} (h : RestU t (c :: u) l d N false) (hd : isD c) : RestU t u l d (c - 48) true := by
  unfold RestU at h ⊢; rw [h, pz_digit hd]
theorem restU_twice {t u l d : List Int} {N c : Int} (h : RestU t (c :: u) l d N true) (hd : isD c) : pz 0 false t = none := by
  unfold RestU at h; rw [h, pz_twice hd]; rfl
theorem restU_letter {t u l d : List Int} {N c : Int} {S : Bool} (h : RestU t (c :: u) l d N S) (hd : ¬ isD c) : RestU t u (l ++ [c]) (d ++ [N]) 0 false := by
  unfold RestU at h ⊢
  rw [h, pz_letter hd, Option.map_map]
  congr 1
  funext z
  simp
theorem restU_end {t l d : List Int} {N : Int} {S : Bool} (h : RestU t [] l d N S) : pz 0 false t = some (l, d ++ [N]) := by
  unfold RestU at h
  rw [h]; simp [pz]
end Go.Proofs.YtekjejbcdnghjaaDoor

/-
  slices.Index and Contains at runes, IndexFunc and ContainsFunc at ints over Parse's closure; a pattern's form ('hasForm'). No condition but the greatest length of a slice.
-/
set_option linter.unusedVariables false
set_option linter.unusedSimpArgs false
namespace Go.Proofs.YtekjejbcdnghjaaDoor
open Go.ChangeShapes Go.WideShapes Go.ChangeAt Go.RowKit Go.Sort

theorem all_take {zs : List Int} {k : Nat} {p : Int → Bool} (hk : k < zs.length) (h0 : (zs.take k).any p = false) (h : p zs[k] = false) : (zs.take (k + 1)).any p = false := by
  rw [List.take_add_one, List.getElem?_eq_getElem hk, List.any_append, h0]
  simp [h]
theorem any_at {zs : List Int} {k : Nat} {p : Int → Bool} (hk : k < zs.length) (h : p zs[k] = true) : zs.any p = true := List.any_eq_true.2 ⟨zs[k], List.getElem_mem hk, h⟩

set_option maxHeartbeats 2000000 in
theorem indexR_ok (A : Option Addr) (c n : Nat) (x : Int) (zs : List Int) (w : World) (hzn : n = zs.length) (hn : zs.length ≤ 9223372036854775807) (h : Has w w.heap.size A (zs.map (Value.int .i32))) :
    Calls Tryd.prog 71 #[.slice A n c, .int .i32 x] w fun e w' => (∃ r : Int, e = .returned (.int .i64 r) ∧ decide (0 ≤ r) = zs.any (fun r => decide (r = x))) ∧ w = w' := by
  subst hzn
  go_enter Tryd.func71, Tryd.ntmps71
  go_wp2
  go_loop [8] (fun v => ∃ k : Nat, k ≤ zs.length ∧ v = .int .i64 k ∧ Hid ((zs.take k).any (fun r => decide (r = x)) = false)) (fun v => zs.length - (intOf v).toNat)
  case atStart => exact ⟨0, by omega, rfl, Lib.hid rfl⟩
  case round =>
    obtain ⟨k, hk, rfl, HA⟩ := hrel
    by_cases hlt : k < zs.length
    · obtain ⟨b, off, rfl, hb, hcc⟩ := h.at_int hlt
      have hf := any_at (p := fun r => decide (r = x)) hlt
      have ht := all_take hlt HA.out
      obtain ⟨X, hX⟩ : ∃ X, zs[k] = X := ⟨_, rfl⟩
      rw [hX] at hcc hf ht
      clear hX h
      by_cases hq : X = x
      · have HV := Lib.hid (hf (by simp [hq]))
        subst hq
        clear hf ht
        go_wp2
        go_ret
        exact ⟨⟨k, rfl, by rw [HV.out]; exact decide_eq_true (by omega)⟩, rfl⟩
      · have HV := Lib.hid (ht (by simp [hq]))
        have hq' : x ≠ X := fun e => hq e.symm
        clear hf ht
        go_wp2
        go_round
        case rel => exact ⟨k + 1, by omega, by go_num, HV⟩
        case measure => simp [intOf] <;> omega
    · obtain rfl : k = zs.length := by omega
      have hA := HA.out
      rw [List.take_length] at hA
      have HV := Lib.hid hA
      clear hA
      go_wp2
      go_ret
      exact ⟨⟨-1, rfl, by rw [HV.out]; rfl⟩, rfl⟩
set_option maxHeartbeats 2000000 in
theorem containsR_ok (A : Option Addr) (c n : Nat) (x : Int) (zs : List Int) (w : World) (hzn : n = zs.length) (hn : zs.length ≤ 9223372036854775807) (h : Has w w.heap.size A (zs.map (Value.int .i32))) :
    Calls Tryd.prog 49 #[.slice A n c, .int .i32 x] w fun e w' => e = .returned (.bool (zs.any (fun r => decide (r = x)))) ∧ w = w' := by
  have HC := Lib.hid (indexR_ok A c n x zs w hzn hn h)
  clear h hzn
  go_enter Tryd.func49, Tryd.ntmps49
  go_wp2_with (first | (go_at_call 71; (with_reducible refine HC.out.mono ?_); rintro e u ⟨⟨r, rfl, hr⟩, rfl⟩))
  go_ret
  exact ⟨by rw [← hr]; rfl, rfl⟩

theorem clo_ok (r : Int) (w : World) : Calls Tryd.prog 30 #[.int .i64 r] w fun e w' => e = .returned (.bool (decide (0 < r))) ∧ w = w' := by
  go_enter Tryd.func30, Tryd.ntmps30
  go_wp2
  go_ret
  exact ⟨rfl, rfl⟩
set_option maxHeartbeats 2000000 in
theorem indexF_ok (A : Option Addr) (c n : Nat) (zs : List Int) (w : World) (hzn : n = zs.length) (hn : zs.length ≤ 9223372036854775807) (h : Has w w.heap.size A (zs.map (Value.int .i64))) :
    Calls Tryd.prog 50 #[.slice A n c, .func (.func 30) #[] #[]] w fun e w' => (∃ r : Int, e = .returned (.int .i64 r) ∧ decide (0 ≤ r) = anyP zs) ∧ w = w' := by
  subst hzn
  unfold anyP
  go_enter Tryd.func50, Tryd.ntmps50
  go_wp2
  go_loop [8] (fun v => ∃ k : Nat, k ≤ zs.length ∧ v = .int .i64 k ∧ Hid ((zs.take k).any (fun r => decide (0 < r)) = false)) (fun v => zs.length - (intOf v).toNat)
  case atStart => exact ⟨0, by omega, rfl, Lib.hid rfl⟩
  case round =>
    obtain ⟨k, hk, rfl, HA⟩ := hrel
    by_cases hlt : k < zs.length
    · obtain ⟨b, off, rfl, hb, hcc⟩ := h.at_int hlt
      have hf := any_at (p := fun r => decide (0 < r)) hlt
      have ht := all_take hlt HA.out
      obtain ⟨X, hX⟩ : ∃ X, zs[k] = X := ⟨_, rfl⟩
      rw [hX] at hcc hf ht
      have HC := Lib.hid (clo_ok X)
      clear hX h
      by_cases hq : 0 < X
      · have HV := Lib.hid (hf (by simp [hq]))
        have hd : decide (0 < X) = true := decide_eq_true hq
        rw [hd] at HC
        clear hf ht hd
        go_wp2_with (first | (go_at_call 30; refine (HC.out _).mono ?_; rintro e u ⟨rfl, rfl⟩))
        go_ret
        exact ⟨⟨k, rfl, by rw [HV.out]; exact decide_eq_true (by omega)⟩, rfl⟩
      · have HV := Lib.hid (ht (by simp [hq]))
        have hd : decide (0 < X) = false := decide_eq_false hq
        rw [hd] at HC
        clear hf ht hd
        go_wp2_with (first | (go_at_call 30; refine (HC.out _).mono ?_; rintro e u ⟨rfl, rfl⟩))
        go_round
        case rel => exact ⟨k + 1, by omega, by go_num, HV⟩
        case measure => simp [intOf] <;> omega
    · obtain rfl : k = zs.length := by omega
      have hA := HA.out
      rw [List.take_length] at hA
      have HV := Lib.hid hA
      clear hA
      go_wp2
      go_ret
      exact ⟨⟨-1, rfl, by rw [HV.out]; rfl⟩, rfl⟩
set_option maxHeartbeats 2000000 in
theorem containsF_ok (A : Option Addr) (c n : Nat) (zs : List Int) (w : World) (hzn : n = zs.length) (hn : zs.length ≤ 9223372036854775807) (h : Has w w.heap.size A (zs.map (Value.int .i64))) :
    Calls Tryd.prog 29 #[.slice A n c, .func (.func 30) #[] #[]] w fun e w' => e = .returned (.bool (anyP zs)) ∧ w = w' := by
  have HC := Lib.hid (indexF_ok A c n zs w hzn hn h)
  clear h hzn
  go_enter Tryd.func29, Tryd.ntmps29
  go_wp2_with (first | (go_at_call 50; (with_reducible refine HC.out.mono ?_); rintro e u ⟨⟨r, rfl, hr⟩, rfl⟩))
  go_ret
  exact ⟨by rw [← hr]; rfl, rfl⟩

/-- without a dot ahead; without a dot behind -/
def strip1 : List Int → List Int
  | [] => []
  | x :: l => if x = 46 then l else x :: l
def strip2 (l : List Int) : List Int := if l.getLast? = some 46 then l.dropLast else l
def formL (m : List Int) : Bool := decide (0 < m.length) && decide (m.length ≤ 16) && !(m.any fun r => decide (r = 46))
theorem strip1_of (l : List Int) : l = strip1 l ∨ l = 46 :: strip1 l := by
  cases l with
  | nil => exact Or.inl rfl
  | cons x l =>
    by_cases e : x = 46
    · subst e; right; simp [strip1]
    · left; simp [strip1, e]
theorem strip1_head {l : List Int} (h : l = strip1 l) : l.head? ≠ some 46 := by
  cases l with
  | nil => simp
  | cons x l =>
    by_cases e : x = 46
    · simp only [strip1, if_pos e] at h
      have := congrArg List.length h; simp at this
    · simpa using e
theorem strip2_of (l : List Int) : (l = strip2 l ∧ l.getLast? ≠ some 46) ∨ l = strip2 l ++ [46] := by
  unfold strip2
  split
  · rename_i e
    right
    rcases List.eq_nil_or_concat l with rfl | ⟨m, z, rfl⟩
    · simp at e
    · simp at e; subst e; simp
  · rename_i e; exact Or.inl ⟨rfl, e⟩
theorem ownN_app (a b : List Int) : ownN (a ++ b) = ownN a + ownN b := by unfold ownN; rw [List.filter_append, List.length_append]
theorem ownN_full {m : List Int} (h : m.any (fun r => decide (r = 46)) = false) : ownN m = m.length := by
  unfold ownN
  rw [List.any_eq_false] at h
  rw [List.filter_eq_self.2]
  intro a ha
  have := h a ha
  simpa using this
theorem get_app (a b c : List Int) (i : Nat) (h : i < b.length) : (a ++ b ++ c).getD (a.length + i) 0 = b[i] := by
  simp [List.getD, List.getElem?_append, h, show ¬ a.length + i < a.length by omega]
theorem form_may (l : List Int) : mayB l = formL (strip2 (strip1 l)) := by
  -- the parts
  obtain ⟨pre, m, suf, e, hp, hs, hm⟩ : ∃ pre m suf, l = pre ++ m ++ suf ∧ (pre = [46] ∨ (pre = [] ∧ l.head? ≠ some 46)) ∧ (suf = [46] ∨ (suf = [] ∧ (m.getLast? ≠ some 46))) ∧ strip2 (strip1 l) = m := by
    rcases strip1_of l with h1 | h1
    · rcases strip2_of (strip1 l) with ⟨h2, h3⟩ | h2
      · exact ⟨[], _, [], by rw [← h2, List.append_nil, List.nil_append]; exact h1, Or.inr ⟨rfl, strip1_head h1⟩, Or.inr ⟨rfl, by rw [← h2]; exact h3⟩, rfl⟩
      · exact ⟨[], _, [46], by rw [List.nil_append, ← h2]; exact h1, Or.inr ⟨rfl, strip1_head h1⟩, Or.inl rfl, rfl⟩
    · rcases strip2_of (strip1 l) with ⟨h2, h3⟩ | h2
      · exact ⟨[46], _, [], by rw [← h2, List.append_nil]; exact h1, Or.inl rfl, Or.inr ⟨rfl, by rw [← h2]; exact h3⟩, rfl⟩
      · exact ⟨[46], _, [46], by rw [List.append_assoc, ← h2]; exact h1, Or.inl rfl, Or.inl rfl, rfl⟩
  rw [hm]
  have hown : ownN l = ownN m := by
    rw [e, ownN_app, ownN_app]
    have o1 : ownN pre = 0 := by rcases hp with rfl | ⟨rfl, _⟩ <;> rfl
    have o2 : ownN suf = 0 := by rcases hs with rfl | ⟨rfl, _⟩ <;> rfl
    omega
  have hpl : pre.length ≤ 1 := by rcases hp with rfl | ⟨rfl, _⟩ <;> simp
  have hsl : suf.length ≤ 1 := by rcases hs with rfl | ⟨rfl, _⟩ <;> simp
  have hlen : l.length = pre.length + m.length + suf.length := by rw [e]; simp [Nat.add_assoc]
  cases hd : m.any (fun r => decide (r = 46)) with
  | false =>
    have h1 := ownN_full hd
    unfold formL
    rw [hd, Bool.eq_iff_iff]
    rw [mayB_iff, hown, h1]
    simp only [Bool.and_eq_true, decide_eq_true_eq, Bool.not_false, and_true]
    constructor
    · rintro ⟨a, b, _⟩; exact ⟨a, b⟩
    · rintro ⟨a, b⟩
      refine ⟨a, b, fun i hi h46 => ?_⟩
      rcases Nat.lt_or_ge i pre.length with c1 | c1
      · omega
      · rcases Nat.lt_or_ge i (pre.length + m.length) with c2 | c2
        · exfalso
          have := get_app pre m suf (i - pre.length) (by omega)
          rw [← e, show pre.length + (i - pre.length) = i by omega, h46] at this
          rw [List.any_eq_false] at hd
          have h3 := hd _ (List.getElem_mem (show i - pre.length < m.length by omega))
          rw [← this] at h3
          simp at h3
        · omega
  | true =>
    unfold formL
    rw [hd]
    simp only [Bool.not_true, Bool.and_false]
    rw [Bool.eq_false_iff]
    intro hmay
    obtain ⟨_, _, h3⟩ := (mayB_iff l).1 hmay
    rw [List.any_eq_true] at hd
    obtain ⟨x, hx, hx2⟩ := hd
    have hx3 : x = 46 := by simpa using hx2
    subst hx3
    obtain ⟨i, hi, hi2⟩ := List.mem_iff_getElem.1 hx
    have h4 := get_app pre m suf i hi
    rw [← e, hi2] at h4
    rcases h3 (pre.length + i) (by omega) h4 with h5 | h5
    · rcases hp with rfl | ⟨rfl, h6⟩
      · simp at h5
      · apply h6
        have hi0 : i = 0 := by simpa using h5
        subst hi0
        rw [e, List.nil_append]
        cases m with
        | nil => simp at hi
        | cons y m => simp at hi2; simp [hi2]
    · rcases hs with rfl | ⟨rfl, h6⟩
      · simp at hlen; omega
      · apply h6
        rw [List.getLast?_eq_getElem?]
        simp at hlen
        rw [show m.length - 1 = i by omega, List.getElem?_eq_getElem hi, hi2]
end Go.Proofs.YtekjejbcdnghjaaDoor

/-
  The program's reading of a pattern: its form ('hasForm'). Condition: at most a million letters.
-/
set_option linter.unusedVariables false
set_option linter.unusedSimpArgs false
namespace Go.Proofs.YtekjejbcdnghjaaDoor
open Go.ChangeShapes Go.WideShapes Go.ChangeAt Go.RowKit Go.Sort

theorem formL_no {m : List Int} {q : Nat} (hq : m.length = q) (h : q = 0 ∨ 16 < q) : formL m = false := by
  unfold formL
  rw [hq]
  rcases h with h | h
  · subst h; simp
  · rw [decide_eq_false (show ¬ q ≤ 16 by omega)]; simp
theorem formL_yes {m : List Int} {q : Nat} (hq : m.length = q) (h0 : 0 < q) (h1 : q ≤ 16) : formL m = !(m.any fun r => decide (r = 46)) := by
  unfold formL
  rw [hq, decide_eq_true h0, decide_eq_true h1]; simp
theorem strip2_same {m : List Int} {q : Nat} (hq : m.length = q + 1) (h : m.getD q 0 ≠ 46) : strip2 m = m := by
  unfold strip2
  rw [if_neg]
  rw [List.getLast?_eq_getElem?, show m.length - 1 = q by omega, List.getElem?_eq_getElem (by omega)]
  intro e
  injection e with e
  apply h
  simp [List.getD, List.getElem?_eq_getElem (show q < m.length by omega), e]
theorem strip2_cut {m : List Int} {q : Nat} (hq : m.length = q + 1) (h : m.getD q 0 = 46) : strip2 m = m.take q := by
  unfold strip2
  rw [if_pos, List.dropLast_eq_take, show m.length - 1 = q by omega]
  rw [List.getLast?_eq_getElem?, show m.length - 1 = q by omega, List.getElem?_eq_getElem (by omega), ← h]
  simp [List.getD, List.getElem?_eq_getElem (show q < m.length by omega)]

set_option maxRecDepth 20000 in
set_option maxHeartbeats 4000000 in
theorem form_nn (b off c q : Nat) (x y : Int) (m3 : List Int) (w : World) (hq : q ≤ 1000000) (hc : q + 1 ≤ c) (h0 : w.cell? ⟨b, off, none⟩ = some (.int .i32 x)) (hx : x ≠ 46) (hl : w.cell? ⟨b, off + q, none⟩ = some (.int .i32 y)) (hy : y ≠ 46) (hm3 : q + 1 = m3.length) (h3 : Has w w.heap.size (some ⟨b, off, none⟩) (m3.map (Value.int .i32))) :
    Calls Tryd.prog 28 #[.slice (some ⟨b, off, none⟩) (q + 1) c] w fun e w' => e = .returned (.bool (formL m3)) ∧ w = w' := by
  have cK := containsR_ok (some ⟨b, off, none⟩) c (q + 1) 46 m3 w hm3 (by omega) h3
  by_cases g : (q + 1) = 0 ∨ 16 < (q + 1)
  · rw [formL_no hm3.symm g]
    clear cK h3 hm3
    rcases g with g | g
    · have g1 : ¬ ((((q + 1) : Nat) : Int) > 0) := by omega
      exfalso; omega
    · have g1 : (((q + 1) : Nat) : Int) > 0 := by omega
      have g2 : ¬ ((((q + 1) : Nat) : Int) ≤ 16) := by omega
      go_enter Tryd.func28, Tryd.ntmps28
      go_wp2
      go_ret
      exact ⟨rfl, rfl⟩
  · rw [formL_yes hm3.symm (by omega) (by omega)]
    have g1 : (((q + 1) : Nat) : Int) > 0 := by omega
    have g2 : (((q + 1) : Nat) : Int) ≤ 16 := by omega
    obtain ⟨K, hK⟩ : ∃ K, (m3.any fun r => decide (r = 46)) = K := ⟨_, rfl⟩
    rw [hK] at cK ⊢
    clear hK h3 g hm3
    go_enter Tryd.func28, Tryd.ntmps28
    go_wp2_with (go_at_call 49; refine cK.mono ?_; rintro e u ⟨rfl, rfl⟩)
    go_ret
    exact ⟨rfl, rfl⟩

set_option maxRecDepth 20000 in
set_option maxHeartbeats 4000000 in
theorem form_nd (b off c q : Nat) (x y : Int) (m3 : List Int) (w : World) (hq : q ≤ 1000000) (hc : q + 1 ≤ c) (h0 : w.cell? ⟨b, off, none⟩ = some (.int .i32 x)) (hx : x ≠ 46) (hl : w.cell? ⟨b, off + q, none⟩ = some (.int .i32 y)) (hy : y = 46) (hm3 : q = m3.length) (h3 : Has w w.heap.size (some ⟨b, off, none⟩) (m3.map (Value.int .i32))) :
    Calls Tryd.prog 28 #[.slice (some ⟨b, off, none⟩) (q + 1) c] w fun e w' => e = .returned (.bool (formL m3)) ∧ w = w' := by
  subst hy
  have hs := fun W => rs_hi (some ⟨b, off, none⟩) (q + 1) c q (q : Int) rfl (by omega) (by omega) W
  have cK := containsR_ok (some ⟨b, off, none⟩) c q 46 m3 w hm3 (by omega) h3
  by_cases g : q = 0 ∨ 16 < q
  · rw [formL_no hm3.symm g]
    clear cK h3 hm3
    rcases g with g | g
    · have g1 : ¬ (((q : Nat) : Int) > 0) := by omega
      clear g
      go_enter Tryd.func28, Tryd.ntmps28
      go_wp2
      go_ret
      exact ⟨rfl, rfl⟩
    · have g1 : ((q : Nat) : Int) > 0 := by omega
      have g2 : ¬ (((q : Nat) : Int) ≤ 16) := by omega
      go_enter Tryd.func28, Tryd.ntmps28
      go_wp2
      go_ret
      exact ⟨rfl, rfl⟩
  · rw [formL_yes hm3.symm (by omega) (by omega)]
    have g1 : ((q : Nat) : Int) > 0 := by omega
    have g2 : ((q : Nat) : Int) ≤ 16 := by omega
    obtain ⟨K, hK⟩ : ∃ K, (m3.any fun r => decide (r = 46)) = K := ⟨_, rfl⟩
    rw [hK] at cK ⊢
    clear hK h3 g hm3
    go_enter Tryd.func28, Tryd.ntmps28
    go_wp2_with (go_at_call 49; refine cK.mono ?_; rintro e u ⟨rfl, rfl⟩)
    go_ret
    exact ⟨rfl, rfl⟩

set_option maxRecDepth 20000 in
set_option maxHeartbeats 4000000 in
theorem form_dn (b off c q : Nat) (b1 off1 c1 : Nat) (y : Int) (m3 : List Int) (w : World) (hq : q ≤ 1000000) (hc : q + 1 ≤ c1) (h0 : w.cell? ⟨b, off, none⟩ = some (.int .i32 46)) (hs1 : ∀ W, (Instr.slice 22 (.slice (some ⟨b, off, none⟩) (q + 1 + 1) c) (some (.int .i64 1)) none none).run Tryd.prog W = .ok (.slice (some ⟨b1, off1, none⟩) (q + 1) c1) W) (hl : w.cell? ⟨b1, off1 + q, none⟩ = some (.int .i32 y)) (hy : y ≠ 46) (hm3 : q + 1 = m3.length) (h3 : Has w w.heap.size (some ⟨b1, off1, none⟩) (m3.map (Value.int .i32))) :
    Calls Tryd.prog 28 #[.slice (some ⟨b, off, none⟩) (q + 1 + 1) c] w fun e w' => e = .returned (.bool (formL m3)) ∧ w = w' := by
  have cK := containsR_ok (some ⟨b1, off1, none⟩) c1 (q + 1) 46 m3 w hm3 (by omega) h3
  by_cases g : (q + 1) = 0 ∨ 16 < (q + 1)
  · rw [formL_no hm3.symm g]
    clear cK h3 hm3
    rcases g with g | g
    · have g1 : ¬ ((((q + 1) : Nat) : Int) > 0) := by omega
      exfalso; omega
    · have g1 : (((q + 1) : Nat) : Int) > 0 := by omega
      have g2 : ¬ ((((q + 1) : Nat) : Int) ≤ 16) := by omega
      go_enter Tryd.func28, Tryd.ntmps28
      go_wp2
      go_ret
      exact ⟨rfl, rfl⟩
  · rw [formL_yes hm3.symm (by omega) (by omega)]
    have g1 : (((q + 1) : Nat) : Int) > 0 := by omega
    have g2 : (((q + 1) : Nat) : Int) ≤ 16 := by omega
    obtain ⟨K, hK⟩ : ∃ K, (m3.any fun r => decide (r = 46)) = K := ⟨_, rfl⟩
    rw [hK] at cK ⊢
    clear hK h3 g hm3
    go_enter Tryd.func28, Tryd.ntmps28
    go_wp2_with (go_at_call 49; refine cK.mono ?_; rintro e u ⟨rfl, rfl⟩)
    go_ret
    exact ⟨rfl, rfl⟩

set_option maxRecDepth 20000 in
set_option maxHeartbeats 4000000 in
theorem form_dd (b off c q : Nat) (b1 off1 c1 : Nat) (y : Int) (m3 : List Int) (w : World) (hq : q ≤ 1000000) (hc : q + 1 ≤ c1) (h0 : w.cell? ⟨b, off, none⟩ = some (.int .i32 46)) (hs1 : ∀ W, (Instr.slice 22 (.slice (some ⟨b, off, none⟩) (q + 1 + 1) c) (some (.int .i64 1)) none none).run Tryd.prog W = .ok (.slice (some ⟨b1, off1, none⟩) (q + 1) c1) W) (hl : w.cell? ⟨b1, off1 + q, none⟩ = some (.int .i32 y)) (hy : y = 46) (hm3 : q = m3.length) (h3 : Has w w.heap.size (some ⟨b1, off1, none⟩) (m3.map (Value.int .i32))) :
    Calls Tryd.prog 28 #[.slice (some ⟨b, off, none⟩) (q + 1 + 1) c] w fun e w' => e = .returned (.bool (formL m3)) ∧ w = w' := by
  subst hy
  have hs := fun W => rs_hi (some ⟨b1, off1, none⟩) (q + 1) c1 q (q : Int) rfl (by omega) (by omega) W
  have cK := containsR_ok (some ⟨b1, off1, none⟩) c1 q 46 m3 w hm3 (by omega) h3
  by_cases g : q = 0 ∨ 16 < q
  · rw [formL_no hm3.symm g]
    clear cK h3 hm3
    rcases g with g | g
    · have g1 : ¬ (((q : Nat) : Int) > 0) := by omega
      clear g
      go_enter Tryd.func28, Tryd.ntmps28
      go_wp2
      go_ret
      exact ⟨rfl, rfl⟩
    · have g1 : ((q : Nat) : Int) > 0 := by omega
      have g2 : ¬ (((q : Nat) : Int) ≤ 16) := by omega
      go_enter Tryd.func28, Tryd.ntmps28
      go_wp2
      go_ret
      exact ⟨rfl, rfl⟩
  · rw [formL_yes hm3.symm (by omega) (by omega)]
    have g1 : ((q : Nat) : Int) > 0 := by omega
    have g2 : ((q : Nat) : Int) ≤ 16 := by omega
    obtain ⟨K, hK⟩ : ∃ K, (m3.any fun r => decide (r = 46)) = K := ⟨_, rfl⟩
    rw [hK] at cK ⊢
    clear hK h3 g hm3
    go_enter Tryd.func28, Tryd.ntmps28
    go_wp2_with (go_at_call 49; refine cK.mono ?_; rintro e u ⟨rfl, rfl⟩)
    go_ret
    exact ⟨rfl, rfl⟩

set_option maxRecDepth 20000 in
set_option maxHeartbeats 4000000 in
theorem form_d (b off c : Nat) (w : World) (hc : 1 ≤ c) (h0 : w.cell? ⟨b, off, none⟩ = some (.int .i32 46)) :
    Calls Tryd.prog 28 #[.slice (some ⟨b, off, none⟩) 1 c] w fun e w' => e = .returned (.bool false) ∧ w = w' := by
  have hs1 := fun W => rs_lo (some ⟨b, off, none⟩) 1 c 1 1 rfl (by omega) W
  obtain ⟨A1, hA1⟩ : ∃ A1, subA (some ⟨b, off, none⟩) c 1 = A1 := ⟨_, rfl⟩
  rw [hA1] at hs1
  simp only [Nat.sub_self] at hs1
  go_enter Tryd.func28, Tryd.ntmps28
  go_wp2
  go_ret
  exact ⟨rfl, rfl⟩
set_option maxRecDepth 20000 in
set_option maxHeartbeats 4000000 in
theorem form_none (A : Option Addr) (c : Nat) (w : World) :
    Calls Tryd.prog 28 #[.slice A 0 c] w fun e w' => e = .returned (.bool false) ∧ w = w' := by
  go_enter Tryd.func28, Tryd.ntmps28
  go_wp2
  go_ret
  exact ⟨rfl, rfl⟩

theorem get_of {m : List Int} {q : Nat} (h : q < m.length) : m[q] = m.getD q 0 := by simp [List.getD, List.getElem?_eq_getElem h]
theorem hform_ok (A : Option Addr) (c : Nat) (l : List Int) (w : World) (hn : l.length ≤ 1000000) (hc : l.length ≤ c) (h : Has w w.heap.size A (l.map (Value.int .i32))) :
    Calls Tryd.prog 28 #[.slice A l.length c] w fun e w' => e = .returned (.bool (mayB l)) ∧ w = w' := by
  rw [form_may]
  rcases hl : l.length with _ | n
  · have e : l = [] := List.eq_nil_of_length_eq_zero hl
    subst e
    exact form_none A c w
  · obtain ⟨b, off, rfl, hb, hc0⟩ := h.at_int (k := 0) (by omega)
    obtain ⟨x, m, rfl⟩ : ∃ x m, l = x :: m := by
      cases l with
      | nil => simp at hl
      | cons x m => exact ⟨x, m, rfl⟩
    have hm : m.length = n := by simpa using hl
    replace hc0 : w.cell? ⟨b, off, none⟩ = some (.int .i32 x) := by simpa using hc0
    simp only [List.length_cons] at hc hn
    by_cases hx : x = 46
    · subst hx
      have e1 : strip1 (46 :: m) = m := by simp [strip1]
      rw [e1]
      rcases n with _ | q
      · have e : m = [] := List.eq_nil_of_length_eq_zero hm
        subst e
        exact form_d b off c w (by omega) hc0
      · have hd := h.sub 1 c (by simpa using hc)
        have hs := fun W => rs_lo (some ⟨b, off, none⟩) (q + 1 + 1) c 1 1 rfl (by omega) W
        rw [show (List.map (Value.int .i32) (46 :: m)).drop 1 = m.map (Value.int .i32) from rfl] at hd
        obtain ⟨b1, off1, hA, hb1, hl1⟩ := hd.at_int (k := q) (by omega)
        rw [hA] at hs hd
        rw [get_of] at hl1
        by_cases hy : m.getD q 0 = 46
        · rw [strip2_cut hm hy]
          exact form_dd b off c q b1 off1 (c - 1) _ (m.take q) w (by omega) (by omega) hc0 hs hl1 hy (by rw [List.length_take]; omega) (by rw [List.map_take]; exact hd.front' q)
        · rw [strip2_same hm hy]
          exact form_dn b off c q b1 off1 (c - 1) _ m w (by omega) (by omega) hc0 hs hl1 hy hm.symm hd
    · have e1 : strip1 (x :: m) = x :: m := by simp [strip1, hx]
      rw [e1]
      obtain ⟨b1, off1, hA, hb1, hl1⟩ := h.at_int (k := n) (by omega)
      injection hA with hA
      injection hA with hA1 hA2
      subst hA1
      subst hA2
      rw [get_of] at hl1
      by_cases hy : (x :: m).getD n 0 = 46
      · rw [strip2_cut hl hy]
        exact form_nd b off c n x _ ((x :: m).take n) w (by omega) (by omega) hc0 hx hl1 hy (by rw [List.length_take]; omega) (by rw [List.map_take]; exact h.front' n)
      · rw [strip2_same hl hy]
        exact form_nn b off c n x _ (x :: m) w (by omega) (by omega) hc0 hx hl1 hy hl.symm h
end Go.Proofs.YtekjejbcdnghjaaDoor

/-
  The program's reading of a pattern: its letters and digits ('split'), 'Parse'. Conditions: a text of at most a million bytes; the library's two tables of UTF-8 lie in memory.
-/
set_option linter.unusedVariables false
set_option linter.unusedSimpArgs false
namespace Go.Proofs.YtekjejbcdnghjaaDoor
open Go.ChangeShapes Go.WideShapes Go.ChangeAt Go.RowKit Go.Sort

theorem TwoM.block {k1 k2 : IntKind} {e1 e2 : TypeId} {B I : Nat} {w wr W : World} {v u : Value} {l m : List Int} (h : TwoM k1 k2 e1 e2 B w wr v u l m) (hb : Below B wr W) (hk : ∀ b, b < wr.heap.size → b ≠ I → W.heap[b]? = wr.heap[b]?) (h1 : v.ownBlock ≠ some I) (h2 : u.ownBlock ≠ some I) : TwoM k1 k2 e1 e2 B w W v u l m :=
  ⟨h.one.stays fun b hb2 hlt => hk b hlt fun e => h1 (by rw [hb2, e]), h.two.stays fun b hb2 hlt => hk b hlt fun e => h2 (by rw [hb2, e]), h.far, h.bel.trans hb⟩
theorem set_last (d : List Int) (N X : Int) (n : Nat) (hd : d.length = n) : (d ++ [N]).set n X = d ++ [X] := by
  subst hd
  rw [List.set_append_right _ _ (Nat.le_refl _)]
  simp

/-- what the program's splitting holds between two runes; I: the iterator's block -/
structure SpL (s : ByteArray) (T : List Int) (I : Nat) (w wr : World) (v u : Value) (pos : Nat) (left l d : List Int) (N : Int) (S : Bool) : Prop where
  two : TwoM .i32 .i64 21 3 w.heap.size w wr v u l (d ++ [N])
  iter : wr.heap[I]? = some (.stringIter s pos)
  hI : w.heap.size ≤ I
  off1 : v.ownBlock ≠ some I
  off2 : u.ownBlock ≠ some I
  len : d.length = l.length
  le : l.length ≤ pos
  left_ : LeftR s pos left
  rest : RestU T left l d N S
section
variable {s : ByteArray} {T : List Int} {I : Nat} {w wr W : World} {v u v' u' : Value} {pos : Nat} {left l d : List Int} {N : Int} {S : Bool}
theorem SpL.lt (h : SpL s T I w wr v u pos left l d N S) : I < wr.heap.size := (Array.getElem?_eq_some_iff.1 h.iter).1
/-- the iterator goes on by one rune -/
theorem SpL.next (h : SpL s T I w wr v u pos left l d N S) (p : Nat) : TwoM .i32 .i64 21 3 w.heap.size w (wr.iterAt I s p) v u l (d ++ [N]) ∧ (wr.iterAt I s p).heap[I]? = some (.stringIter s p) ∧ w.heap.size ≤ (wr.iterAt I s p).heap.size :=
  ⟨h.two.block (Lib.below_iterAt (Below.refl _ _) h.hI s p) (fun b _ hne => Lib.iterAt_other wr I b s p hne) h.off1 h.off2, Lib.iterAt_heap wr I s pos p h.iter, by rw [Lib.iterAt_size]; exact h.two.bel.size⟩
end
theorem kept_iter {s : ByteArray} {wr W : World} {v v' : Value} {I p : Nat} (hi : wr.heap[I]? = some (.stringIter s p)) (h : v.ownBlock ≠ some I) (hf : ∀ b, b < wr.heap.size → v.ownBlock ≠ some b → v'.ownBlock ≠ some b ∧ W.heap[b]? = wr.heap[b]?) : W.heap[I]? = some (.stringIter s p) ∧ v'.ownBlock ≠ some I := by
  obtain ⟨a, b⟩ := hf I (Array.getElem?_eq_some_iff.1 hi).1 h
  exact ⟨b.trans hi, a⟩
theorem wrap_digit (R : Int) (h : 48 ≤ R ∧ R ≤ 57) : IntKind.i32.wrap (R - 48) = R - 48 := IntWalk.i32_in _ (by omega)

theorem pz_le : ∀ (t : List Int) (now : Int) (wr : Bool) {z : List Int × List Int}, pz now wr t = some z → z.1.length ≤ t.length
  | [], now, wr, z, h => by simp [pz] at h; subst h; simp
  | c :: t, now, wr, z, h => by
    unfold pz at h
    split at h
    · split at h
      · cases h
      · have := pz_le t _ _ h; simp; omega
    · cases e : pz 0 false t with
      | none => rw [e] at h; cases h
      | some y =>
        rw [e] at h
        simp only [Option.map_some, Option.some.injEq] at h
        subst h
        have := pz_le t 0 false e
        simp; omega

set_option maxRecDepth 20000 in
set_option maxHeartbeats 8000000 in
theorem split_ok (s : ByteArray) (w : World) (hn : s.size ≤ 1000000) (hv : (decP (bytesS s)).2.2 = 0) : Calls Tryd.prog 27 #[.string s] w fun e w' => ParseOf w w' e (pz 0 false (decP (bytesS s)).1) := by
  have HL0 := Lib.hid (left_start hv)
  obtain ⟨T, hT⟩ : ∃ T, (decP (bytesS s)).1 = T := ⟨_, rfl⟩
  rw [hT] at HL0 ⊢
  clear hT hv
  obtain ⟨V, hV⟩ : ∃ V, pz 0 false T = V := ⟨_, rfl⟩
  rw [hV]
  have HV := Lib.hid hV
  clear hV
  go_enter Tryd.func27, Tryd.ntmps27
  go_wp2
  have hstart : SpL s T (w.heap.size + 1) w ((w.alloc (.cells #[.int .i64 0] 3)).alloc (.stringIter s 0)) (.slice none 0 0) (.slice (some ⟨w.heap.size, 0, none⟩) 1 1) 0 T [] [] 0 false := by
    refine ⟨⟨Mine.nil_ _ _ _ _, (Mine.one .i64 3 w w.heap.size 0 (Nat.le_refl _)).alloc _, apart_nil _, ((Below.refl w.heap.size w).alloc (Nat.le_refl _) _).alloc (by simp) _⟩, ?_, by omega, by simp [Value.ownBlock], by simp [Value.ownBlock], rfl, Nat.zero_le _, HL0.out, restU_start T⟩
    have h1 : (w.alloc (.cells #[.int .i64 0] 3)).heap.size = w.heap.size + 1 := by simp
    rw [← h1]
    exact World.iter_heap (w.alloc (.cells #[.int .i64 0] 3)) s 0
  have HST := Lib.hid hstart
  clear hstart HL0
  go_loopw [5, 6, 7] (fun v u b wr => ∃ (pos : Nat) (left l d : List Int) (N : Int) (S : Bool), b = .bool S ∧ SpL s T (w.heap.size + 1) w wr v u pos left l d N S) (fun _ _ _ wr => s.size - wr.iterPos (w.heap.size + 1))
  case atStart => exact ⟨0, T, [], [], 0, false, rfl, HST.out⟩
  case round =>
    clear HST
    obtain ⟨pos, left, l, d, N, S, rfl, H⟩ := hrel
    have hI := H.iter
    have hle := H.le
    have hlen := H.len
    by_cases hp : pos < s.size
    · obtain ⟨left', e, HL', hw1, hw2⟩ := left_step H.left_ hp
      have hnx : ∀ ty, (Instr.next (.pointer (some ⟨w.heap.size + 1, 0, none⟩)) true ty).run Tryd.prog wr = _ := fun ty => Lib.run_next_any_at wr (w.heap.size + 1) s pos ty hI hp
      obtain ⟨D, hD⟩ : ∃ D, Utf8.decode s pos = D := ⟨_, rfl⟩
      obtain ⟨R, wd⟩ := D
      rw [hD] at e hnx HL' hw1 hw2
      simp only at e hnx HL' hw1 hw2
      subst e
      obtain ⟨hT2, hi2, hs2⟩ := H.next (pos + wd)
      obtain ⟨W, hW⟩ : ∃ W, wr.iterAt (w.heap.size + 1) s (pos + wd) = W := ⟨_, rfl⟩
      rw [hW] at hT2 hi2 hs2 hnx
      have h1 := hT2.one
      have h2 := hT2.two
      have ho1 := H.off1
      have ho2 := H.off2
      have HR := Lib.hid H.rest
      have HT2 := Lib.hid hT2
      have HI2 := Lib.hid hi2
      have HLL := Lib.hid HL'
      have HO1 := Lib.hid ho1
      have HO2 := Lib.hid ho2
      have hpos : wr.iterPos (w.heap.size + 1) = pos := by simp [World.iterPos, hI]
      have HPOS := Lib.hid hpos
      have hII := H.hI
      clear hW hI hD H HL' hT2 hi2 ho1 ho2 hpos
      by_cases hd : isD (R : Int)
      · have hdr := hd
        unfold isD at hdr
        cases S
        · have HR2 := Lib.hid (restU_digit HR.out hd)
          obtain ⟨A1, c1, hv1, _, _, _⟩ := h1.size
          subst hv1
          have hx1 : (d ++ [N]).length = l.length + 1 := by simp; omega
          obtain ⟨g, c, hu, hgc, hgB, hgl⟩ := h2.formB (by simp)
          subst hu
          rw [hx1] at h2 HT2 HO2 hgc
          have hset := h2.set l.length (by omega) ((R : Int) - 48)
          rw [set_last d N _ _ hlen] at hset
          have hfz := h2.free l.length
          obtain ⟨y, hcl⟩ : ∃ y, W.cell? ⟨g, l.length, none⟩ = some (.int .i64 y) := ⟨_, h2.cellAt l.length (by omega)⟩
          have hwd := wrap_digit (R : Int) hdr
          have HS : Hid (SpL s T (w.heap.size + 1) w (W.setCell ⟨g, l.length, none⟩ (.int .i64 ((R : Int) - 48))) (.slice A1 l.length c1) (.slice (some ⟨g, 0, none⟩) (l.length + 1) c) (pos + wd) left' l d ((R : Int) - 48) true) := Lib.hid
            ⟨⟨HT2.out.one.stays fun b hb _ => Below.heap_setCell _ _ _ _ (fun e => HT2.out.far b hb (by rw [e]; rfl)), hset, HT2.out.far, HT2.out.bel.setCell (p := ⟨g, l.length, none⟩) hgB _⟩, (Below.heap_setCell _ _ _ _ (fun e => HO2.out (by show some g = _; rw [e]))).trans HI2.out, hII, HO1.out, HO2.out, hlen, by omega, HLL.out, HR2.out⟩
          clear hset h2 h1 HR2 hd
          simp only [hx1]
          clear hx1
          go_wp2
          go_roundw
          case rel => exact ⟨pos + wd, left', l, d, (R : Int) - 48, true, rfl, HS.out⟩
          case measure => simp only [World.iterPos, HS.out.iter]; have := HPOS.out; unfold World.iterPos at this; omega
        · have HN : Hid (none = V) := Lib.hid (by rw [← HV.out]; exact (restU_twice HR.out hd).symm)
          have hbe := HT2.out.bel
          clear h1 h2 HR HT2 hd
          go_wp2
          go_ret3
          rw [← HN.out]
          exact ⟨rfl, hbe⟩
      · have HR2 := Lib.hid (restU_letter HR.out hd)
        have hdr : (R : Int) < 48 ∨ (48 ≤ (R : Int) ∧ 57 < (R : Int)) := by unfold isD at hd; omega
        clear hd
        rcases hdr with hr1 | ⟨hr1, hr2⟩
        · have hr3 : ¬ ((R : Int) ≥ 48) := by omega
          clear hr1
          go_wp2_with (first
            | (at_builtin; refine wpList_push_far rfl _ _ 22 rfl Tryd.underlying22 infoI32 (by omega) w.heap.size _ _ (R : Int) _ h1 rfl rfl hs2 (by omega) ?_; intro v' w3 hM3 hb3 hf3; have HM2 := HT2.out.push1 hM3 hb3 hf3; have hi3 := kept_iter HI2.out HO1.out hf3; have ho3 := (hf3 _ (Array.getElem?_eq_some_iff.1 HI2.out).1 HO1.out); have HI3 := Lib.hid hi3.1; have HO3 := Lib.hid hi3.2; have h22 := HM2.two; have hB2 := HM2.bel.size; have HM2 := Lib.hid HM2; clear hM3 hb3 hf3 h1 h2 hs2 hi3 ho3)
            | (at_builtin; refine wpList_push_far rfl _ _ 23 rfl Tryd.underlying23 infoI64 (by omega) w.heap.size _ _ (0 : Int) _ h22 rfl rfl hB2 (by simp; omega) ?_; intro u' w4 hM4 hb4 hf4; have HM3 := Lib.hid (HM2.out.push2 hM4 hb4 hf4); have hi4 := kept_iter HI3.out HO2.out hf4; have HI4 := Lib.hid hi4.1; have HO4 := Lib.hid hi4.2; clear hM4 hb4 hf4 h22 hB2 hi4))
          have HS : Hid (SpL s T (w.heap.size + 1) w w4 v' u' (pos + wd) left' (l ++ [(R : Int)]) (d ++ [N]) 0 false) := Lib.hid
            ⟨HM3.out, HI4.out, hII, HO3.out, HO4.out, by simp; omega, by simp; omega, HLL.out, HR2.out⟩
          go_roundw
          case rel => exact ⟨pos + wd, left', l ++ [(R : Int)], d ++ [N], 0, false, rfl, HS.out⟩
          case measure => simp only [World.iterPos, HS.out.iter]; have := HPOS.out; unfold World.iterPos at this; omega
        · have hr3 : (R : Int) ≥ 48 := by omega
          have hr4 : ¬ ((R : Int) ≤ 57) := by omega
          clear hr1 hr2
          go_wp2_with (first
            | (at_builtin; refine wpList_push_far rfl _ _ 22 rfl Tryd.underlying22 infoI32 (by omega) w.heap.size _ _ (R : Int) _ h1 rfl rfl hs2 (by omega) ?_; intro v' w3 hM3 hb3 hf3; have HM2 := HT2.out.push1 hM3 hb3 hf3; have hi3 := kept_iter HI2.out HO1.out hf3; have ho3 := (hf3 _ (Array.getElem?_eq_some_iff.1 HI2.out).1 HO1.out); have HI3 := Lib.hid hi3.1; have HO3 := Lib.hid hi3.2; have h22 := HM2.two; have hB2 := HM2.bel.size; have HM2 := Lib.hid HM2; clear hM3 hb3 hf3 h1 h2 hs2 hi3 ho3)
            | (at_builtin; refine wpList_push_far rfl _ _ 23 rfl Tryd.underlying23 infoI64 (by omega) w.heap.size _ _ (0 : Int) _ h22 rfl rfl hB2 (by simp; omega) ?_; intro u' w4 hM4 hb4 hf4; have HM3 := Lib.hid (HM2.out.push2 hM4 hb4 hf4); have hi4 := kept_iter HI3.out HO2.out hf4; have HI4 := Lib.hid hi4.1; have HO4 := Lib.hid hi4.2; clear hM4 hb4 hf4 h22 hB2 hi4))
          have HS : Hid (SpL s T (w.heap.size + 1) w w4 v' u' (pos + wd) left' (l ++ [(R : Int)]) (d ++ [N]) 0 false) := Lib.hid
            ⟨HM3.out, HI4.out, hII, HO3.out, HO4.out, by simp; omega, by simp; omega, HLL.out, HR2.out⟩
          go_roundw
          case rel => exact ⟨pos + wd, left', l ++ [(R : Int)], d ++ [N], 0, false, rfl, HS.out⟩
          case measure => simp only [World.iterPos, HS.out.iter]; have := HPOS.out; unfold World.iterPos at this; omega
    · have he := left_end H.left_ hp
      subst he
      have hnx : ∀ ty, (Instr.next (.pointer (some ⟨w.heap.size + 1, 0, none⟩)) true ty).run Tryd.prog wr = _ := fun ty => Lib.run_next_end_at wr (w.heap.size + 1) s pos ty hI hp
      have HN : Hid (some (l, d ++ [N]) = V) := Lib.hid (by rw [← HV.out]; exact (restU_end H.rest).symm)
      have HT := Lib.hid H.two
      clear H hlen hle
      go_wp2
      go_ret3
      rw [← HN.out]
      exact ⟨_, _, rfl, HT.out.one.sliceV HT.out.bel, HT.out.two.sliceV HT.out.bel⟩

set_option maxRecDepth 20000 in
set_option maxHeartbeats 4000000 in
theorem pparse_ok (s : ByteArray) (w : World) (hn : s.size ≤ 1000000) (hT : Lib.Utf8Tabs 0 1 w) : Calls Tryd.prog 9 #[.string s] w fun e w' => ParseOf w w' e (patS s) := by
  obtain ⟨V, hV⟩ : ∃ V, patS s = V := ⟨_, rfl⟩
  rw [hV]
  unfold patS at hV
  have hval := Tryd.utf8_ValidString s w (by omega) hT
  rw [valid_is] at hval
  by_cases hE : (decP (bytesS s)).2.2 = 0
  · rw [if_pos hE] at hV
    rw [decide_eq_true hE] at hval
    have hsp := fun W => split_ok s W hn hE
    have hlen : (decP (bytesS s)).1.length ≤ 1000000 := by have := decP_len (bytesS s); rw [bytesS_length] at this; omega
    obtain ⟨T, hT2⟩ : ∃ T, (decP (bytesS s)).1 = T := ⟨_, rfl⟩
    rw [hT2] at hV hsp hlen
    unfold parseS at hV
    have hzl : ∀ z, pz 0 false T = some z → z.1.length ≤ 1000000 ∧ z.2.length ≤ 1000001 := fun z hz => by
      have h1 := pz_length T 0 false (l := z.1) (d := z.2) hz
      have h2 := pz_le T 0 false hz
      omega
    cases hz : pz 0 false T with
    | none =>
      rw [hz] at hV hsp
      simp only at hV
      subst hV
      clear hzl hT
      go_enter Tryd.func9, Tryd.ntmps9
      go_wp2_with (first
        | (go_at_call 26; refine hval.mono ?_; rintro e w1 ⟨rfl, hb1⟩)
        | (go_at_call 27; refine (hsp _).mono ?_; rintro e w2 ⟨rfl, hb2⟩))
      go_ret3
      exact ⟨rfl, below_trans hb1 hb2 hb1.size⟩
    | some z =>
      obtain ⟨hz1, hz2⟩ := hzl z hz
      rw [hz] at hV hsp
      simp only at hV
      have HV := Lib.hid hV
      clear hzl hT hV hz
      by_cases hm : mayB z.1 = true
      · by_cases ha : anyP z.2 = true
        · have HN : Hid (V = some z) := Lib.hid (by rw [← HV.out, ha, hm]; rfl)
          go_enter Tryd.func9, Tryd.ntmps9
          go_wp2_with (first
            | (go_at_call 26; refine hval.mono ?_; rintro e w1 ⟨rfl, hb1⟩)
            | (go_at_call 27; refine (hsp _).mono ?_; rintro e w2 ⟨v, u, rfl, hs1, hs2⟩; have HS1 := Lib.hid hs1; have HS2 := Lib.hid hs2; obtain ⟨A1, c1, rfl, hc1, hh1, hb2⟩ := hs1; obtain ⟨A2, c2, rfl, hc2, hh2, hb2'⟩ := hs2; have hcf := hform_ok A1 c1 z.1 w2 hz1 hc1.1 hh1; have hca := containsF_ok A2 c2 _ z.2 w2 rfl (by omega) hh2; rw [hm] at hcf; rw [ha] at hca; clear hc1 hc2 hh1 hh2)
            | (go_at_call 28; refine hcf.mono ?_; rintro e w3 ⟨rfl, rfl⟩)
            | (go_at_call 29; refine hca.mono ?_; rintro e w4 ⟨rfl, rfl⟩))
          go_ret3
          rw [HN.out]
          exact ⟨_, _, rfl, HS1.out.trans hb1, HS2.out.trans hb1⟩
        · have HN : Hid (V = none) := Lib.hid (by rw [← HV.out, if_neg (by simp [ha])])
          replace ha : anyP z.2 = false := by simpa using ha
          go_enter Tryd.func9, Tryd.ntmps9
          go_wp2_with (first
            | (go_at_call 26; refine hval.mono ?_; rintro e w1 ⟨rfl, hb1⟩)
            | (go_at_call 27; refine (hsp _).mono ?_; rintro e w2 ⟨v, u, rfl, hs1, hs2⟩; obtain ⟨A1, c1, rfl, hc1, hh1, hb2⟩ := hs1; obtain ⟨A2, c2, rfl, hc2, hh2, hb2'⟩ := hs2; have hcf := hform_ok A1 c1 z.1 w2 hz1 hc1.1 hh1; have hca := containsF_ok A2 c2 _ z.2 w2 rfl (by omega) hh2; rw [hm] at hcf; rw [ha] at hca; clear hc1 hc2 hh1 hh2)
            | (go_at_call 28; refine hcf.mono ?_; rintro e w3 ⟨rfl, rfl⟩)
            | (go_at_call 29; refine hca.mono ?_; rintro e w4 ⟨rfl, rfl⟩))
          go_ret3
          rw [HN.out]
          exact ⟨rfl, below_trans hb1 hb2 hb1.size⟩
      · have HN : Hid (V = none) := Lib.hid (by rw [← HV.out, if_neg (by simp [hm])])
        replace hm : mayB z.1 = false := by simpa using hm
        go_enter Tryd.func9, Tryd.ntmps9
        go_wp2_with (first
          | (go_at_call 26; refine hval.mono ?_; rintro e w1 ⟨rfl, hb1⟩)
          | (go_at_call 27; refine (hsp _).mono ?_; rintro e w2 ⟨v, u, rfl, hs1, hs2⟩; obtain ⟨A1, c1, rfl, hc1, hh1, hb2⟩ := hs1; obtain ⟨A2, c2, rfl, hc2, hh2, hb2'⟩ := hs2; have hcf := hform_ok A1 c1 z.1 w2 hz1 hc1.1 hh1; rw [hm] at hcf; clear hc1 hc2 hh1 hh2)
          | (go_at_call 28; refine hcf.mono ?_; rintro e w3 ⟨rfl, rfl⟩))
        go_ret3
        rw [HN.out]
        exact ⟨rfl, below_trans hb1 hb2 hb1.size⟩
  · rw [if_neg hE] at hV
    subst hV
    rw [decide_eq_false hE] at hval
    clear hT
    go_enter Tryd.func9, Tryd.ntmps9
    go_wp2_with (go_at_call 26; refine hval.mono ?_; rintro e w1 ⟨rfl, hb1⟩)
    go_ret3
    exact ⟨rfl, hb1⟩
end Go.Proofs.YtekjejbcdnghjaaDoor
