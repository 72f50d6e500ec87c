/-
  The document's forms of texts as plain functions: bytes of a rune, the form at the start of some bytes, decoding, units. No program in this text. No condition.
-/
import Derived.Lib.Small
import Derived.Lib.RuneBytes
import Derived.Test.YtekjejbcdnghjaaZa
import Derived.Test.YtekjejbcdnghjaaZOwn
import Derived.Deep.QuietTactic
import Derived.BigQuiet
set_option linter.unusedVariables false
namespace Go.Proofs.Ytekjejbcdnghjaa

/-- how many bytes a form has that begins with c; 0: none -/
def longP (c : Int) : Int := if c < 128 then 1 else if c < 194 ∨ 244 < c then 0 else if c < 224 then 2 else if c < 240 then 3 else 4
def loP (c : Int) : Int := if c = 224 then 160 else if c = 240 then 144 else 128
def hiP (c : Int) : Int := if c = 237 then 159 else if c = 244 then 143 else 191
def secP (a b : Int) : Prop := loP a ≤ b ∧ b ≤ hiP a
def okP (c : Int) : Prop := 128 ≤ c ∧ c ≤ 191
instance (a b : Int) : Decidable (secP a b) := by unfold secP; exact inferInstance
instance (c : Int) : Decidable (okP c) := by unfold okP; exact inferInstance
/-- what stands at the start of n bytes a b c d ..: how many bytes, and whether they are a form -/
def standN (n : Nat) (a b c d : Int) : Nat × Bool :=
  if longP a = 0 then (1, false) else if longP a = 1 then (1, true)
  else if n < 2 ∨ ¬ secP a b then (1, false) else if longP a = 2 then (2, true)
  else if n < 3 ∨ ¬ okP c then (2, false) else if longP a = 3 then (3, true)
  else if n < 4 ∨ ¬ okP d then (3, false) else (4, true)
/-- whether n bytes are a form's beginning and no form -/
def truncN (n : Nat) (a b c : Int) : Bool := decide ((n : Int) < longP a ∧ (1 < n → secP a b) ∧ (2 < n → okP c))
def runeN (n : Nat) (a b c d : Int) : Int :=
  if n = 1 then a else if n = 2 then (a - 192) * 64 + b - 128 else if n = 3 then ((a - 224) * 64 + b - 128) * 64 + c - 128 else (((a - 240) * 64 + b - 128) * 64 + c - 128) * 64 + d - 128
def standP (s : List Int) : Nat × Bool := standN s.length (s.getD 0 0) (s.getD 1 0) (s.getD 2 0) (s.getD 3 0)
def truncP (s : List Int) : Bool := truncN s.length (s.getD 0 0) (s.getD 1 0) (s.getD 2 0)
def runeP (s : List Int) : Int := runeN (standP s).1 (s.getD 0 0) (s.getD 1 0) (s.getD 2 0) (s.getD 3 0)
def ByteZ (s : List Int) : Prop := ∀ z ∈ s, 0 ≤ z ∧ z ≤ 255
theorem longP_cases (a : Int) : longP a = 0 ∨ longP a = 1 ∨ longP a = 2 ∨ longP a = 3 ∨ longP a = 4 := by unfold longP; (repeat' split) <;> simp
theorem standN_pos (n : Nat) (a b c d : Int) : 1 ≤ (standN n a b c d).1 ∧ (standN n a b c d).1 ≤ 4 := by
  unfold standN
  repeat' split
  all_goals simp
theorem standN_le (n : Nat) (a b c d : Int) (hn : 1 ≤ n) : (standN n a b c d).1 ≤ n := by
  unfold standN
  repeat' split
  all_goals simp <;> omega
theorem stand_ok (n : Nat) (a b c d : Int) (h : (standN n a b c d).2 = true) : ((standN n a b c d).1 : Int) = longP a := by
  unfold standN at h ⊢
  repeat' split at h
  all_goals simp at h
  all_goals unfold longP at *
  all_goals (simp [*]; try (repeat' split) <;> omega)
/-- a rune of one byte is below 128, and no form's rune is out of place -/
theorem runeN_one (n : Nat) (a b c d : Int) (h : (standN n a b c d).2 = true) (h1 : (standN n a b c d).1 ≤ 1) : runeN (standN n a b c d).1 a b c d < 128 := by
  have hp := standN_pos n a b c d
  have e : (standN n a b c d).1 = 1 := by omega
  have hl := stand_ok n a b c d h
  rw [e] at hl
  rw [e]
  unfold longP at hl
  simp only [runeN, if_true]
  repeat' split at hl
  all_goals omega
/-- the wrong stretch, byte by byte -/
theorem trunc_next (n k : Nat) (a b c d : Int) (h : (standN n a b c d).2 = false) (hk1 : 1 ≤ k) (hk2 : k ≤ (standN n a b c d).1) (hn : k < n) :
    truncN (k + 1) a b c = decide (k + 1 ≤ (standN n a b c d).1) := by
  unfold truncN
  have hp := standN_pos n a b c d
  have hm := standN_le n a b c d (by omega)
  by_cases q1 : longP a = 0
  · have : k = 1 := by simp [standN, q1] at hk2; omega
    subst this
    simp [standN, q1]
  by_cases q2 : longP a = 1
  · simp [standN, q2] at h
  have hl : longP a = 2 ∨ longP a = 3 ∨ longP a = 4 := by have := longP_cases a; omega
  have n2 : ¬ n < 2 := by omega
  by_cases s2 : secP a b
  · rcases hl with hl | hl | hl
    · simp [standN, n2, s2, hl] at h
    · by_cases n3 : n < 3
      · have e : standN n a b c d = (2, false) := by simp [standN, n2, n3, s2, hl]
        rw [e] at hk2 ⊢
        have : k = 1 := by simp at hk2; omega
        subst this
        simp [s2, hl]
      · by_cases s3 : okP c
        · simp [standN, n2, n3, s2, s3, hl] at h
        · have e : standN n a b c d = (2, false) := by simp [standN, n2, n3, s2, s3, hl]
          rw [e] at hk2 ⊢
          simp at hk2
          obtain rfl | rfl : k = 1 ∨ k = 2 := by omega
          · simp [s2, hl]
          · simp [s2, s3, hl]
    · by_cases n3 : n < 3
      · have e : standN n a b c d = (2, false) := by simp [standN, n2, n3, s2, hl]
        rw [e] at hk2 ⊢
        have : k = 1 := by simp at hk2; omega
        subst this
        simp [s2, hl]
      · by_cases s3 : okP c
        · by_cases n4 : n < 4
          · have e : standN n a b c d = (3, false) := by simp [standN, n2, n3, n4, s2, s3, hl]
            rw [e] at hk2 ⊢
            simp at hk2
            obtain rfl | rfl : k = 1 ∨ k = 2 := by omega
            · simp [s2, s3, hl]
            · simp [s2, s3, hl]
          · by_cases s4 : okP d
            · simp [standN, n2, n3, n4, s2, s3, s4, hl] at h
            · have e : standN n a b c d = (3, false) := by simp [standN, n2, n3, n4, s2, s3, s4, hl]
              rw [e] at hk2 ⊢
              simp at hk2
              obtain rfl | rfl | rfl : k = 1 ∨ k = 2 ∨ k = 3 := by omega
              · simp [s2, s3, hl]
              · simp [s2, s3, hl]
              · simp [s2, s3, hl]
        · have e : standN n a b c d = (2, false) := by simp [standN, n2, n3, s2, s3, hl]
          rw [e] at hk2 ⊢
          simp at hk2
          obtain rfl | rfl : k = 1 ∨ k = 2 := by omega
          · simp [s2, hl]
          · simp [s2, s3, hl]
  · have e : standN n a b c d = (1, false) := by simp [standN, n2, s2, q1, q2]
    rw [e] at hk2 ⊢
    have : k = 1 := by simp at hk2; omega
    subst this
    simp [s2]
theorem standP_pos (s : List Int) : 1 ≤ (standP s).1 ∧ (standP s).1 ≤ 4 := standN_pos _ _ _ _ _
theorem standP_le (s : List Int) (h : s ≠ []) : (standP s).1 ≤ s.length := standN_le _ _ _ _ _ (by cases s with | nil => exact absurd rfl h | cons a l => simp)
/-! ### reading bytes, place by place: k: rounds that may come; at: the place; t: what has been read -/
def decG : Nat → List Int → Nat → List Int → List Int × Nat × Int
  | 0, s, at_, t => (t, at_, 0)
  | k + 1, s, at_, t =>
    if at_ < s.length then
      if (standP (s.drop at_)).2 = true then decG k s (at_ + (standP (s.drop at_)).1) (t ++ [runeP (s.drop at_)])
      else ([], at_, if truncP (s.drop at_) = true then 4 else 3)
    else (t, s.length, 0)
def decP (s : List Int) : List Int × Nat × Int := decG (s.length + 1) s 0 []
def losG : Nat → List Int → Nat → List Int → List Int
  | 0, s, at_, t => t
  | k + 1, s, at_, t =>
    if at_ < s.length then losG k s (at_ + (standP (s.drop at_)).1) (t ++ [if (standP (s.drop at_)).2 = true then runeP (s.drop at_) else 65533])
    else t
def losP (s : List Int) : List Int := losG (s.length + 1) s 0 []
/-! ### units -/
def highP (c : Int) : Prop := 55296 ≤ c ∧ c ≤ 56319
def lowP (c : Int) : Prop := 56320 ≤ c ∧ c ≤ 57343
instance (c : Int) : Decidable (highP c) := by unfold highP; exact inferInstance
instance (c : Int) : Decidable (lowP c) := by unfold lowP; exact inferInstance
/-- the rune that n units a b .. begin with, and of how many units; 0: none -/
def charN (n : Nat) (a b : Int) : Int × Nat :=
  if ¬ highP a ∧ ¬ lowP a then (a, 1) else if lowP a ∨ n = 1 ∨ ¬ lowP b then (0, 0) else (65536 + (a - 55296) * 1024 + (b - 56320), 2)
def charP (u : List Int) : Int × Nat := charN u.length (u.getD 0 0) (u.getD 1 0)
def fromG : Nat → List Int → Nat → List Int → List Int × Nat × Int
  | 0, u, at_, t => (t, at_, 0)
  | k + 1, u, at_, t =>
    if at_ < u.length then
      if (charP (u.drop at_)).2 = 0 then ([], at_, if (u.drop at_).length = 1 ∧ highP ((u.drop at_).getD 0 0) then 4 else 3)
      else fromG k u (at_ + (charP (u.drop at_)).2) (t ++ [(charP (u.drop at_)).1])
    else (t, u.length, 0)
def fromP (u : List Int) : List Int × Nat × Int := fromG (u.length + 1) u 0 []
def unitsZ (r : Int) : List Int := if r < 65536 then [r] else [55296 + (r - 65536) / 1024, 56320 + (r - 65536) % 1024]
/-! ### texts -/
def allP (t : List Int) : Bool := t.all Lib.validRune
def encZ (t : List Int) : List Int := t.flatMap Lib.encodeRuneZ
def uniZ (t : List Int) : List Int := t.flatMap unitsZ
def codeP (t : List Int) : Int := if allP t = true then 0 else 13
def encP (t : List Int) : List Int := if allP t = true then encZ t else []
def uniP (t : List Int) : List Int := if allP t = true then uniZ t else []
def lenP (r : Int) : Int := (Lib.encodeRuneZ r).length
def sumP (t : List Int) : Int := (t.map lenP).sum
def byteP (t : List Int) (a : Int) : Int := if allP t = false ∨ a < 0 ∨ (t.length : Int) < a then -1 else sumP (t.take a.toNat)
/-- the first place i from k on whose first i + 1 runes have more than b bytes -/
def plaG : List Int → Nat → Int → Int → Int
  | [], k, n, b => if b = n then k else -1
  | r :: t, k, n, b => if b < n + lenP r then k else plaG t (k + 1) (n + lenP r) b
def plaP (t : List Int) (b : Int) : Int := if allP t = false ∨ b < 0 then -1 else plaG t 0 0 b
theorem allP_cons (r : Int) (t : List Int) : allP (r :: t) = (Lib.validRune r && allP t) := rfl
theorem lenP_range (r : Int) : 1 ≤ lenP r ∧ lenP r ≤ 4 := by unfold lenP Lib.encodeRuneZ; (repeat' split) <;> simp
theorem runeLen_eq (r : Int) (h : Lib.validRune r = true) : Lib.runeLen r = lenP r := by
  unfold Lib.validRune at h
  have h := of_decide_eq_true h
  unfold Lib.runeLen lenP Lib.encodeRuneZ
  repeat' split
  all_goals first | rfl | (exfalso; omega)
theorem sumP_range (t : List Int) : (t.length : Int) ≤ sumP t ∧ sumP t ≤ 4 * t.length := by
  induction t with
  | nil => simp [sumP]
  | cons r t ih => have := lenP_range r; simp only [sumP, List.map_cons, List.sum_cons, List.length_cons] at *; omega
theorem encZ_cons (r : Int) (t : List Int) : encZ (r :: t) = Lib.encodeRuneZ r ++ encZ t := by simp [encZ]
theorem encZ_len (t : List Int) : (encZ t).length ≤ 4 * t.length := by
  induction t with
  | nil => simp [encZ]
  | cons r t ih => have := lenP_range r; rw [encZ_cons, List.length_append, List.length_cons]; unfold lenP at this; omega
theorem uniZ_cons (r : Int) (t : List Int) : uniZ (r :: t) = unitsZ r ++ uniZ t := by simp [uniZ]
theorem unitsZ_len (r : Int) : 1 ≤ (unitsZ r).length ∧ (unitsZ r).length ≤ 2 := by unfold unitsZ; split <;> simp
theorem uniZ_len (t : List Int) : (uniZ t).length ≤ 2 * t.length := by
  induction t with
  | nil => simp [uniZ]
  | cons r t ih => have := unitsZ_len r; rw [uniZ_cons, List.length_append, List.length_cons]; omega
end Go.Proofs.Ytekjejbcdnghjaa

/-
  UTF-8, the document's: whether a rune, a text is right; the bytes of a rune; Encode. No condition but that the text has at most a million runes.
-/
set_option linter.unusedVariables false
set_option linter.unusedSimpArgs false
namespace Go.Proofs.Ytekjejbcdnghjaa
open Go.ChangeShapes Go.WideShapes Go.ChangeAt Go.RowKit
theorem ByteZ.get {s : List Int} (h : ByteZ s) (j : Nat) : 0 ≤ s.getD j 0 ∧ s.getD j 0 ≤ 255 := by
  rw [List.getD_eq_getElem?_getD]
  by_cases hj : j < s.length
  · rw [List.getElem?_eq_getElem hj]; exact h _ (List.getElem_mem hj)
  · rw [List.getElem?_eq_none (by omega)]; simp
theorem ByteZ.drop {s : List Int} (h : ByteZ s) (k : Nat) : ByteZ (s.drop k) := fun z hz => h z (List.mem_of_mem_drop hz)
theorem ByteZ.take {s : List Int} (h : ByteZ s) (k : Nat) : ByteZ (s.take k) := fun z hz => h z (List.mem_of_mem_take hz)
theorem Has.getD_cell {w : World} {B : Nat} {A : Option Addr} {q : IntKind} {s : List Int} (h : Has w B A (s.map (Value.int q))) (hne : s ≠ []) :
    ∃ b off, A = some ⟨b, off, none⟩ ∧ b < B ∧ ∀ j, j < s.length → w.cell? ⟨b, off + j, none⟩ = some (.int q (s.getD j 0)) := by
  obtain ⟨b, off, e, hb, hc⟩ := h (by simpa using hne)
  refine ⟨b, off, e, hb, fun j hj => hc j _ ?_⟩
  rw [List.getElem?_map, List.getElem?_eq_getElem hj, List.getD_eq_getElem?_getD, List.getElem?_eq_getElem hj]
  rfl
theorem allP_take (t : List Int) (k : Nat) (h : k < t.length) (hk : allP (t.take k) = true) (hv : Lib.validRune t[k] = true) : allP (t.take (k + 1)) = true := by
  rw [List.take_add_one, List.getElem?_eq_getElem h]
  unfold allP at hk ⊢
  rw [List.all_append, hk, Bool.true_and]
  simp [hv]
theorem allP_bad (t : List Int) (k : Nat) (h : k < t.length) (hv : Lib.validRune t[k] = false) : allP t = false := by
  unfold allP
  rw [List.all_eq_false]
  exact ⟨t[k], List.getElem_mem h, by simp [hv]⟩
theorem allP_at (t : List Int) (k : Nat) (h : k < t.length) (hv : allP t = true) : Lib.validRune t[k] = true := by
  unfold allP at hv
  rw [List.all_eq_true] at hv
  exact hv _ (List.getElem_mem h)
theorem encZ_take (t : List Int) (k : Nat) (h : k < t.length) : encZ (t.take (k + 1)) = encZ (t.take k) ++ Lib.encodeRuneZ t[k] := by
  rw [List.take_add_one, List.getElem?_eq_getElem h]
  unfold encZ
  rw [List.flatMap_append]
  simp
theorem encZ_take_len (t : List Int) (k : Nat) (h : t.length ≤ 1000000) : (encZ (t.take k)).length ≤ 4000000 := by
  have := encZ_len (t.take k)
  rw [List.length_take] at this
  omega
theorem valid_range {r : Int} (h : Lib.validRune r = true) : 0 ≤ r ∧ r ≤ 1114111 := by
  have h := of_decide_eq_true h
  omega
theorem infoU8 : (Try.prog.info? 5).map (fun i => (i.zero, i.size, i.bytes)) = some (some (.int .u8 0), 1, 1) := by kernel_rfl
theorem infoI32 : (Try.prog.info? 21).map (fun i => (i.zero, i.size, i.bytes)) = some (some (.int .i32 0), 1, 4) := by kernel_rfl
end Go.Proofs.Ytekjejbcdnghjaa

/-
  UTF-8, the document's: Stands and rune1, at any bytes. No condition.
-/
set_option linter.unusedVariables false
set_option linter.unusedSimpArgs false
namespace Go.Proofs.Ytekjejbcdnghjaa
open Go.ChangeShapes Go.WideShapes Go.ChangeAt Go.RowKit
def goodAt (a : Int) (j : Nat) (c : Int) : Prop := (j = 1 → secP a c) ∧ okP c
theorem sec_ok (a c : Int) (h : secP a c) : okP c := by
  unfold secP loP hiP at h
  unfold okP
  (repeat' split at h) <;> omega
theorem getD_drop (s : List Int) (k j : Nat) : (s.drop k).getD j 0 = s.getD (k + j) 0 := by simp [List.getD_eq_getElem?_getD]
theorem stand_end_n (n k : Nat) (a b c d : Int) (h1 : 1 ≤ k) (hm : k ≤ n) (hl : (k : Int) ≤ longP a) (g1 : 1 < k → secP a b) (g2 : 2 < k → okP c) (g3 : 3 < k → okP d) (he : (k : Int) = longP a ∨ k = n) :
    standN n a b c d = (k, decide ((k : Int) = longP a)) := by
  unfold standN
  obtain ⟨L, hL⟩ : ∃ L, longP a = L := ⟨_, rfl⟩
  have hc := longP_cases a
  rw [hL] at hl he hc ⊢
  have hk : k = 1 ∨ k = 2 ∨ k = 3 ∨ k = 4 := by omega
  rcases hk with rfl | rfl | rfl | rfl
  · rcases hc with rfl | rfl | rfl | rfl | rfl
    · omega
    · simp
    all_goals
      have h2 : n < 2 := by omega
      simp [h2]
  · have s1 := g1 (by omega)
    have h2 : ¬ n < 2 := by omega
    rcases hc with rfl | rfl | rfl | rfl | rfl
    · omega
    · omega
    · simp [h2, s1]
    all_goals
      have h3 : n < 3 := by omega
      simp [h2, h3, s1]
  · have s1 := g1 (by omega)
    have s2 := g2 (by omega)
    have h2 : ¬ n < 2 := by omega
    have h3 : ¬ n < 3 := by omega
    rcases hc with rfl | rfl | rfl | rfl | rfl
    · omega
    · omega
    · omega
    · simp [h2, h3, s1, s2]
    · have h4 : n < 4 := by omega
      simp [h2, h3, h4, s1, s2]
  · have s1 := g1 (by omega)
    have s2 := g2 (by omega)
    have s3 := g3 (by omega)
    have h2 : ¬ n < 2 := by omega
    have h3 : ¬ n < 3 := by omega
    have h4 : ¬ n < 4 := by omega
    rcases hc with rfl | rfl | rfl | rfl | rfl
    · omega
    · omega
    · omega
    · omega
    · simp [h2, h3, h4, s1, s2, s3]
theorem stand_bad_n (n k : Nat) (a b c d : Int) (h1 : 1 ≤ k) (hm : k < n) (hl : (k : Int) < longP a) (g1 : 1 < k → secP a b) (g2 : 2 < k → okP c) (b1 : k = 1 → ¬ secP a b) (b2 : k = 2 → ¬ okP c) (b3 : k = 3 → ¬ okP d) :
    standN n a b c d = (k, false) := by
  unfold standN
  obtain ⟨L, hL⟩ : ∃ L, longP a = L := ⟨_, rfl⟩
  have hc := longP_cases a
  rw [hL] at hl hc ⊢
  have hk : k = 1 ∨ k = 2 ∨ k = 3 := by omega
  rcases hk with rfl | rfl | rfl
  · have s1 := b1 rfl
    rcases hc with rfl | rfl | rfl | rfl | rfl <;> first | (exfalso; omega) | simp [s1]
  · have s1 := g1 (by omega)
    have s2 := b2 rfl
    have h2 : ¬ n < 2 := by omega
    rcases hc with rfl | rfl | rfl | rfl | rfl <;> first | (exfalso; omega) | simp [s1, s2, h2]
  · have s1 := g1 (by omega)
    have s2 := g2 (by omega)
    have s3 := b3 rfl
    have h2 : ¬ n < 2 := by omega
    have h3 : ¬ n < 3 := by omega
    rcases hc with rfl | rfl | rfl | rfl | rfl <;> first | (exfalso; omega) | simp [s1, s2, s3, h2, h3]
theorem stand_end (u : List Int) (k : Nat) (h1 : 1 ≤ k) (hm : k ≤ u.length) (hl : (k : Int) ≤ longP (u.getD 0 0)) (hg : ∀ j, 1 ≤ j → j < k → goodAt (u.getD 0 0) j (u.getD j 0)) (he : (k : Int) = longP (u.getD 0 0) ∨ k = u.length) :
    standP u = (k, decide ((k : Int) = longP (u.getD 0 0))) :=
  stand_end_n u.length k _ _ _ _ h1 hm hl (fun h => (hg 1 (by omega) h).1 rfl) (fun h => (hg 2 (by omega) h).2) (fun h => (hg 3 (by omega) h).2) he
theorem stand_bad (u : List Int) (k : Nat) (h1 : 1 ≤ k) (hm : k < u.length) (hl : (k : Int) < longP (u.getD 0 0)) (hg : ∀ j, 1 ≤ j → j < k → goodAt (u.getD 0 0) j (u.getD j 0)) (hb : ¬ goodAt (u.getD 0 0) k (u.getD k 0)) :
    standP u = (k, false) :=
  stand_bad_n u.length k _ _ _ _ h1 hm hl (fun h => (hg 1 (by omega) h).1 rfl) (fun h => (hg 2 (by omega) h).2)
    (fun e h => hb (by subst e; exact ⟨fun _ => h, sec_ok _ _ h⟩)) (fun e h => hb (by subst e; exact ⟨fun h => by omega, h⟩)) (fun e h => hb (by subst e; exact ⟨fun h => by omega, h⟩))
theorem stand_none (u : List Int) (h : longP (u.getD 0 0) = 0) : standP u = (1, false) := by
  unfold standP standN
  rw [if_pos h]
/-- what a form is, case by case -/
theorem stand_cases (n : Nat) (a b c d : Int) (h : (standN n a b c d).2 = true) (h0 : 0 ≤ a) (h1 : a ≤ 255) :
    ((standN n a b c d).1 = 1 ∧ a < 128) ∨ ((standN n a b c d).1 = 2 ∧ 2 ≤ n ∧ 194 ≤ a ∧ a < 224 ∧ 128 ≤ b ∧ b ≤ 191) ∨
    ((standN n a b c d).1 = 3 ∧ 3 ≤ n ∧ 224 ≤ a ∧ a < 240 ∧ loP a ≤ b ∧ b ≤ hiP a ∧ 128 ≤ c ∧ c ≤ 191) ∨
    ((standN n a b c d).1 = 4 ∧ 4 ≤ n ∧ 240 ≤ a ∧ a < 245 ∧ loP a ≤ b ∧ b ≤ hiP a ∧ 128 ≤ c ∧ c ≤ 191 ∧ 128 ≤ d ∧ d ≤ 191) := by
  have hl := stand_ok n a b c d h
  unfold standN at h ⊢
  have hc := longP_cases a
  have hr : (longP a = 1 → a < 128) ∧ (longP a = 2 → 194 ≤ a ∧ a < 224) ∧ (longP a = 3 → 224 ≤ a ∧ a < 240) ∧ (longP a = 4 → 240 ≤ a ∧ a < 245) := by
    unfold longP
    repeat' split
    all_goals omega
  obtain ⟨L, hL⟩ : ∃ L, longP a = L := ⟨_, rfl⟩
  rw [hL] at h hr hc hl ⊢
  rcases hc with rfl | rfl | rfl | rfl | rfl
  · simp at h
  · left; simp; omega
  · right; left
    by_cases q : n < 2 ∨ ¬ secP a b
    · simp [q] at h
    · have q1 : secP a b := by have := not_or.1 q; simpa using this.2
      have q2 : ¬ n < 2 := fun h => q (Or.inl h)
      have q3 := sec_ok a b q1
      unfold okP at q3
      simp [q1, q2]; omega
  · right; right; left
    by_cases q : n < 2 ∨ ¬ secP a b
    · simp [q] at h
    · have q1 : secP a b := by have := not_or.1 q; simpa using this.2
      have q2 : ¬ n < 2 := fun h => q (Or.inl h)
      by_cases p : n < 3 ∨ ¬ okP c
      · simp [q1, q2, p] at h
      · have p1 : okP c := by have := not_or.1 p; simpa using this.2
        have p2 : ¬ n < 3 := fun h => p (Or.inl h)
        simp [q1, q2, p1, p2]
        unfold secP at q1
        unfold okP at p1
        omega
  · right; right; right
    by_cases q : n < 2 ∨ ¬ secP a b
    · simp [q] at h
    · have q1 : secP a b := by have := not_or.1 q; simpa using this.2
      have q2 : ¬ n < 2 := fun h => q (Or.inl h)
      by_cases p : n < 3 ∨ ¬ okP c
      · simp [q1, q2, p] at h
      · have p1 : okP c := by have := not_or.1 p; simpa using this.2
        have p2 : ¬ n < 3 := fun h => p (Or.inl h)
        by_cases r : n < 4 ∨ ¬ okP d
        · simp [q1, q2, p1, p2, r] at h
        · have r1 : okP d := by have := not_or.1 r; simpa using this.2
          have r2 : ¬ n < 4 := fun h => r (Or.inl h)
          simp [q1, q2, p1, p2, r1, r2]
          unfold secP at q1
          unfold okP at p1 r1
          omega
theorem rune_back (n : Nat) (a b c d : Int) (h : (standN n a b c d).2 = true) (h0 : 0 ≤ a) (h1 : a ≤ 255) :
    Lib.validRune (runeN (standN n a b c d).1 a b c d) = true ∧ Lib.encodeRuneZ (runeN (standN n a b c d).1 a b c d) = [a, b, c, d].take (standN n a b c d).1 := by
  rcases stand_cases n a b c d h h0 h1 with ⟨e, q⟩ | ⟨e, q⟩ | ⟨e, q⟩ | ⟨e, q⟩
  · rw [e]
    simp only [runeN, if_true]
    refine ⟨decide_eq_true (by omega), ?_⟩
    rw [Lib.encodeRuneZ_one h0 (by omega)]
    rfl
  · rw [e]
    simp only [runeN, if_true, if_false, Nat.reduceEqDiff]
    refine ⟨decide_eq_true (by omega), ?_⟩
    rw [Lib.encodeRuneZ_two (by omega) (by omega)]
    simp only [List.take_succ_cons, List.take_zero, List.cons.injEq, and_true]
    omega
  · rw [e]
    simp only [runeN, if_true, if_false, Nat.reduceEqDiff]
    have hx : (2048 ≤ ((a - 224) * 64 + b - 128) * 64 + c - 128 ∧ ((a - 224) * 64 + b - 128) * 64 + c - 128 < 55296) ∨ (57343 < ((a - 224) * 64 + b - 128) * 64 + c - 128 ∧ ((a - 224) * 64 + b - 128) * 64 + c - 128 ≤ 65535) := by
      obtain ⟨_, q1, q2, q3, q4, q5, q6⟩ := q
      unfold loP at q3
      unfold hiP at q4
      (repeat' split at q3) <;> (repeat' split at q4) <;> omega
    refine ⟨decide_eq_true (by omega), ?_⟩
    rw [Lib.encodeRuneZ_three hx]
    have hb : 128 ≤ b ∧ b ≤ 191 := by
      obtain ⟨_, q1, q2, q3, q4, q5, q6⟩ := q
      unfold loP at q3
      unfold hiP at q4
      (repeat' split at q3) <;> (repeat' split at q4) <;> omega
    simp only [List.take_succ_cons, List.take_zero, List.cons.injEq, and_true]
    omega
  · rw [e]
    simp only [runeN, if_true, if_false, Nat.reduceEqDiff]
    have hx : 65536 ≤ (((a - 240) * 64 + b - 128) * 64 + c - 128) * 64 + d - 128 ∧ (((a - 240) * 64 + b - 128) * 64 + c - 128) * 64 + d - 128 ≤ 1114111 := by
      obtain ⟨_, q1, q2, q3, q4, q5, q6⟩ := q
      unfold loP at q3
      unfold hiP at q4
      (repeat' split at q3) <;> (repeat' split at q4) <;> omega
    refine ⟨decide_eq_true (by omega), ?_⟩
    rw [Lib.encodeRuneZ_four hx.1 hx.2]
    have hb : 128 ≤ b ∧ b ≤ 191 := by
      obtain ⟨_, q1, q2, q3, q4, q5, q6⟩ := q
      unfold loP at q3
      unfold hiP at q4
      (repeat' split at q3) <;> (repeat' split at q4) <;> omega
    simp only [List.take_succ_cons, List.take_zero, List.cons.injEq, and_true]
    omega
/-- a rune, byte by byte -/
def rkP (base : Int) (s : List Int) : Nat → Int
  | 0 => s.getD 0 0 - base
  | j + 1 => rkP base s j * 64 + s.getD (j + 1) 0 - 128
theorem rkP_range (base : Int) (s : List Int) (hb : ByteZ s) (h0 : 0 ≤ base) (h1 : base ≤ 240) (j : Nat) (hj : j ≤ 3) : -200000000 ≤ rkP base s j ∧ rkP base s j ≤ 200000000 := by
  have g0 := hb.get 0
  have g1 := hb.get 1
  have g2 := hb.get 2
  have g3 := hb.get 3
  have hc : j = 0 ∨ j = 1 ∨ j = 2 ∨ j = 3 := by omega
  rcases hc with rfl | rfl | rfl | rfl <;> simp only [rkP, Nat.reduceAdd] <;> omega
theorem getD_take (s : List Int) (k j : Nat) (h : j < k) : (s.take k).getD j 0 = s.getD j 0 := by
  simp [List.getD_eq_getElem?_getD, List.getElem?_take, h]
theorem Has.takeI {w : World} {B : Nat} {A : Option Addr} {q : IntKind} {s : List Int} (h : Has w B A (s.map (Value.int q))) (k : Nat) : Has w B A ((s.take k).map (Value.int q)) := fun hne => by
  have hne' : s.map (Value.int q) ≠ [] := by intro e; apply hne; simp at e; simp [e]
  obtain ⟨b, off, e, hl, hc⟩ := h hne'
  refine ⟨b, off, e, hl, fun j u hu => hc j u ?_⟩
  rw [List.map_take, List.getElem?_take] at hu
  split at hu
  · exact hu
  · cases hu
theorem Has.dropI {w : World} {B : Nat} {b off : Nat} {q : IntKind} {s : List Int} (h : Has w B (some ⟨b, off, none⟩) (s.map (Value.int q))) (k : Nat) : Has w B (some ⟨b, off + k, none⟩) ((s.drop k).map (Value.int q)) := fun hne => by
  have hne' : s.map (Value.int q) ≠ [] := by intro e; apply hne; simp at e; simp [e]
  obtain ⟨b', off', e, hl, hc⟩ := h hne'
  injection e with e; injection e with e1 e2; subst e1; subst e2
  refine ⟨b, off + k, rfl, hl, fun j u hu => ?_⟩
  rw [Nat.add_assoc]
  apply hc
  rw [List.map_drop, List.getElem?_drop] at hu
  exact hu
end Go.Proofs.Ytekjejbcdnghjaa

/-
  UTF-8, the document's: Decode, at any bytes. No condition but that there are at most a million.
-/
set_option linter.unusedVariables false
set_option linter.unusedSimpArgs false
namespace Go.Proofs.Ytekjejbcdnghjaa
open Go.ChangeShapes Go.WideShapes Go.ChangeAt Go.RowKit
theorem decG_ok (k : Nat) (s : List Int) (p : Nat) (t : List Int) (hp : p < s.length) (h : (standP (s.drop p)).2 = true) : decG (k + 1) s p t = decG k s (p + (standP (s.drop p)).1) (t ++ [runeP (s.drop p)]) := by
  rw [decG, if_pos hp, if_pos h]
theorem decG_bad (k : Nat) (s : List Int) (p : Nat) (t : List Int) (hp : p < s.length) (h : (standP (s.drop p)).2 = false) : decG (k + 1) s p t = ([], p, if truncP (s.drop p) = true then 4 else 3) := by
  rw [decG, if_pos hp, if_neg (by rw [h]; simp)]
theorem decG_end (k : Nat) (s : List Int) (t : List Int) : decG (k + 1) s s.length t = (t, s.length, 0) := by
  rw [decG, if_neg (by omega)]
theorem rest_facts (s : List Int) (p : Nat) (hp : p < s.length) : s.drop p ≠ [] ∧ (s.drop p).length = s.length - p ∧ p + (standP (s.drop p)).1 ≤ s.length := by
  have h1 : (s.drop p).length = s.length - p := List.length_drop
  have h2 : s.drop p ≠ [] := by intro e; rw [e] at h1; simp at h1; omega
  have h3 := standP_le (s.drop p) h2
  exact ⟨h2, h1, by omega⟩
theorem bad_trunc_n (n : Nat) (a b c d : Int) (h : (standN n a b c d).2 = false) (hn : 1 ≤ n) : truncN n a b c = decide ((standN n a b c d).1 = n ∧ ((standN n a b c d).1 : Int) < longP a) := by
  unfold truncN
  apply decide_eq_decide.2
  unfold standN at h ⊢
  have hc := longP_cases a
  obtain ⟨L, hL⟩ : ∃ L, longP a = L := ⟨_, rfl⟩
  rw [hL] at h hc ⊢
  by_cases s2 : secP a b
  · by_cases s3 : okP c
    · by_cases s4 : okP d
      · rcases hc with rfl | rfl | rfl | rfl | rfl
        · simp; intro h; exfalso; omega
        · simp at h
        all_goals
          simp [s2, s3, s4] at h ⊢
          (repeat' split at h) <;> simp_all <;> (repeat' split) <;> omega
      · rcases hc with rfl | rfl | rfl | rfl | rfl
        · simp; intro h; exfalso; omega
        · simp at h
        all_goals
          simp [s2, s3, s4] at h ⊢
          (repeat' split at h) <;> simp_all <;> (repeat' split) <;> omega
    · rcases hc with rfl | rfl | rfl | rfl | rfl
      · simp; intro h; exfalso; omega
      · simp at h
      all_goals
        simp [s2, s3] at h ⊢
        (repeat' split at h) <;> simp_all <;> (repeat' split) <;> omega
  · rcases hc with rfl | rfl | rfl | rfl | rfl
    · simp; intro h; exfalso; omega
    · simp at h
    all_goals
      simp [s2] at h ⊢
      omega
theorem bad_trunc (s : List Int) (p : Nat) (hp : p < s.length) (h : (standP (s.drop p)).2 = false) : truncP (s.drop p) = decide (p + (standP (s.drop p)).1 = s.length ∧ ((standP (s.drop p)).1 : Int) < longP (s.getD p 0)) := by
  have hl : (s.drop p).length = s.length - p := List.length_drop
  have := bad_trunc_n (s.drop p).length _ _ _ _ h (by omega)
  have e0 : (s.drop p).getD 0 0 = s.getD p 0 := by rw [getD_drop]; rfl
  unfold truncP
  rw [this]
  apply decide_eq_decide.2
  rw [e0, hl]
  have e1 : (standN (s.length - p) (s.getD p 0) ((s.drop p).getD 1 0) ((s.drop p).getD 2 0) ((s.drop p).getD 3 0)).1 = (standP (s.drop p)).1 := by unfold standP; rw [e0, hl]
  rw [e1]
  omega
theorem rune_take (u : List Int) (hz : ByteZ u) (h : (standP u).2 = true) :
    runeN (standP u).1 ((u.take (standP u).1).getD 0 0) ((u.take (standP u).1).getD 1 0) ((u.take (standP u).1).getD 2 0) ((u.take (standP u).1).getD 3 0) = runeP u ∧ 0 ≤ runeP u ∧ runeP u ≤ 1114111 := by
  have hp := standP_pos u
  have hb := rune_back _ _ _ _ _ h (hz.get 0).1 (hz.get 0).2
  have hv := valid_range hb.1
  refine ⟨?_, hv⟩
  unfold runeP
  obtain ⟨N, hN⟩ : ∃ N, (standP u).1 = N := ⟨_, rfl⟩
  rw [hN] at hp ⊢
  have hc : N = 1 ∨ N = 2 ∨ N = 3 ∨ N = 4 := by omega
  rcases hc with rfl | rfl | rfl | rfl
  · simp only [runeN, if_true]; rw [getD_take u 1 0 (by omega)]
  · simp only [runeN, if_true, if_false, Nat.reduceEqDiff]; rw [getD_take u 2 0 (by omega), getD_take u 2 1 (by omega)]
  · simp only [runeN, if_true, if_false, Nat.reduceEqDiff]; rw [getD_take u 3 0 (by omega), getD_take u 3 1 (by omega), getD_take u 3 2 (by omega)]
  · simp only [runeN, if_true, if_false, Nat.reduceEqDiff]; rw [getD_take u 4 0 (by omega), getD_take u 4 1 (by omega), getD_take u 4 2 (by omega), getD_take u 4 3 (by omega)]
end Go.Proofs.Ytekjejbcdnghjaa

/-
  UTF-8, the document's: how much is read, and that reading and writing undo one another. No program in this text. No condition.
-/
set_option linter.unusedVariables false
set_option linter.unusedSimpArgs false
namespace Go.Proofs.Ytekjejbcdnghjaa
open Go.ChangeShapes Go.WideShapes Go.ChangeAt Go.RowKit
theorem losG_step (k : Nat) (s : List Int) (p : Nat) (t : List Int) (hp : p < s.length) : losG (k + 1) s p t = losG k s (p + (standP (s.drop p)).1) (t ++ [if (standP (s.drop p)).2 = true then runeP (s.drop p) else 65533]) := by
  rw [losG, if_pos hp]
theorem losG_end (k : Nat) (s : List Int) (t : List Int) : losG (k + 1) s s.length t = t := by
  rw [losG, if_neg (by omega)]
theorem decG_len (s : List Int) : ∀ (k p : Nat) (t : List Int), p ≤ s.length → t.length ≤ p → (decG k s p t).1.length ≤ s.length
  | 0, p, t, hp, ht => by rw [decG]; exact Nat.le_trans ht hp
  | k + 1, p, t, hp, ht => by
    by_cases hlt : p < s.length
    · obtain ⟨h1, h2, h3⟩ := rest_facts s p hlt
      have hpos := standP_pos (s.drop p)
      by_cases q : (standP (s.drop p)).2 = true
      · rw [decG_ok k s p t hlt q]
        exact decG_len s k _ _ h3 (by simp; omega)
      · rw [decG_bad k s p t hlt (by simpa using q)]
        simp
    · rw [decG, if_neg hlt]
      exact Nat.le_trans ht hp
theorem decP_len (s : List Int) : (decP s).1.length ≤ s.length := decG_len s _ 0 [] (by omega) (by simp)
theorem losG_facts (s : List Int) (hz : ByteZ s) : ∀ (k p : Nat) (t : List Int), p ≤ s.length → t.length ≤ p → allP t = true → (losG k s p t).length ≤ s.length ∧ allP (losG k s p t) = true
  | 0, p, t, hp, ht, ha => by rw [losG]; exact ⟨Nat.le_trans ht hp, ha⟩
  | k + 1, p, t, hp, ht, ha => by
    by_cases hlt : p < s.length
    · obtain ⟨h1, h2, h3⟩ := rest_facts s p hlt
      have hpos := standP_pos (s.drop p)
      rw [losG_step k s p t hlt]
      refine losG_facts s hz k _ _ h3 (by simp; omega) ?_
      unfold allP at *
      rw [List.all_append, ha]
      split
      · rename_i q
        have := (rune_back _ _ _ _ _ q ((hz.drop p).get 0).1 ((hz.drop p).get 0).2).1
        simpa [runeP, standP] using this
      · decide
    · rw [losG, if_neg hlt]
      exact ⟨Nat.le_trans ht hp, ha⟩
theorem take_four (u : List Int) (n : Nat) (h4 : n ≤ 4) (hn : n ≤ u.length) : [u.getD 0 0, u.getD 1 0, u.getD 2 0, u.getD 3 0].take n = u.take n := by
  match u, n with
  | _, 0 => rfl
  | a :: l, 1 => rfl
  | a :: b :: l, 2 => rfl
  | a :: b :: c :: l, 3 => rfl
  | a :: b :: c :: d :: l, 4 => rfl
  | [], _ + 1 => simp at hn
  | [a], _ + 2 => simp at hn
  | [a, b], _ + 3 => simp at hn
  | [a, b, c], _ + 4 => simp at hn
  | _, n + 5 => omega
theorem encZ_append (a b : List Int) : encZ (a ++ b) = encZ a ++ encZ b := by unfold encZ; exact List.flatMap_append
/-- bytes that are read without a fault are read with losses as they are, and are written as they stood -/
theorem dec_back (s : List Int) (hz : ByteZ s) : ∀ (k p : Nat) (t : List Int), p ≤ s.length → s.length < k + p → encZ t = s.take p → (decG k s p t).2.2 = 0 → (decG k s p t).1 = losG k s p t ∧ encZ (decG k s p t).1 = s
  | 0, p, t, hp, hk, ht, h => by omega
  | k + 1, p, t, hp, hk, ht, h => by
    by_cases hlt : p < s.length
    · obtain ⟨h1, h2, h3⟩ := rest_facts s p hlt
      have hpos := standP_pos (s.drop p)
      by_cases q : (standP (s.drop p)).2 = true
      · rw [decG_ok k s p t hlt q] at h ⊢
        rw [losG_step k s p t hlt, if_pos q]
        refine dec_back s hz k _ _ h3 (by omega) ?_ h
        have := (rune_back _ _ _ _ _ q ((hz.drop p).get 0).1 ((hz.drop p).get 0).2).2
        have hle := standP_le (s.drop p) h1
        rw [take_four (s.drop p) _ (standN_pos _ _ _ _ _).2 hle] at this
        rw [encZ_append, ht, List.take_add]
        have e : encZ [runeP (s.drop p)] = Lib.encodeRuneZ (runeP (s.drop p)) := by simp [encZ]
        rw [e]
        exact congrArg _ this
      · rw [decG_bad k s p t hlt (by simpa using q)] at h
        exfalso
        dsimp only at h
        split at h <;> omega
    · obtain rfl : p = s.length := by omega
      rw [decG_end, losG_end]
      exact ⟨rfl, by rw [ht, List.take_length]⟩
theorem decP_back (s : List Int) (hz : ByteZ s) (h : (decP s).2.2 = 0) : (decP s).1 = losP s ∧ encZ (decP s).1 = s :=
  dec_back s hz _ 0 [] (by omega) (by omega) (by simp [encZ]) h
theorem dec_empty (s : List Int) : ∀ (k p : Nat) (t : List Int), (decG k s p t).2.2 ≠ 0 → (decG k s p t).1 = []
  | 0, p, t, h => by rw [decG] at h; exact absurd rfl h
  | k + 1, p, t, h => by
    by_cases hlt : p < s.length
    · by_cases q : (standP (s.drop p)).2 = true
      · rw [decG_ok k s p t hlt q] at h ⊢
        exact dec_empty s k _ _ h
      · rw [decG_bad k s p t hlt (by simpa using q)]
    · rw [decG, if_neg hlt] at h
      exact absurd rfl h
/-! ### texts, written and read -/
theorem stand_enc (r : Int) (l : List Int) (hv : Lib.validRune r = true) : standP (Lib.encodeRuneZ r ++ l) = ((Lib.encodeRuneZ r).length, true) ∧ runeP (Lib.encodeRuneZ r ++ l) = r := by
  have hv := of_decide_eq_true hv
  by_cases k1 : r < 128
  · rw [Lib.encodeRuneZ_one (by omega) (by omega)]
    have e : standP ([r] ++ l) = (1, true) := by
      show standN (l.length + 1) r _ _ _ = _
      unfold standN
      have : longP r = 1 := by unfold longP; rw [if_pos k1]
      rw [this]; rfl
    refine ⟨e, ?_⟩
    unfold runeP
    rw [e]
    rfl
  by_cases k2 : r < 2048
  · rw [Lib.encodeRuneZ_two (by omega) (by omega)]
    have e : standP ([192 + r / 64, 128 + r % 64] ++ l) = (2, true) := by
      show standN (l.length + 2) (192 + r / 64) (128 + r % 64) _ _ = _
      have hl : longP (192 + r / 64) = 2 := by unfold longP; rw [if_neg (by omega), if_neg (by omega), if_pos (by omega)]
      exact (stand_end_n _ 2 _ _ _ _ (by omega) (by omega) (by omega) (fun _ => by unfold secP loP hiP; (repeat' split) <;> omega) (fun h => by omega) (fun h => by omega) (Or.inl (by omega))).trans (by rw [hl]; rfl)
    refine ⟨e, ?_⟩
    unfold runeP
    rw [e]
    show (192 + r / 64 - 192) * 64 + (128 + r % 64) - 128 = r
    omega
  by_cases k3 : r < 65536
  · rw [Lib.encodeRuneZ_three (by omega)]
    have e : standP ([224 + r / 4096, 128 + r / 64 % 64, 128 + r % 64] ++ l) = (3, true) := by
      show standN (l.length + 3) (224 + r / 4096) (128 + r / 64 % 64) (128 + r % 64) _ = _
      have hl : longP (224 + r / 4096) = 3 := by unfold longP; rw [if_neg (by omega), if_neg (by omega), if_neg (by omega), if_pos (by omega)]
      exact (stand_end_n _ 3 _ _ _ _ (by omega) (by omega) (by omega) (fun _ => by unfold secP loP hiP; (repeat' split) <;> omega) (fun h => by unfold okP; omega) (fun h => by omega) (Or.inl (by omega))).trans (by rw [hl]; rfl)
    refine ⟨e, ?_⟩
    unfold runeP
    rw [e]
    show ((224 + r / 4096 - 224) * 64 + (128 + r / 64 % 64) - 128) * 64 + (128 + r % 64) - 128 = r
    omega
  · rw [Lib.encodeRuneZ_four (by omega) (by omega)]
    have e : standP ([240 + r / 262144, 128 + r / 4096 % 64, 128 + r / 64 % 64, 128 + r % 64] ++ l) = (4, true) := by
      show standN (l.length + 4) (240 + r / 262144) (128 + r / 4096 % 64) (128 + r / 64 % 64) (128 + r % 64) = _
      have hl : longP (240 + r / 262144) = 4 := by unfold longP; rw [if_neg (by omega), if_neg (by omega), if_neg (by omega), if_neg (by omega)]
      exact (stand_end_n _ 4 _ _ _ _ (by omega) (by omega) (by omega) (fun _ => by unfold secP loP hiP; (repeat' split) <;> omega) (fun h => by unfold okP; omega) (fun h => by unfold okP; omega) (Or.inl (by omega))).trans (by rw [hl]; rfl)
    refine ⟨e, ?_⟩
    unfold runeP
    rw [e]
    show (((240 + r / 262144 - 240) * 64 + (128 + r / 4096 % 64) - 128) * 64 + (128 + r / 64 % 64) - 128) * 64 + (128 + r % 64) - 128 = r
    omega
theorem dec_enc : ∀ (t : List Int) (pre acc : List Int) (k : Nat), allP t = true → (encZ t).length < k → decG k (pre ++ encZ t) pre.length acc = (acc ++ t, (pre ++ encZ t).length, 0)
  | [], pre, acc, k, ha, hk => by
    obtain ⟨k, rfl⟩ : ∃ k', k = k' + 1 := ⟨k - 1, by omega⟩
    have e : pre ++ encZ [] = pre := by simp [encZ]
    rw [e, decG_end]
    simp
  | r :: t, pre, acc, k, ha, hk => by
    obtain ⟨k, rfl⟩ : ∃ k', k = k' + 1 := ⟨k - 1, by omega⟩
    rw [allP_cons, Bool.and_eq_true] at ha
    have hr := lenP_range r
    unfold lenP at hr
    have hd : (pre ++ encZ (r :: t)).drop pre.length = Lib.encodeRuneZ r ++ encZ t := by rw [List.drop_left, encZ_cons]
    obtain ⟨s1, s2⟩ := stand_enc r (encZ t) ha.1
    have hlt : pre.length < (pre ++ encZ (r :: t)).length := by rw [encZ_cons]; simp; omega
    rw [decG_ok k _ _ acc hlt (by rw [hd, s1]), hd, s1, s2]
    have e : pre ++ encZ (r :: t) = (pre ++ Lib.encodeRuneZ r) ++ encZ t := by rw [encZ_cons, List.append_assoc]
    have e2 : pre.length + (Lib.encodeRuneZ r).length = (pre ++ Lib.encodeRuneZ r).length := by simp
    rw [e]
    show decG k _ (pre.length + (Lib.encodeRuneZ r).length) _ = _
    rw [e2, dec_enc t _ _ k ha.2 (by rw [encZ_cons, List.length_append] at hk; omega)]
    simp
theorem decP_enc (t : List Int) (h : allP t = true) : decP (encZ t) = (t, (encZ t).length, 0) := by
  have := dec_enc t [] [] ((encZ t).length + 1) h (by omega)
  simpa [decP] using this
end Go.Proofs.Ytekjejbcdnghjaa

/-
  The comparison of two lists of runes, the document's. No condition.
-/
set_option linter.unusedVariables false
set_option linter.unusedSimpArgs false
namespace Go.Proofs.Ytekjejbcdnghjaa
open Go.ChangeShapes Go.WideShapes Go.ChangeAt Go.RowKit
theorem take_eq (xs ys : List Int) (k : Nat) (h1 : k < xs.length) (h2 : k < ys.length) (h : xs.take k = ys.take k) (he : xs[k] = ys[k]) : xs.take (k + 1) = ys.take (k + 1) := by
  rw [List.take_add_one, List.take_add_one, List.getElem?_eq_getElem h1, List.getElem?_eq_getElem h2, h, he]
theorem ne_at (xs ys : List Int) (k : Nat) (h1 : k < xs.length) (h2 : k < ys.length) (he : xs[k] ≠ ys[k]) : decide (xs = ys) = false := by
  apply decide_eq_false
  intro h
  subst h
  exact he rfl
end Go.Proofs.Ytekjejbcdnghjaa
