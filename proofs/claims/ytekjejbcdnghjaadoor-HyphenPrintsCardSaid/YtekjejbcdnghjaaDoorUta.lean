/-
  The document's forms of texts as plain functions: bytes of a rune, the form at the start of some bytes, decoding, units. No program in this text. No condition.
-/
import Derived.Lib.Small
import Derived.Lib.RuneBytes
set_option linter.unusedVariables false
namespace Go.Proofs.YtekjejbcdnghjaaDoor

/-- how many bytes a form has that begins with c; 0: none -/
def longP (c : Int) : Int := if c < 128 then 1 else if c < 194 ∨ 244 < c then 0 else if c < 224 then 2 else if c < 240 then 3 else 4
def loP (c : Int) : Int := if c = 224 then 160 else if c = 240 then 144 else 128
def hiP (c : Int) : Int := if c = 237 then 159 else if c = 244 then 143 else 191
def secP (a b : Int) : Prop := loP a ≤ b ∧ b ≤ hiP a
def okP (c : Int) : Prop := 128 ≤ c ∧ c ≤ 191
instance (a b : Int) : Decidable (secP a b) := by unfold secP; exact inferInstance
instance (c : Int) : Decidable (okP c) := by unfold okP; exact inferInstance
/-- what stands at the start of n bytes a b c d ..: how many bytes, and whether they are a form -/
def standN (n : Nat) (a b c d : Int) : Nat × Bool :=
  if longP a = 0 then (1, false) else if longP a = 1 then (1, true)
  else if n < 2 ∨ ¬ secP a b then (1, false) else if longP a = 2 then (2, true)
  else if n < 3 ∨ ¬ okP c then (2, false) else if longP a = 3 then (3, true)
  else if n < 4 ∨ ¬ okP d then (3, false) else (4, true)
/-- whether n bytes are a form's beginning and no form -/
def truncN (n : Nat) (a b c : Int) : Bool := decide ((n : Int) < longP a ∧ (1 < n → secP a b) ∧ (2 < n → okP c))
def runeN (n : Nat) (a b c d : Int) : Int :=
  if n = 1 then a else if n = 2 then (a - 192) * 64 + b - 128 else if n = 3 then ((a - 224) * 64 + b - 128) * 64 + c - 128 else (((a - 240) * 64 + b - 128) * 64 + c - 128) * 64 + d - 128
def standP (s : List Int) : Nat × Bool := standN s.length (s.getD 0 0) (s.getD 1 0) (s.getD 2 0) (s.getD 3 0)
def truncP (s : List Int) : Bool := truncN s.length (s.getD 0 0) (s.getD 1 0) (s.getD 2 0)
def runeP (s : List Int) : Int := runeN (standP s).1 (s.getD 0 0) (s.getD 1 0) (s.getD 2 0) (s.getD 3 0)
def ByteZ (s : List Int) : Prop := ∀ z ∈ s, 0 ≤ z ∧ z ≤ 255
theorem longP_cases (a : Int) : longP a = 0 ∨ longP a = 1 ∨ longP a = 2 ∨ longP a = 3 ∨ longP a = 4 := by unfold longP; (repeat' split) <;> simp
theorem standN_pos (n : Nat) (a b c d : Int) : 1 ≤ (standN n a b c d).1 ∧ (standN n a b c d).1 ≤ 4 := by
  unfold standN
  repeat' split
  all_goals simp
theorem standN_le (n : Nat) (a b c d : Int) (hn : 1 ≤ n) : (standN n a b c d).1 ≤ n := by
  unfold standN
  repeat' split
  all_goals simp <;> omega
theorem stand_ok (n : Nat) (a b c d : Int) (h : (standN n a b c d).2 = true) : ((standN n a b c d).1 : Int) = longP a := by
  unfold standN at h ⊢
  repeat' split at h
  all_goals simp at h
  all_goals unfold longP at *
  all_goals (simp [*]; try (repeat' split) <;> omega)
/-- a rune of one byte is below 128, and no form's rune is out of place -/
theorem runeN_one (n : Nat) (a b c d : Int) (h : (standN n a b c d).2 = true) (h1 : (standN n a b c d).1 ≤ 1) : runeN (standN n a b c d).1 a b c d < 128 := by
  have hp := standN_pos n a b c d
  have e : (standN n a b c d).1 = 1 := by omega
  have hl := stand_ok n a b c d h
  rw [e] at hl
  rw [e]
  unfold longP at hl
  simp only [runeN, if_true]
  repeat' split at hl
  all_goals omega
/-- the wrong stretch, byte by byte -/
theorem trunc_next (n k : Nat) (a b c d : Int) (h : (standN n a b c d).2 = false) (hk1 : 1 ≤ k) (hk2 : k ≤ (standN n a b c d).1) (hn : k < n) :
    truncN (k + 1) a b c = decide (k + 1 ≤ (standN n a b c d).1) := by
  unfold truncN
  have hp := standN_pos n a b c d
  have hm := standN_le n a b c d (by omega)
  by_cases q1 : longP a = 0
  · have : k = 1 := by simp [standN, q1] at hk2; omega
    subst this
    simp [standN, q1]
  by_cases q2 : longP a = 1
  · simp [standN, q2] at h
  have hl : longP a = 2 ∨ longP a = 3 ∨ longP a = 4 := by have := longP_cases a; omega
  have n2 : ¬ n < 2 := by omega
  by_cases s2 : secP a b
  · rcases hl with hl | hl | hl
    · simp [standN, n2, s2, hl] at h
    · by_cases n3 : n < 3
      · have e : standN n a b c d = (2, false) := by simp [standN, n2, n3, s2, hl]
        rw [e] at hk2 ⊢
        have : k = 1 := by simp at hk2; omega
        subst this
        simp [s2, hl]
      · by_cases s3 : okP c
        · simp [standN, n2, n3, s2, s3, hl] at h
        · have e : standN n a b c d = (2, false) := by simp [standN, n2, n3, s2, s3, hl]
          rw [e] at hk2 ⊢
          simp at hk2
          obtain rfl | rfl : k = 1 ∨ k = 2 := by omega
          · simp [s2, hl]
          · simp [s2, s3, hl]
    · by_cases n3 : n < 3
      · have e : standN n a b c d = (2, false) := by simp [standN, n2, n3, s2, hl]
        rw [e] at hk2 ⊢
        have : k = 1 := by simp at hk2; omega
        subst this
        simp [s2, hl]
      · by_cases s3 : okP c
        · by_cases n4 : n < 4
          · have e : standN n a b c d = (3, false) := by simp [standN, n2, n3, n4, s2, s3, hl]
            rw [e] at hk2 ⊢
            simp at hk2
            obtain rfl | rfl : k = 1 ∨ k = 2 := by omega
            · simp [s2, s3, hl]
            · simp [s2, s3, hl]
          · by_cases s4 : okP d
            · simp [standN, n2, n3, n4, s2, s3, s4, hl] at h
            · have e : standN n a b c d = (3, false) := by simp [standN, n2, n3, n4, s2, s3, s4, hl]
              rw [e] at hk2 ⊢
              simp at hk2
              obtain rfl | rfl | rfl : k = 1 ∨ k = 2 ∨ k = 3 := by omega
              · simp [s2, s3, hl]
              · simp [s2, s3, hl]
              · simp [s2, s3, hl]
        · have e : standN n a b c d = (2, false) := by simp [standN, n2, n3, s2, s3, hl]
          rw [e] at hk2 ⊢
          simp at hk2
          obtain rfl | rfl : k = 1 ∨ k = 2 := by omega
          · simp [s2, hl]
          · simp [s2, s3, hl]
  · have e : standN n a b c d = (1, false) := by simp [standN, n2, s2, q1, q2]
    rw [e] at hk2 ⊢
    have : k = 1 := by simp at hk2; omega
    subst this
    simp [s2]
theorem standP_pos (s : List Int) : 1 ≤ (standP s).1 ∧ (standP s).1 ≤ 4 := standN_pos _ _ _ _ _
theorem standP_le (s : List Int) (h : s ≠ []) : (standP s).1 ≤ s.length := standN_le _ _ _ _ _ (by cases s with | nil => exact absurd rfl h | cons a l => simp)
/-! ### reading bytes, place by place: k: rounds that may come; at: the place; t: what has been read -/
def decG : Nat → List Int → Nat → List Int → List Int × Nat × Int
  | 0, s, at_, t => (t, at_, 0)
  | k + 1, s, at_, t =>
    if at_ < s.length then
      if (standP (s.drop at_)).2 = true then decG k s (at_ + (standP (s.drop at_)).1) (t ++ [runeP (s.drop at_)])
      else ([], at_, if truncP (s.drop at_) = true then 4 else 3)
    else (t, s.length, 0)
def decP (s : List Int) : List Int × Nat × Int := decG (s.length + 1) s 0 []
def losG : Nat → List Int → Nat → List Int → List Int
  | 0, s, at_, t => t
  | k + 1, s, at_, t =>
    if at_ < s.length then losG k s (at_ + (standP (s.drop at_)).1) (t ++ [if (standP (s.drop at_)).2 = true then runeP (s.drop at_) else 65533])
    else t
def losP (s : List Int) : List Int := losG (s.length + 1) s 0 []
/-! ### units -/
def highP (c : Int) : Prop := 55296 ≤ c ∧ c ≤ 56319
def lowP (c : Int) : Prop := 56320 ≤ c ∧ c ≤ 57343
instance (c : Int) : Decidable (highP c) := by unfold highP; exact inferInstance
instance (c : Int) : Decidable (lowP c) := by unfold lowP; exact inferInstance
/-- the rune that n units a b .. begin with, and of how many units; 0: none -/
def charN (n : Nat) (a b : Int) : Int × Nat :=
  if ¬ highP a ∧ ¬ lowP a then (a, 1) else if lowP a ∨ n = 1 ∨ ¬ lowP b then (0, 0) else (65536 + (a - 55296) * 1024 + (b - 56320), 2)
def charP (u : List Int) : Int × Nat := charN u.length (u.getD 0 0) (u.getD 1 0)
def fromG : Nat → List Int → Nat → List Int → List Int × Nat × Int
  | 0, u, at_, t => (t, at_, 0)
  | k + 1, u, at_, t =>
    if at_ < u.length then
      if (charP (u.drop at_)).2 = 0 then ([], at_, if (u.drop at_).length = 1 ∧ highP ((u.drop at_).getD 0 0) then 4 else 3)
      else fromG k u (at_ + (charP (u.drop at_)).2) (t ++ [(charP (u.drop at_)).1])
    else (t, u.length, 0)
def fromP (u : List Int) : List Int × Nat × Int := fromG (u.length + 1) u 0 []
def unitsZ (r : Int) : List Int := if r < 65536 then [r] else [55296 + (r - 65536) / 1024, 56320 + (r - 65536) % 1024]
/-! ### texts -/
def allP (t : List Int) : Bool := t.all Lib.validRune
def encZ (t : List Int) : List Int := t.flatMap Lib.encodeRuneZ
def uniZ (t : List Int) : List Int := t.flatMap unitsZ
def codeP (t : List Int) : Int := if allP t = true then 0 else 13
def encP (t : List Int) : List Int := if allP t = true then encZ t else []
def uniP (t : List Int) : List Int := if allP t = true then uniZ t else []
def lenP (r : Int) : Int := (Lib.encodeRuneZ r).length
def sumP (t : List Int) : Int := (t.map lenP).sum
def byteP (t : List Int) (a : Int) : Int := if allP t = false ∨ a < 0 ∨ (t.length : Int) < a then -1 else sumP (t.take a.toNat)
/-- the first place i from k on whose first i + 1 runes have more than b bytes -/
def plaG : List Int → Nat → Int → Int → Int
  | [], k, n, b => if b = n then k else -1
  | r :: t, k, n, b => if b < n + lenP r then k else plaG t (k + 1) (n + lenP r) b
def plaP (t : List Int) (b : Int) : Int := if allP t = false ∨ b < 0 then -1 else plaG t 0 0 b
theorem allP_cons (r : Int) (t : List Int) : allP (r :: t) = (Lib.validRune r && allP t) := rfl
theorem lenP_range (r : Int) : 1 ≤ lenP r ∧ lenP r ≤ 4 := by unfold lenP Lib.encodeRuneZ; (repeat' split) <;> simp
theorem runeLen_eq (r : Int) (h : Lib.validRune r = true) : Lib.runeLen r = lenP r := by
  unfold Lib.validRune at h
  have h := of_decide_eq_true h
  unfold Lib.runeLen lenP Lib.encodeRuneZ
  repeat' split
  all_goals first | rfl | (exfalso; omega)
theorem sumP_range (t : List Int) : (t.length : Int) ≤ sumP t ∧ sumP t ≤ 4 * t.length := by
  induction t with
  | nil => simp [sumP]
  | cons r t ih => have := lenP_range r; simp only [sumP, List.map_cons, List.sum_cons, List.length_cons] at *; omega
theorem encZ_cons (r : Int) (t : List Int) : encZ (r :: t) = Lib.encodeRuneZ r ++ encZ t := by simp [encZ]
theorem encZ_len (t : List Int) : (encZ t).length ≤ 4 * t.length := by
  induction t with
  | nil => simp [encZ]
  | cons r t ih => have := lenP_range r; rw [encZ_cons, List.length_append, List.length_cons]; unfold lenP at this; omega
theorem uniZ_cons (r : Int) (t : List Int) : uniZ (r :: t) = unitsZ r ++ uniZ t := by simp [uniZ]
theorem unitsZ_len (r : Int) : 1 ≤ (unitsZ r).length ∧ (unitsZ r).length ≤ 2 := by unfold unitsZ; split <;> simp
theorem uniZ_len (t : List Int) : (uniZ t).length ≤ 2 * t.length := by
  induction t with
  | nil => simp [uniZ]
  | cons r t ih => have := unitsZ_len r; rw [uniZ_cons, List.length_append, List.length_cons]; omega
end Go.Proofs.YtekjejbcdnghjaaDoor
