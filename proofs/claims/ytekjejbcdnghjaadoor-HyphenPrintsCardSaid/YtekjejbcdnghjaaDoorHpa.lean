/-
  Going through a string's runes by Go's own decoder, in the words of the document's decoder; which strings are valid; what is left of a pattern to be read. No program, no condition.
-/
import Derived.Test.YtekjejbcdnghjaaDoorUtm
import Derived.Test.YtekjejbcdnghjaaDoorUtl
import Derived.Test.YtekjejbcdnghjaaDoorHrb
import Derived.Lib.ValidLaws
import Derived.Lib.TrimUEq
set_option linter.unusedVariables false
set_option linter.unusedSimpArgs false
namespace Go.Proofs.YtekjejbcdnghjaaDoor
open Go.Lib (decodeL validD)

theorem bytes_get (s : ByteArray) (j : Nat) : (bytesS s).getD j 0 = ((s.data.toList.getD j 0).toNat : Int) := by
  unfold bytesS
  by_cases h : j < s.data.toList.length
  · simp [List.getD, List.getElem?_map, List.getElem?_eq_getElem h]
  · simp [List.getD, List.getElem?_map, List.getElem?_eq_none (Nat.le_of_not_lt h)]
theorem drop_get (s : ByteArray) (pos j : Nat) : ((bytesS s).drop pos).getD j 0 = ((s.data.toList.getD (pos + j) 0).toNat : Int) := by
  rw [← bytes_get]
  simp [List.getD, List.getElem?_drop]
/-- one rune, by either decoder -/
theorem dec_at (s : ByteArray) (pos : Nat) (hp : pos < s.size) :
    (((Utf8.decode s pos).1 : Int), (Utf8.decode s pos).2) = if (standP ((bytesS s).drop pos)).2 = true then (runeP ((bytesS s).drop pos), (standP ((bytesS s).drop pos)).1) else (65533, 1) := by
  have hl : s.data.toList.length = s.size := Array.length_toList
  have h := decode_stand (s.data.toList.length - pos) (s.data.toList.getD pos 0).toNat (s.data.toList.getD (pos + 1) 0).toNat (s.data.toList.getD (pos + 2) 0).toNat (s.data.toList.getD (pos + 3) 0).toNat (by omega) (s.data.toList.getD pos 0).toNat_lt (s.data.toList.getD (pos + 1) 0).toNat_lt (s.data.toList.getD (pos + 2) 0).toNat_lt (s.data.toList.getD (pos + 3) 0).toNat_lt
  rw [← Lib.decode_N] at h
  have e : ((bytesS s).drop pos).length = s.data.toList.length - pos := by rw [List.length_drop, bytesS_length, hl]
  unfold runeP standP
  rw [drop_get, drop_get, drop_get, drop_get, e]
  exact h
theorem dec_list (s : ByteArray) (pos : Nat) : decodeL (s.data.toList.drop pos) = Utf8.decode s pos := by
  rw [Lib.decodeL_N, Lib.decode_N]
  simp [List.getD, List.getElem?_drop]

theorem decG_acc (s : List Int) : ∀ (k p : Nat) (t : List Int), (decG k s p t).2 = (decG k s p []).2 ∧ ((decG k s p []).2.2 = 0 → (decG k s p t).1 = t ++ (decG k s p []).1)
  | 0, p, t => ⟨rfl, fun _ => by simp [decG]⟩
  | k + 1, p, t => by
    by_cases hp : p < s.length
    · by_cases h : (standP (s.drop p)).2 = true
      · rw [decG_ok k s p t hp h, decG_ok k s p [] hp h, List.nil_append]
        obtain ⟨a1, a2⟩ := decG_acc s k (p + (standP (s.drop p)).1) (t ++ [runeP (s.drop p)])
        obtain ⟨b1, b2⟩ := decG_acc s k (p + (standP (s.drop p)).1) [runeP (s.drop p)]
        refine ⟨by rw [a1, b1], fun h0 => ?_⟩
        rw [b1] at h0
        rw [a2 h0, b2 h0]
        simp
      · have h' : (standP (s.drop p)).2 = false := by simpa using h
        rw [decG_bad k s p t hp h', decG_bad k s p [] hp h']
        refine ⟨rfl, fun h0 => ?_⟩
        simp only at h0
        split at h0 <;> simp at h0
    · simp [decG, if_neg hp]

/-- u: the runes from place pos on; all of them stand -/
def LeftR (s : ByteArray) (pos : Nat) (u : List Int) : Prop := ∃ k, s.size - pos < k ∧ pos ≤ s.size ∧ (decG k (bytesS s) pos []).2.2 = 0 ∧ (decG k (bytesS s) pos []).1 = u
theorem left_start {s : ByteArray} (h : (decP (bytesS s)).2.2 = 0) : LeftR s 0 (decP (bytesS s)).1 := ⟨(bytesS s).length + 1, by rw [bytesS_length]; omega, by omega, h, rfl⟩
theorem left_end {s : ByteArray} {pos : Nat} {u : List Int} (h : LeftR s pos u) (hp : ¬ pos < s.size) : u = [] := by
  obtain ⟨k, h1, h2, h3, rfl⟩ := h
  obtain ⟨k', rfl⟩ : ∃ k', k = k' + 1 := ⟨k - 1, by omega⟩
  rw [decG, if_neg (by rw [bytesS_length]; exact hp)]
theorem left_step {s : ByteArray} {pos : Nat} {u : List Int} (h : LeftR s pos u) (hp : pos < s.size) :
    ∃ u', u = ((Utf8.decode s pos).1 : Int) :: u' ∧ LeftR s (pos + (Utf8.decode s pos).2) u' ∧ 1 ≤ (Utf8.decode s pos).2 ∧ pos + (Utf8.decode s pos).2 ≤ s.size := by
  obtain ⟨k, h1, h2, h3, rfl⟩ := h
  obtain ⟨k', rfl⟩ : ∃ k', k = k' + 1 := ⟨k - 1, by omega⟩
  have hp' : pos < (bytesS s).length := by rw [bytesS_length]; exact hp
  have hd := dec_at s pos hp
  by_cases hs : (standP ((bytesS s).drop pos)).2 = true
  · rw [if_pos hs] at hd
    have e1 := congrArg Prod.fst hd
    have e2 := congrArg Prod.snd hd
    simp only at e1 e2
    rw [decG_ok k' _ pos [] hp' hs, List.nil_append, ← e1, ← e2] at h3 ⊢
    obtain ⟨a1, a2⟩ := decG_acc (bytesS s) k' (pos + (Utf8.decode s pos).2) [((Utf8.decode s pos).1 : Int)]
    rw [a1] at h3
    rw [a2 h3]
    have h4 := (rest_facts (bytesS s) pos hp').2.2
    have h5 := (standP_pos ((bytesS s).drop pos)).1
    rw [bytesS_length] at h4
    refine ⟨_, rfl, ⟨k', by omega, by omega, h3, rfl⟩, by omega, by omega⟩
  · rw [decG_bad k' _ pos [] hp' (by simpa using hs)] at h3
    simp only at h3
    split at h3 <;> simp at h3
/-- .. and where one doesn't stand -/
theorem valid_go (s : ByteArray) : ∀ (k pos : Nat), s.size - pos < k → pos ≤ s.size → validD (s.data.toList.drop pos) = decide ((decG k (bytesS s) pos []).2.2 = 0)
  | 0, pos, h, _ => by omega
  | k + 1, pos, h, hle => by
    have hl : s.data.toList.length = s.size := Array.length_toList
    by_cases hp : pos < s.size
    · have hp' : pos < (bytesS s).length := by rw [bytesS_length]; exact hp
      have hne : s.data.toList.drop pos ≠ [] := fun e => by have := congrArg List.length e; rw [List.length_drop, hl] at this; simp at this; omega
      rw [Lib.validD_step _ hne, dec_list, List.drop_drop]
      have hd := dec_at s pos hp
      have h4 := (rest_facts (bytesS s) pos hp').2.2
      have h5 := (standP_pos ((bytesS s).drop pos)).1
      rw [bytesS_length] at h4
      by_cases hs : (standP ((bytesS s).drop pos)).2 = true
      · rw [if_pos hs] at hd
        have e1 := congrArg Prod.fst hd
        have e2 := congrArg Prod.snd hd
        simp only at e1 e2
        rw [if_neg, decG_ok k _ pos [] hp' hs, (decG_acc _ _ _ _).1, ← e2]
        · exact valid_go s k _ (by omega) (by omega)
        · rintro ⟨f1, f2⟩
          have := runeN_one _ _ _ _ _ hs (show (standP ((bytesS s).drop pos)).1 ≤ 1 by omega)
          change runeP ((bytesS s).drop pos) < 128 at this
          omega
      · rw [if_neg hs] at hd
        have e1 := congrArg Prod.fst hd
        have e2 := congrArg Prod.snd hd
        simp only at e1 e2
        rw [if_pos ⟨by omega, e2⟩, decG_bad k _ pos [] hp' (by simpa using hs)]
        simp only
        split <;> simp
    · have : s.data.toList.drop pos = [] := List.drop_eq_nil_of_le (by omega)
      rw [this, decG, if_neg (by rw [bytesS_length]; exact hp)]
      simp [Lib.validD_nil]
theorem valid_is (s : ByteArray) : validD s.data.toList = decide ((decP (bytesS s)).2.2 = 0) := by
  have := valid_go s ((bytesS s).length + 1) 0 (by rw [bytesS_length]; omega) (by omega)
  rwa [List.drop_zero] at this

/-- what is left (u) of a pattern's text (t): letters l, digits d and N have been read; S: the last sign was a digit -/
def RestU (t u l d : List Int) (N : Int) (S : Bool) : Prop := pz 0 false t = (pz N S u).map fun z => (l ++ z.1, d ++ z.2)
theorem restU_start (t : List Int) : RestU t t [] [] 0 false := by unfold RestU; simp
theorem restU_digit {t u l d : List Int} {N c : Int} (h : RestU t (c :: u) l d N false) (hd : isD c) : RestU t u l d (c - 48) true := by
  unfold RestU at h ⊢; rw [h, pz_digit hd]
theorem restU_twice {t u l d : List Int} {N c : Int} (h : RestU t (c :: u) l d N true) (hd : isD c) : pz 0 false t = none := by
  unfold RestU at h; rw [h, pz_twice hd]; rfl
theorem restU_letter {t u l d : List Int} {N c : Int} {S : Bool} (h : RestU t (c :: u) l d N S) (hd : ¬ isD c) : RestU t u (l ++ [c]) (d ++ [N]) 0 false := by
  unfold RestU at h ⊢
  rw [h, pz_letter hd, Option.map_map]
  congr 1
  funext z
  simp
theorem restU_end {t l d : List Int} {N : Int} {S : Bool} (h : RestU t [] l d N S) : pz 0 false t = some (l, d ++ [N]) := by
  unfold RestU at h
  rw [h]; simp [pz]
end Go.Proofs.YtekjejbcdnghjaaDoor
