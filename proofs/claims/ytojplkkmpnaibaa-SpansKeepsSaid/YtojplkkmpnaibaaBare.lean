/-
  Contract of the program's bare: the first cell that is not passed over. No condition.
-/
import Derived.Test.YtojplkkmpnaibaaPaintMath
import Derived.Test.YtojplkkmpnaibaaOf
import Derived.RangeFuncNested
set_option linter.unusedVariables false
namespace Go.Proofs.Ytojplkkmpnaibaa
open Go.ChangeShapes Go.WideShapes Go.ChangeAt Go.RowKit

/-- of all blocks only g has turned, cell by cell -/
structure Only (g : Nat) (w w' : World) : Prop where
  keeps : KeepsOthers w w'
  below : Below g w w'
  size : w'.heap.size = w.heap.size
  other : ∀ b, b ≠ g → w'.heap[b]? = w.heap[b]?
theorem Only.refl (g : Nat) (w : World) : Only g w w := ⟨KeepsOthers.refl _, Below.refl _ _, rfl, fun _ _ => rfl⟩
theorem Only.trans {g : Nat} {a b c : World} (h : Only g a b) (k : Only g b c) : Only g a c :=
  ⟨h.keeps.trans k.keeps, h.below.trans k.below, k.size.trans h.size, fun x hx => (k.other x hx).trans (h.other x hx)⟩
theorem Only.setCell {g : Nat} {a b : World} (h : Only g a b) (j : Nat) (v : Value) : Only g a (b.setCell ⟨g, j, none⟩ v) :=
  ⟨h.keeps.trans (KeepsOthers.setCell _ _ _), h.below.setCell (p := ⟨g, j, none⟩) (Nat.le_refl _) _, by rw [← h.size]; simp, fun x hx => (Below.heap_setCell _ _ _ _ hx).trans (h.other x hx)⟩

set_option maxHeartbeats 2000000 in
theorem bare_ok (B : Nat) (g cap n : Nat) (nx : List Int) (dn : Nat → Bool) (c : Nat) (w : World) (hown : Mine .i64 3 w B (.slice (some ⟨g, 0, none⟩) n cap) nx) (hI : Inv nx dn n) (hlast : ∀ j, j < n → dn j = true → j + 1 < n) (hc : c < n) (hn : n ≤ 1000000) :
    Calls Try.prog 45 #[.slice (some ⟨g, 0, none⟩) n cap, .int .i64 c] w fun e w' => ∃ (r : Nat) (nx' : List Int), e = .returned (.int .i64 r) ∧ c ≤ r ∧ r < n ∧ dn r = false ∧ (∀ j, c ≤ j → j < r → dn j = true) ∧
      Mine .i64 3 w' B (.slice (some ⟨g, 0, none⟩) n cap) nx' ∧ Inv nx' dn n ∧ Only g w w' := by
  have HI := Lib.hid hI
  clear hI
  go_enter Try.func45, Try.ntmps45
  go_wp2
  go_loopw [1] (fun v wr => ∃ (k : Nat) (nx' : List Int), v = .int .i64 k ∧ c ≤ k ∧ k < n ∧ Hid (∀ j, c ≤ j → j < k → dn j = true) ∧ Mine .i64 3 wr B (.slice (some ⟨g, 0, none⟩) n cap) nx' ∧ Hid (Inv nx' dn n) ∧ Hid (Only g w wr)) (fun v _ => n - (intOf v).toNat)
  case atStart => exact ⟨c, nx, rfl, Nat.le_refl _, hc, Lib.hid (fun j h1 h2 => absurd h1 (by omega)), hown, HI, Lib.hid (Only.refl _ _)⟩
  case round =>
    clear hown HI
    obtain ⟨k, nx', rfl, hck, hkn, HD, hown, HI, HO⟩ := hrel
    obtain ⟨k1, a1, a2, a3, a4, a5⟩ := HI.out.at_ hkn
    have hne : nx' ≠ [] := fun h => by have := HI.out.1; rw [h] at this; simp at this; omega
    obtain ⟨g', c', hv, hg1, hg2, hcell⟩ := hown.form hne
    injection hv with hv1 hv2 hv3
    injection hv1 with hv1
    injection hv1 with hv1
    subst hv1
    have hfz := hown.free k
    have hcs := hcell k _ a1
    by_cases he : k1 = k
    · subst he
      have hd := a4.1 rfl
      replace hown := Lib.hid hown
      replace hd := Lib.hid hd
      clear a1 a4 a5 hne hcell hv2 hv3
      go_wp2
      go_ret
      exact ⟨k1, rfl, hck, hkn, hd.out, HD.out, nx', hown.out, HI.out, HO.out⟩
    · obtain ⟨k2, b1, b2, b3, b4, b5⟩ := HI.out.at_ a3
      have hd : dn k = true := by
        cases hd : dn k with
        | true => rfl
        | false => exact absurd (a4.2 hd) he
      obtain ⟨hI2, d1, d2, d3⟩ := HI.out.halve hkn hd a1 b1 a3
      have hcs2 := hcell k1 _ b1
      have hset := Lib.hid (Mine.set hown k (by rw [HI.out.1]; exact hkn) k2)
      have HI2 := Lib.hid hI2
      have HD2 : Hid (∀ j, c ≤ j → j < k2 → dn j = true) := Lib.hid (fun j h1 h2 => by
        rcases Nat.lt_or_ge j k with hj | hj
        · exact HD.out j h1 hj
        · exact d3 j hj h2)
      have HO2 := Lib.hid (HO.out.setCell k (.int .i64 k2))
      have hne2 : ((k1 : Int) != (k : Int)) = true := by simp; omega
      have hk12 : k < k1 := by omega
      clear a1 a4 a5 b1 b4 b5 hne hcell hv2 hv3 hd hI2 d3 HI HD HO hown he
      go_wp2
      go_roundw
      case rel => exact ⟨k2, _, rfl, by omega, d2, HD2, hset.out, HI2, HO2⟩
      case measure => simp [intOf]; omega
end Go.Proofs.Ytojplkkmpnaibaa
