/-
  Contracts of the rules that go through the classes in place: marks (W1), turnNumbers (W2, W7), arabicLetters (W3), leftovers (W6), separators (W4). Condition: at most 1000 classes, in a slice of the call's own.
-/
import Derived.Test.YtlgdogebnopjfaaWks
import Derived.BigQuiet
set_option linter.unusedVariables false
set_option linter.unusedSimpArgs false
namespace Go.Proofs.Ytlgdogebnopjfaa
open Go.ChangeShapes Go.WideShapes Go.ChangeAt Go.RowKit Go.Sort

/-- what the walk of a round wants of a slice of the call's own: where it lies, its cell, what a store makes of it -/
theorem Mine.spot {k : IntKind} {e : TypeId} {w : World} {B n c : Nat} {A : Option Addr} {xs : List Int} {i : Nat} {y : Int} (h : Mine k e w B (.slice A n c) xs) (hi : xs[i]? = some y) :
    ∃ g, A = some ⟨g, 0, none⟩ ∧ B ≤ g ∧ g < w.heap.size ∧ w.cell? ⟨g, i, none⟩ = some (.int k y) ∧ w.frozen? ⟨g, i, none⟩ = false ∧ ∀ z, Mine k e (w.setCell ⟨g, i, none⟩ (.int k z)) B (.slice (some ⟨g, 0, none⟩) n c) (xs.set i z) := by
  have hlt := (List.getElem?_eq_some_iff.1 hi).1
  obtain ⟨g, c', hv, _, hB, hg⟩ := h.formB (by omega)
  injection hv with e1 e2 e3
  subst e1; subst e2; subst e3
  refine ⟨g, rfl, hB, hg, ?_, h.free i, fun z => h.set i hlt z⟩
  have := h.cellAt i hlt
  rw [List.getElem?_eq_getElem hlt] at hi
  injection hi with hi
  rw [hi] at this
  exact this
/-- a round of a scan -/
theorem Mine.scan {k : IntKind} {e : TypeId} {w w0 : World} {B n c : Nat} {A : Option Addr} {d q : Int → Int → Int → Int} {p : Int} {l : List Int} {i : Nat} {y : Int} (h : Mine k e w B (.slice A n c) (midL d q p l i)) (hB : Below B w0 w) (hi : l[i]? = some y) :
    ∃ g, A = some ⟨g, 0, none⟩ ∧ w.cell? ⟨g, i, none⟩ = some (.int k y) ∧ w.frozen? ⟨g, i, none⟩ = false ∧
      (∀ z, d (stA q p l i) y (l.getD (i + 1) 0) = z → Mine k e (w.setCell ⟨g, i, none⟩ (.int k z)) B (.slice (some ⟨g, 0, none⟩) n c) (midL d q p l (i + 1)) ∧ Below B w0 (w.setCell ⟨g, i, none⟩ (.int k z)) ∧ (w.setCell ⟨g, i, none⟩ (.int k z)).cell? ⟨g, i, none⟩ = some (.int k z)) ∧
      (d (stA q p l i) y (l.getD (i + 1) 0) = y → Mine k e w B (.slice (some ⟨g, 0, none⟩) n c) (midL d q p l (i + 1)) ∧ Below B w0 w) := by
  obtain ⟨g, rfl, hBg, hgw, hc, hf, hs⟩ := h.spot (mid_at d q p l i y hi)
  refine ⟨g, rfl, hc, hf, fun z hz => ⟨?_, hB.setCell (p := ⟨g, i, none⟩) hBg _, World.cell?_setCell_same' _ _ _ (by rw [hc]; rfl)⟩, fun hz => ⟨?_, hB⟩⟩
  · have := mid_step d q p l i y hi
    rw [hz] at this
    rw [← this]
    exact hs z
  · rw [mid_keep d q p l i y hi hz]
    exact h
theorem scan_start {k : IntKind} {e : TypeId} {w : World} {B n c : Nat} {A : Option Addr} (d q : Int → Int → Int → Int) (p : Int) {l : List Int} (h : Mine k e w B (.slice A n c) l) : Mine k e w B (.slice A n c) (midL d q p l 0) := by rw [mid_zero]; exact h

set_option maxHeartbeats 1000000 in
theorem arabic_ok (v : Value) (l : List Int) (w : World) (B : Nat) (hown : Mine .i64 3 w B v l) (hmax : l.length ≤ 1000) :
    Calls Try.prog 17 #[v] w fun e w' => e = .returned (.tuple #[]) ∧ Mine .i64 3 w' B v (w3 l) ∧ Below B w w' := by
  obtain ⟨A, c, rfl, hlc, _, _⟩ := hown.size
  obtain ⟨n, hn⟩ : ∃ n, n = l.length := ⟨_, rfl⟩
  rw [← hn] at hmax hlc hown ⊢
  have HN := Lib.hid hn
  have HE : Hid (midL D3 Q0 0 l n = w3 l) := Lib.hid (by rw [hn, mid_end, ← w3_scn])
  have h0 := scan_start D3 Q0 0 hown
  clear hn hown
  go_enter Try.func17, Try.ntmps17
  go_wp2
  go_loopw [6] (fun v wr => ∃ k : Nat, k ≤ n ∧ v = .int .i64 k ∧ Hid (Mine .i64 3 wr B (.slice A n c) (midL D3 Q0 0 l k) ∧ Below B w wr)) (fun v _ => n - (intOf v).toNat)
  case atStart => exact ⟨0, by omega, rfl, Lib.hid ⟨h0, Below.refl _ _⟩⟩
  case round =>
    clear h0
    obtain ⟨k, hkn, rfl, HM⟩ := hrel
    by_cases hlt : k < n
    · obtain ⟨y, hy⟩ : ∃ y, l[k]? = some y := ⟨_, List.getElem?_eq_getElem (by have := HN.out; omega)⟩
      obtain ⟨g, rfl, hc, hf, hset, hkeep⟩ := HM.out.1.scan HM.out.2 hy
      clear HM hy
      by_cases h3 : y = 3
      · have hs := hset 2 (if_pos h3)
        subst h3
        have HS := Lib.hid (And.intro hs.1 hs.2.1)
        clear hset hkeep hs
        go_wp2
        go_roundw
        case rel => exact ⟨k + 1, by omega, by go_num, HS⟩
        case measure => simp [intOf] <;> omega
      · have HS := Lib.hid (hkeep (if_neg h3))
        clear hset hkeep
        go_wp2
        go_roundw
        case rel => exact ⟨k + 1, by omega, by go_num, HS⟩
        case measure => simp [intOf] <;> omega
    · obtain rfl : k = n := by omega
      go_wp2
      go_end0
      exact ⟨rfl, by rw [← HE.out]; exact HM.out.1, HM.out.2⟩

set_option maxHeartbeats 1000000 in
theorem leftovers_ok (v : Value) (l : List Int) (w : World) (B : Nat) (hown : Mine .i64 3 w B v l) (hmax : l.length ≤ 1000) :
    Calls Try.prog 20 #[v] w fun e w' => e = .returned (.tuple #[]) ∧ Mine .i64 3 w' B v (w6 l) ∧ Below B w w' := by
  obtain ⟨A, c, rfl, hlc, _, _⟩ := hown.size
  obtain ⟨n, hn⟩ : ∃ n, n = l.length := ⟨_, rfl⟩
  rw [← hn] at hmax hlc hown ⊢
  have HN := Lib.hid hn
  have HE : Hid (midL D6 Q0 0 l n = w6 l) := Lib.hid (by rw [hn, mid_end, ← w6_scn])
  have h0 := scan_start D6 Q0 0 hown
  clear hn hown
  go_enter Try.func20, Try.ntmps20
  go_wp2
  go_loopw [6] (fun v wr => ∃ k : Nat, k ≤ n ∧ v = .int .i64 k ∧ Hid (Mine .i64 3 wr B (.slice A n c) (midL D6 Q0 0 l k) ∧ Below B w wr)) (fun v _ => n - (intOf v).toNat)
  case atStart => exact ⟨0, by omega, rfl, Lib.hid ⟨h0, Below.refl _ _⟩⟩
  case round =>
    clear h0
    obtain ⟨k, hkn, rfl, HM⟩ := hrel
    by_cases hlt : k < n
    · obtain ⟨y, hy⟩ : ∃ y, l[k]? = some y := ⟨_, List.getElem?_eq_getElem (by have := HN.out; omega)⟩
      obtain ⟨g, rfl, hc, hf, hset, hkeep⟩ := HM.out.1.scan HM.out.2 hy
      clear HM hy
      by_cases h5 : y = 5
      · have hs := hset 14 (if_pos (.inl h5))
        subst h5
        have HS := Lib.hid (And.intro hs.1 hs.2.1)
        clear hset hkeep hs
        go_wp2
        go_roundw
        case rel => exact ⟨k + 1, by omega, by go_num, HS⟩
        case measure => simp [intOf] <;> omega
      by_cases h6 : y = 6
      · have hs := hset 14 (if_pos (.inr (.inl h6)))
        subst h6
        have HS := Lib.hid (And.intro hs.1 hs.2.1)
        clear hset hkeep hs
        go_wp2
        go_roundw
        case rel => exact ⟨k + 1, by omega, by go_num, HS⟩
        case measure => simp [intOf] <;> omega
      by_cases h8 : y = 8
      · have hs := hset 14 (if_pos (.inr (.inr h8)))
        subst h8
        have HS := Lib.hid (And.intro hs.1 hs.2.1)
        clear hset hkeep hs
        go_wp2
        go_roundw
        case rel => exact ⟨k + 1, by omega, by go_num, HS⟩
        case measure => simp [intOf] <;> omega
      · have HS := Lib.hid (hkeep (if_neg (by omega)))
        clear hset hkeep
        go_wp2
        go_roundw
        case rel => exact ⟨k + 1, by omega, by go_num, HS⟩
        case measure => simp [intOf] <;> omega
    · obtain rfl : k = n := by omega
      go_wp2
      go_end0
      exact ⟨rfl, by rw [← HE.out]; exact HM.out.1, HM.out.2⟩

set_option maxHeartbeats 1000000 in
theorem marks_ok (v : Value) (l : List Int) (p : Int) (w : World) (B : Nat) (hown : Mine .i64 3 w B v l) (hmax : l.length ≤ 1000) :
    Calls Try.prog 15 #[v, .int .i64 p] w fun e w' => e = .returned (.tuple #[]) ∧ Mine .i64 3 w' B v (w1 p l) ∧ Below B w w' := by
  obtain ⟨A, c, rfl, hlc, _, _⟩ := hown.size
  obtain ⟨n, hn⟩ : ∃ n, n = l.length := ⟨_, rfl⟩
  rw [← hn] at hmax hlc hown ⊢
  have HN := Lib.hid hn
  have HE : Hid (midL D1 D1 p l n = w1 p l) := Lib.hid (by rw [hn, mid_end, ← w1_scn])
  have h0 := scan_start D1 D1 p hown
  clear hn hown
  go_enter Try.func15, Try.ntmps15
  go_wp2
  go_loopw [4, 10] (fun b v wr => ∃ (k : Nat) (s : Int), k ≤ n ∧ v = .int .i64 k ∧ b = .int .i64 s ∧ Hid (s = stA D1 p l k ∧ Mine .i64 3 wr B (.slice A n c) (midL D1 D1 p l k) ∧ Below B w wr)) (fun _ v _ => n - (intOf v).toNat)
  case atStart => exact ⟨0, p, by omega, rfl, rfl, Lib.hid ⟨(stA_zero _ _ _).symm, h0, Below.refl _ _⟩⟩
  case round =>
    clear h0
    obtain ⟨k, s, hkn, rfl, rfl, HM⟩ := hrel
    by_cases hlt : k < n
    · obtain ⟨y, hy⟩ : ∃ y, l[k]? = some y := ⟨_, List.getElem?_eq_getElem (by have := HN.out; omega)⟩
      have HST := Lib.hid (stA_succ D1 p l k y hy)
      obtain ⟨g, rfl, hc, hf, hset, hkeep⟩ := HM.out.2.1.scan HM.out.2.2 hy
      rw [← HM.out.1] at hset hkeep
      clear hy
      by_cases h9 : y = 9
      · have HL := Lib.hid (fun w => lent_ok s w)
        obtain ⟨z, hz⟩ : ∃ z, lentW s = z := ⟨_, rfl⟩
        have hd : D1 s y (l.getD (k + 1) 0) = z := by rw [← hz]; exact if_pos h9
        have hs := hset z hd
        rw [← HM.out.1, hd] at HST
        rw [hz] at HL
        subst h9
        obtain ⟨q1, q2, q3⟩ := hs
        have HS := Lib.hid (And.intro q1 q2)
        clear hset hkeep q1 q2 hd hz HM
        go_wp2_with (first | (go_at_call 21; (with_reducible refine (HL.out _).mono ?_); rintro e u ⟨rfl, rfl⟩))
        go_roundw
        case rel => exact ⟨k + 1, z, by omega, by go_num, rfl, Lib.hid ⟨HST.out.symm, HS.out.1, HS.out.2⟩⟩
        case measure => simp [intOf] <;> omega
      · have hd : D1 s y (l.getD (k + 1) 0) = y := if_neg h9
        have HS := Lib.hid (hkeep hd)
        rw [← HM.out.1, hd] at HST
        clear hset hkeep hd HM
        go_wp2
        go_roundw
        case rel => exact ⟨k + 1, y, by omega, by go_num, rfl, Lib.hid ⟨HST.out.symm, HS.out.1, HS.out.2⟩⟩
        case measure => simp [intOf] <;> omega
    · obtain rfl : k = n := by omega
      go_wp2
      go_end0
      exact ⟨rfl, by rw [← HE.out]; exact HM.out.2.1, HM.out.2.2⟩

set_option maxHeartbeats 2000000 in
theorem turn_ok (v : Value) (l : List Int) (p b i : Int) (w : World) (B : Nat) (hown : Mine .i64 3 w B v l) (hmax : l.length ≤ 1000) :
    Calls Try.prog 16 #[v, .int .i64 p, .int .i64 b, .int .i64 i] w fun e w' => e = .returned (.tuple #[]) ∧ Mine .i64 3 w' B v (scn (tnD b i) Q2 p l) ∧ Below B w w' := by
  obtain ⟨A, c, rfl, hlc, _, _⟩ := hown.size
  obtain ⟨n, hn⟩ : ∃ n, n = l.length := ⟨_, rfl⟩
  rw [← hn] at hmax hlc hown ⊢
  have HN := Lib.hid hn
  have HE : Hid (midL (tnD b i) Q2 p l n = scn (tnD b i) Q2 p l) := Lib.hid (by rw [hn, mid_end])
  have h0 := scan_start (tnD b i) Q2 p hown
  clear hn hown
  go_enter Try.func16, Try.ntmps16
  go_wp2
  go_loopw [1, 12] (fun b' v wr => ∃ (k : Nat) (s : Int), k ≤ n ∧ v = .int .i64 k ∧ b' = .int .i64 s ∧ Hid (s = stA Q2 p l k ∧ Mine .i64 3 wr B (.slice A n c) (midL (tnD b i) Q2 p l k) ∧ Below B w wr)) (fun _ v _ => n - (intOf v).toNat)
  case atStart => exact ⟨0, p, by omega, rfl, rfl, Lib.hid ⟨(stA_zero _ _ _).symm, h0, Below.refl _ _⟩⟩
  case round =>
    clear h0
    obtain ⟨k, s, hkn, rfl, rfl, HM⟩ := hrel
    by_cases hlt : k < n
    · obtain ⟨y, hy⟩ : ∃ y, l[k]? = some y := ⟨_, List.getElem?_eq_getElem (by have := HN.out; omega)⟩
      have HST := Lib.hid (stA_succ Q2 p l k y hy)
      obtain ⟨g, rfl, hc, hf, hset, hkeep⟩ := HM.out.2.1.scan HM.out.2.2 hy
      rw [← HM.out.1] at hset hkeep HST
      clear hy HM
      by_cases h4 : y = 4
      · subst h4
        have hq : Q2 s 4 (l.getD (k + 1) 0) = s := rfl
        rw [hq] at HST
        by_cases hb : s = b
        · subst hb
          have hs := hset i (if_pos ⟨rfl, rfl⟩)
          obtain ⟨q1, q2, q3⟩ := hs
          have HS := Lib.hid (And.intro q1 q2)
          clear hset hkeep q1 q2 hq
          go_wp2
          go_roundw
          case rel => exact ⟨k + 1, s, by omega, by go_num, rfl, Lib.hid ⟨HST.out.symm, HS.out.1, HS.out.2⟩⟩
          case measure => simp [intOf] <;> omega
        · have HS := Lib.hid (hkeep (if_neg fun x => hb x.2))
          have hb2 : (s == b) = false := by simpa using hb
          clear hset hkeep hq hb
          go_wp2
          go_roundw
          case rel => exact ⟨k + 1, s, by omega, by go_num, rfl, Lib.hid ⟨HST.out.symm, HS.out.1, HS.out.2⟩⟩
          case measure => simp [intOf] <;> omega
      have HS := Lib.hid (hkeep (if_neg fun x => h4 x.1))
      clear hset hkeep
      by_cases h1 : y = 1
      · subst h1
        have hq : Q2 s 1 (l.getD (k + 1) 0) = 1 := rfl
        rw [hq] at HST
        clear hq
        go_wp2
        go_roundw
        case rel => exact ⟨k + 1, 1, by omega, by go_num, rfl, Lib.hid ⟨HST.out.symm, HS.out.1, HS.out.2⟩⟩
        case measure => simp [intOf] <;> omega
      by_cases h2 : y = 2
      · subst h2
        have hq : Q2 s 2 (l.getD (k + 1) 0) = 2 := rfl
        rw [hq] at HST
        clear hq
        go_wp2
        go_roundw
        case rel => exact ⟨k + 1, 2, by omega, by go_num, rfl, Lib.hid ⟨HST.out.symm, HS.out.1, HS.out.2⟩⟩
        case measure => simp [intOf] <;> omega
      by_cases h3 : y = 3
      · subst h3
        have hq : Q2 s 3 (l.getD (k + 1) 0) = 3 := rfl
        rw [hq] at HST
        clear hq
        go_wp2
        go_roundw
        case rel => exact ⟨k + 1, 3, by omega, by go_num, rfl, Lib.hid ⟨HST.out.symm, HS.out.1, HS.out.2⟩⟩
        case measure => simp [intOf] <;> omega
      have hq : Q2 s y (l.getD (k + 1) 0) = s := if_neg (by omega)
      rw [hq] at HST
      clear hq
      go_wp2
      go_roundw
      case rel => exact ⟨k + 1, s, by omega, by go_num, rfl, Lib.hid ⟨HST.out.symm, HS.out.1, HS.out.2⟩⟩
      case measure => simp [intOf] <;> omega
    · obtain rfl : k = n := by omega
      go_wp2
      go_end0
      exact ⟨rfl, by rw [← HE.out]; exact HM.out.2.1, HM.out.2.2⟩

theorem d4_join (p c n : Int) (h : p = n) (hj : joinW c p = true) : d4 p c n = p := by
  subst h
  unfold joinW at hj
  unfold d4
  by_cases h5 : c = 5
  · subst h5
    simp at hj
    subst hj
    rfl
  · rw [if_neg h5] at hj
    by_cases h8 : c = 8
    · subst h8
      simp at hj
      rcases hj with hj | hj <;> subst hj <;> rfl
    · rw [if_neg h8] at hj
      cases hj
theorem d4_not (p c n : Int) (h : p = n → joinW c p = false) : d4 p c n = c := by
  unfold d4
  rw [if_neg, if_neg]
  · rintro ⟨rfl, rfl, rfl⟩
    exact absurd (h rfl) (by decide)
  · rintro ⟨rfl, rfl, rfl | rfl⟩ <;> exact absurd (h rfl) (by decide)
theorem mid_first (l : List Int) : midL d4 d4 0 l 1 = midL d4 d4 0 l 0 := by
  cases l with
  | nil => rfl
  | cons c l => exact mid_keep d4 d4 0 (c :: l) 0 c rfl (d4_not _ _ _ fun h => by
      rw [stA_zero]
      unfold joinW
      split
      · decide
      · split <;> decide)
theorem mid_last (l : List Int) (k : Nat) (h : l.length ≤ k + 1 + 1) : midL d4 d4 0 l (k + 1) = w4 0 l := by
  have e : ∀ j, l.length ≤ j → midL d4 d4 0 l j = w4 0 l := fun j hj => by
    unfold midL
    rw [List.drop_of_length_le hj, List.append_nil, List.take_of_length_le (by rw [scn_len]; exact hj), ← w4_scn]
  by_cases h2 : l.length ≤ k + 1
  · exact e _ h2
  · have hy : l[k + 1]? = some l[k + 1] := List.getElem?_eq_getElem (by omega)
    rw [← e (k + 1 + 1) h]
    refine (mid_keep d4 d4 0 l (k + 1) _ hy (d4_not _ _ _ fun h3 => ?_)).symm
    have : l.getD (k + 1 + 1) 0 = 0 := by rw [List.getD_eq_getElem?_getD, List.getElem?_eq_none h]; rfl
    rw [this] at h3
    rw [h3]
    unfold joinW
    split
    · decide
    · split <;> decide

set_option maxHeartbeats 2000000 in
theorem separators_ok (v : Value) (l : List Int) (w : World) (B : Nat) (hown : Mine .i64 3 w B v l) (hmax : l.length ≤ 1000) :
    Calls Try.prog 18 #[v] w fun e w' => e = .returned (.tuple #[]) ∧ Mine .i64 3 w' B v (w4 0 l) ∧ Below B w w' := by
  obtain ⟨A, c, rfl, hlc, _, _⟩ := hown.size
  obtain ⟨n, hn⟩ : ∃ n, n = l.length := ⟨_, rfl⟩
  rw [← hn] at hmax hlc hown ⊢
  have HN := Lib.hid hn
  have HE : Hid (∀ k, n ≤ k + 1 + 1 → midL d4 d4 0 l (k + 1) = w4 0 l) := Lib.hid fun k h => mid_last l k (by omega)
  have h0 : Mine .i64 3 w B (.slice A n c) (midL d4 d4 0 l (0 + 1)) := by
    rw [Nat.zero_add, mid_first]
    exact scan_start d4 d4 0 hown
  clear hn hown
  go_enter Try.func18, Try.ntmps18
  go_wp2
  go_loopw [2] (fun v wr => ∃ i : Nat, i ≤ n + 1 ∧ v = .int .i64 i ∧ Hid (0 < i ∧ Mine .i64 3 wr B (.slice A n c) (midL d4 d4 0 l i) ∧ Below B w wr)) (fun v _ => n + 1 - (intOf v).toNat)
  case atStart => exact ⟨1, by omega, rfl, Lib.hid ⟨by omega, h0, Below.refl _ _⟩⟩
  case round =>
    clear h0
    obtain ⟨i, hin, rfl, HM⟩ := hrel
    obtain ⟨m, hm⟩ : ∃ m, i + 1 = m := ⟨_, rfl⟩
    have hm2 : (i : Int) + 1 = (m : Int) := by omega
    have hm3 : m ≤ n + 2 := by omega
    by_cases hlt : m < n
    · have HL := HN.out
      have H0 := HM.out.1
      obtain ⟨k, hk⟩ : ∃ k, i = k + 1 := ⟨i - 1, by omega⟩
      have hk2 : (i : Int) - 1 = (k : Int) := by omega
      obtain ⟨x, hx⟩ : ∃ x, l[k]? = some x := ⟨_, List.getElem?_eq_getElem (by omega)⟩
      obtain ⟨y, hy⟩ : ∃ y, l[i]? = some y := ⟨_, List.getElem?_eq_getElem (by omega)⟩
      obtain ⟨z, hz⟩ : ∃ z, l[m]? = some z := ⟨_, List.getElem?_eq_getElem (by omega)⟩
      obtain ⟨g, rfl, hc, hf, hset, hkeep⟩ := HM.out.2.1.scan HM.out.2.2 hy
      have hx2 := mid_prev d4 d4 0 l k x hx
      rw [← hk] at hx2
      obtain ⟨_, e1, _, _, hp, _⟩ := HM.out.2.1.spot hx2
      injection e1 with e1
      injection e1 with e1
      subst e1
      rw [← hm] at hz
      obtain ⟨_, e2, _, _, hq, _⟩ := HM.out.2.1.spot (mid_next d4 d4 0 l i z hz)
      injection e2 with e2
      injection e2 with e2
      subst e2
      have hsu := stA_succ d4 0 l k x hx
      rw [← hk] at hsu
      rw [← hsu] at hp
      have hzz : l.getD (i + 1) 0 = z := by rw [List.getD_eq_getElem?_getD, hz]; rfl
      rw [hzz] at hset hkeep
      obtain ⟨s, hs⟩ : ∃ s, stA d4 0 l i = s := ⟨_, rfl⟩
      rw [hs] at hp hset hkeep
      rw [hm] at hq hset hkeep
      have b1 : i < n := by omega
      have b2 : k < n := by omega
      have HM3 := Lib.hid (show 0 < m by omega)
      clear hx hy hz hzz hs HM HL hm hk hx2 hsu H0
      by_cases hsz : s = z
      · subst hsz
        have HJ := Lib.hid (fun w => joins_ok y s w)
        cases hj : joinW y s with
        | true =>
          rw [hj] at HJ
          obtain ⟨q1, q2, q3⟩ := hset s (d4_join s y s rfl hj)
          have HS := Lib.hid (And.intro q1 q2)
          clear hset hkeep q1 q2 q3 hj
          go_wp2
          go_quiet (fail)
          go_wp2_with (first | (go_at_call 22; (with_reducible refine (HJ.out _).mono ?_); rintro e u ⟨rfl, rfl⟩))
          go_roundw
          case rel => exact ⟨m, by omega, by go_num, Lib.hid ⟨HM3.out, HS.out.1.drewN _, below_drewN HS.out.2 _⟩⟩
          case measure => simp [intOf] <;> omega
        | false =>
          rw [hj] at HJ
          have HS := Lib.hid (hkeep (d4_not s y s fun _ => hj))
          clear hset hkeep hj
          go_wp2
          go_quiet (fail)
          go_wp2_with (first | (go_at_call 22; (with_reducible refine (HJ.out _).mono ?_); rintro e u ⟨rfl, rfl⟩))
          go_roundw
          case rel => exact ⟨m, by omega, by go_num, Lib.hid ⟨HM3.out, HS.out.1.drewN _, below_drewN HS.out.2 _⟩⟩
          case measure => simp [intOf] <;> omega
      · have HS := Lib.hid (hkeep (d4_not s y z fun h => absurd h hsz))
        have hb : (s == z) = false := by simpa using hsz
        clear hset hkeep hsz
        go_wp2
        go_quiet (fail)
        go_wp2
        go_roundw
        case rel => exact ⟨m, by omega, by go_num, Lib.hid ⟨HM3.out, HS.out.1.drewN _, below_drewN HS.out.2 _⟩⟩
        case measure => simp [intOf] <;> omega
    · have HF : Hid (Mine .i64 3 wr B (.slice A n c) (w4 0 l) ∧ Below B w wr) := Lib.hid (by
        have h := HM.out
        have e := HE.out (i - 1) (by omega)
        rw [show i - 1 + 1 = i by omega] at e
        rw [e] at h
        exact h.2)
      clear HM hm
      go_wp2
      go_end0
      exact ⟨rfl, HF.out⟩
end Go.Proofs.Ytlgdogebnopjfaa
