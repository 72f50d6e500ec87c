/-
  Contracts of the small functions of both: what the greater of two levels stands for, what initiates an isolate, the level beside a run. Conditions: numbers of at most 1000.
-/
import Derived.Test.YtjdkpnmejkbkiaaSqm
import Derived.Test.YtjdkpnmejkbkiaaXsd
import Derived.Test.YtjdkpnmejkbkiaaMinMax
set_option linter.unusedVariables false
set_option linter.unusedSimpArgs false
namespace Go.Proofs.Ytjdkpnmejkbkiaa
open Go.ChangeShapes Go.WideShapes Go.ChangeAt Go.RowKit Go.Sort

theorem two_mod (M : Int) (h : 0 ≤ M) : (M % 2 = 0 ∧ M.tmod 2 = 0) ∨ (M % 2 = 1 ∧ M.tmod 2 = 1) := by
  rw [Int.tmod_eq_emod_of_nonneg h]
  omega
theorem direction_ok (a b : Int) (w : World) (ha : 0 ≤ a ∧ a ≤ 1000) (hb : 0 ≤ b ∧ b ≤ 1000) : Calls Try.prog 29 #[.int .i64 a, .int .i64 b] w fun e w' => e = .returned (.int .i64 (dirC a b)) ∧ w = w' := by
  obtain ⟨M, hM⟩ : ∃ M, max a b = M := ⟨_, rfl⟩
  have hM0 : 0 ≤ M ∧ M ≤ 1000 := by omega
  unfold dirC
  rw [hM]
  rcases two_mod M hM0.1 with ⟨h1, h2⟩ | ⟨h1, h2⟩
  · rw [if_pos h1]
    go_enter Try.func29, Try.ntmps29
    go_wp2_with (refine wpList_max rfl _ _ _ rfl a b rfl rfl M hM ?_)
    go_ret
    exact ⟨rfl, rfl⟩
  · rw [if_neg (by omega)]
    go_enter Try.func29, Try.ntmps29
    go_wp2_with (refine wpList_max rfl _ _ _ rfl a b rfl rfl M hM ?_)
    go_ret
    exact ⟨rfl, rfl⟩
theorem way_ok (a b : Int) (w : World) (ha : 0 ≤ a ∧ a ≤ 1000) (hb : 0 ≤ b ∧ b ≤ 1000) : Calls Try.prog 36 #[.int .i64 a, .int .i64 b] w fun e w' => e = .returned (.int .i64 (dirC a b)) ∧ w = w' := by
  obtain ⟨M, hM⟩ : ∃ M, max a b = M := ⟨_, rfl⟩
  have hM0 : 0 ≤ M ∧ M ≤ 1000 := by omega
  unfold dirC
  rw [hM]
  rcases two_mod M hM0.1 with ⟨h1, h2⟩ | ⟨h1, h2⟩
  · rw [if_pos h1]
    go_enter Try.func36, Try.ntmps36
    go_wp2_with (refine wpList_max rfl _ _ _ rfl a b rfl rfl M hM ?_)
    go_ret
    exact ⟨rfl, rfl⟩
  · rw [if_neg (by omega)]
    go_enter Try.func36, Try.ntmps36
    go_wp2_with (refine wpList_max rfl _ _ _ rfl a b rfl rfl M hM ?_)
    go_ret
    exact ⟨rfl, rfl⟩
theorem opn_cases (c : Int) : (opnC c = true ∧ (c = 20 ∨ c = 21 ∨ c = 22)) ∨ (opnC c = false ∧ (c == 20) = false ∧ (c == 21) = false ∧ (c == 22) = false) := by
  unfold opnC
  by_cases h1 : c = 20
  · subst h1; exact .inl ⟨rfl, by decide⟩
  by_cases h2 : c = 21
  · subst h2; exact .inl ⟨rfl, by decide⟩
  by_cases h3 : c = 22
  · subst h3; exact .inl ⟨rfl, by decide⟩
  right
  simp [h1, h2, h3]
theorem sinitiates_ok (c : Int) (w : World) : Calls Try.prog 32 #[.int .i64 c] w fun e w' => e = .returned (.bool (opnC c)) ∧ w = w' := by
  rcases opn_cases c with ⟨h, hc⟩ | ⟨h, a, b, d⟩
  · rw [h]
    clear h
    rcases hc with rfl | rfl | rfl
    all_goals
      go_enter Try.func32, Try.ntmps32
      go_wp2
      go_ret
      exact ⟨rfl, rfl⟩
  · rw [h]
    clear h
    go_enter Try.func32, Try.ntmps32
    go_wp2
    go_ret
    exact ⟨rfl, rfl⟩
theorem rinitiator_ok (c : Int) (w : World) : Calls Try.prog 17 #[.int .i64 c] w fun e w' => e = .returned (.bool (opnC c)) ∧ w = w' := by
  rcases opn_cases c with ⟨h, hc⟩ | ⟨h, a, b, d⟩
  · rw [h]
    clear h
    rcases hc with rfl | rfl | rfl
    all_goals
      go_enter Try.func17, Try.ntmps17
      go_wp2
      go_ret
      exact ⟨rfl, rfl⟩
  · rw [h]
    clear h
    go_enter Try.func17, Try.ntmps17
    go_wp2
    go_ret
    exact ⟨rfl, rfl⟩
theorem smatches_ok (A : Option Addr) (n c : Nat) (cs : List Int) (w : World) (hn : n = cs.length) (hmax : n ≤ 1000) (h : Has w w.heap.size A (cs.map (Value.int .i64))) :
    Calls Try.prog 27 #[.slice A n c] w fun e w' => ∃ v, e = .returned v ∧ Mine .i64 3 w' w.heap.size v (matL cs) ∧ Below w.heap.size w w' := by
  have HM := Lib.hid (match_ok A n c cs w hn hmax h)
  clear hn h
  go_enter Try.func27, Try.ntmps27
  go_wp2_with (go_at_call 44; (with_reducible refine HM.out.mono ?_); rintro e u ⟨V, rfl, hV, hbu⟩)
  go_ret
  exact ⟨_, rfl, hV, hbu⟩
theorem level_ok (o : Bool) (w : World) : Calls Try.prog 9 #[.bool o] w fun e w' => e = .returned (.int .i64 (if o = true then 1 else 0)) ∧ w = w' := by
  cases o
  all_goals
    go_enter Try.func9, Try.ntmps9
    go_wp2
    go_ret
    exact ⟨rfl, rfl⟩
/-- levels by places, as a list -/
def lvs (f : Nat → Int) (n : Nat) : List Int := (List.range n).map f
theorem lvs_len (f : Nat → Int) (n : Nat) : (lvs f n).length = n := by simp [lvs]
theorem lvs_get (f : Nat → Int) (n i : Nat) (h : i < (lvs f n).length) : (lvs f n)[i] = f i := by simp [lvs]
/-- runs from their first place to behind their last -/
def cutsR (rs : List (List Nat)) : List (Int × Int) := rs.map fun r => ((r.headD 0 : Int), (r.getLastD 0 : Int) + 1)
theorem cutsR_len (rs : List (List Nat)) : (cutsR rs).length = rs.length := by simp [cutsR]
theorem cutsR_get (rs : List (List Nat)) (k : Nat) (h : k < rs.length) : (cutsR rs)[k]? = some ((hdR rs k : Int), (laR rs k : Int) + 1) := by
  unfold cutsR hdR laR
  rw [List.getElem?_map, List.getElem?_eq_getElem h, getD_at h]; rfl
theorem HasN.two {w : World} {B : Nat} {A : Option Addr} {l : List (Int × Int)} (h : HasN LCu w B A l) {i : Nat} {x y : Int} (hi : l[i]? = some (x, y)) :
    ∃ b off, A = some ⟨b, off, none⟩ ∧ b < B ∧ w.cell? ⟨b, off + i * 2, none⟩ = some (.int .i64 x) ∧ w.cell? ⟨b, off + i * 2 + 1, none⟩ = some (.int .i64 y) := by
  obtain ⟨b, off, e, hb, hc⟩ := h (fun e => by subst e; simp at hi)
  exact ⟨b, off, e, hb, hc i _ hi 0 _ rfl, hc i _ hi 1 _ rfl⟩
theorem before_ok (A AC : Option Addr) (n c R cC k d : Nat) (f : Nat → Int) (rs : List (List Nat)) (w : World) (hR : R = rs.length) (hn : n ≤ 1000) (hRn : R ≤ 1000) (hk : k < R) (hla : ∀ j, j < R → laR rs j < n) (h : Has w w.heap.size A ((lvs f n).map (Value.int .i64))) (hC : HasN LCu w w.heap.size AC (cutsR rs)) :
    Calls Try.prog 30 #[.slice A n c, .int .i64 d, .slice AC R cC, .int .i64 k] w fun e w' => e = .returned (.int .i64 (befR f d rs k)) ∧ w = w' := by
  unfold befR
  by_cases h0 : k = 0
  · subst h0
    simp only [if_true]
    clear h hC hla hR
    go_enter Try.func30, Try.ntmps30
    go_wp2
    go_ret
    exact ⟨rfl, rfl⟩
  · obtain ⟨q, rfl⟩ : ∃ q, k = q + 1 := ⟨k - 1, by omega⟩
    rw [if_neg h0, Nat.add_sub_cancel]
    have hq := hla q (by omega)
    obtain ⟨b1, o1, rfl, hb1, hc1, hc2⟩ := hC.two (cutsR_get rs q (by omega))
    obtain ⟨b2, o2, rfl, hb2, hc3⟩ := h.at_int (k := laR rs q) (by rw [lvs_len]; exact hq)
    rw [lvs_get] at hc3
    generalize laR rs q = L at *
    generalize f L = V at *
    clear h hC hla hR hc1
    have e1 : (q : Int) + 1 - 1 = q := by omega
    have e2 : (L : Int) + 1 - 1 = L := by omega
    have h0' : ((q : Int) + 1 == 0) = false := by simp; omega
    go_enter Try.func30, Try.ntmps30
    go_wp2
    go_ret
    exact ⟨rfl, rfl⟩
theorem after_ok (A AC : Option Addr) (n c R cC k d : Nat) (f : Nat → Int) (rs : List (List Nat)) (w : World) (hR : R = rs.length) (hn : n ≤ 1000) (hRn : R ≤ 1000) (hk : k < R) (hhd : ∀ j, j < R → hdR rs j < n) (h : Has w w.heap.size A ((lvs f n).map (Value.int .i64))) (hC : HasN LCu w w.heap.size AC (cutsR rs)) :
    Calls Try.prog 33 #[.slice A n c, .int .i64 d, .slice AC R cC, .int .i64 k] w fun e w' => e = .returned (.int .i64 (aftR f d rs k)) ∧ w = w' := by
  unfold aftR
  rw [← hR]
  by_cases h0 : k + 1 = R
  · have h0' : ((k : Int) == (R : Int) - 1) = true := by simp; omega
    rw [if_pos h0]
    clear h hC hhd hR
    go_enter Try.func33, Try.ntmps33
    go_wp2
    go_ret
    exact ⟨rfl, rfl⟩
  · have h0' : ((k : Int) == (R : Int) - 1) = false := by simp; omega
    rw [if_neg h0]
    have hq := hhd (k + 1) (by omega)
    obtain ⟨b1, o1, rfl, hb1, hc1, hc2⟩ := hC.two (cutsR_get rs (k + 1) (by omega))
    obtain ⟨b2, o2, rfl, hb2, hc3⟩ := h.at_int (k := hdR rs (k + 1)) (by rw [lvs_len]; exact hq)
    rw [lvs_get] at hc3
    generalize hdR rs (k + 1) = L at *
    generalize f L = V at *
    clear h hC hhd hR hc2
    go_enter Try.func33, Try.ntmps33
    go_wp2
    go_ret
    exact ⟨rfl, rfl⟩
end Go.Proofs.Ytjdkpnmejkbkiaa
