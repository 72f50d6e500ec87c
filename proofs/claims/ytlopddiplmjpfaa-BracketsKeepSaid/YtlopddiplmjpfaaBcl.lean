/-
  Contracts of the small functions of brackets: what a class counts as, the direction of a level, the other direction, whether some class counts as a direction (the program's and the document's). Condition: at most 1000 classes.
-/
import Derived.Test.YtlopddiplmjpfaaBrr
import Derived.Test.YtlopddiplmjpfaaGives
import Derived.Test.YtlopddiplmjpfaaBase
import Derived.Shelf.SlSortCmp.QuietGrown
set_option linter.unusedVariables false
set_option linter.unusedSimpArgs false
namespace Go.Proofs.Ytlopddiplmjpfaa
open Go.ChangeShapes Go.WideShapes Go.ChangeAt Go.RowKit Go.Sort

theorem Has.up {w w' : World} {A : Option Addr} {xs : List Value} (h : Has w w.heap.size A xs) (hu : Up w w') : Has w' w'.heap.size A xs := h.carry hu.1

theorem ofClass_ok (c : Int) (w : World) : Calls Try.prog 79 #[.int .i64 c] w fun e w' => e = .returned (.int .i64 (strongB c)) ∧ w = w' := by
  unfold strongB
  by_cases h1 : c = 1
  · subst h1
    go_enter Try.func79, Try.ntmps79
    go_wp2
    go_ret
    exact ⟨rfl, rfl⟩
  by_cases h2 : c = 2
  · subst h2
    go_enter Try.func79, Try.ntmps79
    go_wp2
    go_ret
    exact ⟨rfl, rfl⟩
  by_cases h4 : c = 4
  · subst h4
    go_enter Try.func79, Try.ntmps79
    go_wp2
    go_ret
    exact ⟨rfl, rfl⟩
  by_cases h7 : c = 7
  · subst h7
    go_enter Try.func79, Try.ntmps79
    go_wp2
    go_ret
    exact ⟨rfl, rfl⟩
  rw [if_neg h1, if_neg (by omega)]
  go_enter Try.func79, Try.ntmps79
  go_wp2
  go_ret
  exact ⟨rfl, rfl⟩

theorem strong_ok (c : Int) (w : World) : Calls Try.prog 44 #[.int .i64 c] w fun e w' => e = .returned (.int .i64 (strongB c)) ∧ w = w' := by
  unfold strongB
  by_cases h1 : c = 1
  · subst h1
    go_enter Try.func44, Try.ntmps44
    go_wp2
    go_ret
    exact ⟨rfl, rfl⟩
  by_cases h2 : c = 2
  · subst h2
    go_enter Try.func44, Try.ntmps44
    go_wp2
    go_ret
    exact ⟨rfl, rfl⟩
  by_cases h4 : c = 4
  · subst h4
    go_enter Try.func44, Try.ntmps44
    go_wp2
    go_ret
    exact ⟨rfl, rfl⟩
  by_cases h7 : c = 7
  · subst h7
    go_enter Try.func44, Try.ntmps44
    go_wp2
    go_ret
    exact ⟨rfl, rfl⟩
  rw [if_neg h1, if_neg (by omega)]
  go_enter Try.func44, Try.ntmps44
  go_wp2
  go_ret
  exact ⟨rfl, rfl⟩

/-- the direction of a level -/
def ownB (level : Int) : Int := if level.tmod 2 = 0 then 1 else 2
theorem ownB_or (level : Int) : ownB level = 1 ∨ ownB level = 2 := by
  unfold ownB
  split
  · exact .inl rfl
  · exact .inr rfl
theorem ofLevel_ok (l : Int) (w : World) : Calls Try.prog 28 #[.int .i64 l] w fun e w' => e = .returned (.int .i64 (ownB l)) ∧ w = w' := by
  unfold ownB
  by_cases h1 : l.tmod 2 = 0
  · rw [if_pos h1]
    go_enter Try.func28, Try.ntmps28
    go_wp2
    go_ret
    exact ⟨rfl, rfl⟩
  · rw [if_neg h1]
    go_enter Try.func28, Try.ntmps28
    go_wp2
    go_ret
    exact ⟨rfl, rfl⟩
/-- the other direction -/
def otherB (d : Int) : Int := if d = 1 then 2 else 1
theorem opposite_ok (d : Int) (w : World) : Calls Try.prog 41 #[.int .i64 d] w fun e w' => e = .returned (.int .i64 (otherB d)) ∧ w = w' := by
  unfold otherB
  by_cases h1 : d = 1
  · subst h1
    go_enter Try.func41, Try.ntmps41
    go_wp2
    go_ret
    exact ⟨rfl, rfl⟩
  · rw [if_neg h1]
    go_enter Try.func41, Try.ntmps41
    go_wp2
    go_ret
    exact ⟨rfl, rfl⟩

set_option maxHeartbeats 2000000 in
theorem clo_ok (r k : Int) (g : Nat) (w : World) (hg : g < w.heap.size) (h : w.cell? ⟨g, 0, none⟩ = some (.int .i64 k)) :
    Calls Try.prog 78 #[.int .i64 r, .pointer (some ⟨g, 0, none⟩)] w fun e w' => e = .returned (.bool (strongB r == k)) ∧ Up w w' := by
  have mixed : Try.prog.follows .mixedOrders = true := by kernel_rfl
  have HC := Lib.hid (fun w => ofClass_ok r w)
  generalize strongB r = y at *
  have hl : ∀ n os, (grow (w.drewN n) os).cell? ⟨g, 0, none⟩ = some (.int .i64 k) := fun n os => cell_grown hg h n os
  go_enter Try.func78, Try.ntmps78
  go_wp2
  go_quiet_grown ((go_at_call 79; exact Calls.grown_of ((HC.out _).mono fun _ _ ⟨he, hu⟩ => ⟨he, by subst hu; exact (Up.refl _).grow⟩)))
  go_wp2
  go_ret
  exact ⟨rfl, Up.of_grow _ _ _⟩

theorem any_found (zs : List Int) (p : Int → Bool) (k : Nat) (hk : k < zs.length) (h : p zs[k] = true) : zs.any p = true := List.any_eq_true.2 ⟨zs[k], List.getElem_mem hk, h⟩
theorem any_take (zs : List Int) (p : Int → Bool) (k : Nat) (hk : k < zs.length) (h : p zs[k] = false) (h0 : (zs.take k).any p = false) : (zs.take (k + 1)).any p = false := by
  rw [List.take_add_one, List.getElem?_eq_getElem hk, List.any_append, h0]
  simp [h]

set_option maxHeartbeats 2000000 in
theorem index_ok (A : Option Addr) (c g n : Nat) (kk : Int) (zs : List Int) (w : World) (hzn : n = zs.length) (hn : zs.length ≤ 1000) (h : Has w w.heap.size A (zs.map (Value.int .i64))) (hg : g < w.heap.size) (hk : w.cell? ⟨g, 0, none⟩ = some (.int .i64 kk)) :
    Calls Try.prog 91 #[.slice A n c, .func (.func 78) #[] #[.pointer (some ⟨g, 0, none⟩)]] w fun e w' => (∃ r : Int, e = .returned (.int .i64 r) ∧ decide (0 ≤ r) = zs.any (fun r => strongB r == kk)) ∧ Up w w' := by
  subst hzn
  obtain ⟨p, hp⟩ : ∃ p, (fun r => strongB r == kk) = p := ⟨_, rfl⟩
  rw [hp]
  have HF := Lib.hid (any_found zs p)
  have HT := Lib.hid (any_take zs p)
  have HC := Lib.hid (fun r w hg h => clo_ok r kk g w hg h)
  have HP : Hid (∀ r, (strongB r == kk) = p r) := Lib.hid (fun r => congrFun hp r)
  clear hp
  have HH := Lib.hid (fun (w' : World) (hu : Up w w') => h.up hu)
  have HK := Lib.hid hk
  have HG := Lib.hid hg
  clear h hk
  go_enter Try.func91, Try.ntmps91
  go_wp2
  go_loopw [8] (fun v wr => ∃ k : Nat, k ≤ zs.length ∧ v = .int .i64 k ∧ Hid ((zs.take k).any p = false) ∧ Up w wr) (fun v _ => zs.length - (intOf v).toNat)
  case atStart => exact ⟨0, by omega, rfl, Lib.hid rfl, Up.refl _⟩
  case round =>
    obtain ⟨k, hk, rfl, HA, hU⟩ := hrel
    by_cases hlt : k < zs.length
    · obtain ⟨b, off, rfl, hb, hcc⟩ := (HH.out _ hU).at_int hlt
      have hf := HF.out k hlt
      have ht := HT.out k hlt
      generalize zs[k] = X at hcc hf ht
      have hcx := HC.out X
      rw [HP.out X] at hcx
      have HCX := Lib.hid hcx
      have hs1 := hU.1.size
      have hgr : g < wr.heap.size := by omega
      have hkr := hU.cell HK.out
      clear hcx
      cases hq : p X with
      | true =>
        rw [hq] at HCX
        have HV := Lib.hid (hf hq)
        clear hf ht hq
        go_wp2_with (first | (go_at_call 78; refine (HCX.out _ hgr hkr).mono ?_; rintro e u ⟨rfl, hu⟩; have hU := hU.trans hu))
        go_ret
        exact ⟨⟨k, rfl, by rw [HV.out]; exact decide_eq_true (by omega)⟩, hU⟩
      | false =>
        rw [hq] at HCX
        have HV := Lib.hid (ht hq HA.out)
        clear hf ht hq
        go_wp2_with (first | (go_at_call 78; refine (HCX.out _ hgr hkr).mono ?_; rintro e u ⟨rfl, hu⟩; have hU := hU.trans hu))
        go_roundw
        case rel => exact ⟨k + 1, by omega, by go_num, HV, hU⟩
        case measure => simp [intOf] <;> omega
    · obtain rfl : k = zs.length := by omega
      have hA := HA.out
      rw [List.take_length] at hA
      have HV := Lib.hid hA
      clear hA
      go_wp2
      go_ret
      exact ⟨⟨-1, rfl, by rw [HV.out]; rfl⟩, hU⟩

set_option maxHeartbeats 2000000 in
theorem containsF_ok (A : Option Addr) (c g n : Nat) (kk : Int) (zs : List Int) (w : World) (hzn : n = zs.length) (hn : zs.length ≤ 1000) (h : Has w w.heap.size A (zs.map (Value.int .i64))) (hg : g < w.heap.size) (hk : w.cell? ⟨g, 0, none⟩ = some (.int .i64 kk)) :
    Calls Try.prog 77 #[.slice A n c, .func (.func 78) #[] #[.pointer (some ⟨g, 0, none⟩)]] w fun e w' => e = .returned (.bool (zs.any (fun r => strongB r == kk))) ∧ Up w w' := by
  have HC := Lib.hid (index_ok A c g n kk zs w hzn hn h hg hk)
  clear h hg hk hzn
  go_enter Try.func77, Try.ntmps77
  go_wp2_with (first | (go_at_call 91; (with_reducible refine HC.out.mono ?_); rintro e u ⟨⟨r, rfl, hr⟩, hu⟩))
  go_ret
  exact ⟨by rw [← hr]; rfl, hu⟩

set_option maxHeartbeats 2000000 in
theorem contains_ok (A : Option Addr) (c n : Nat) (kk : Int) (zs : List Int) (w : World) (hzn : n = zs.length) (hn : zs.length ≤ 1000) (h : Has w w.heap.size A (zs.map (Value.int .i64))) :
    Calls Try.prog 42 #[.slice A n c, .int .i64 kk] w fun e w' => e = .returned (.bool (zs.any (fun r => strongB r == kk))) ∧ Up w w' := by
  have hU0 : Up w (w.alloc (.cells #[.int .i64 kk] 3)) := (Up.refl w).alloc _
  have HC := Lib.hid (containsF_ok A c w.heap.size n kk zs _ hzn hn (h.up hU0) (by simp) (push_cell w _ 3 0 _ rfl))
  clear h hzn
  go_enter Try.func42, Try.ntmps42
  go_wp2_with (first | (go_at_call 77; (with_reducible refine HC.out.mono ?_); rintro e u ⟨rfl, hu⟩; have hU := hU0.trans hu))
  go_ret
  exact ⟨rfl, hU⟩
end Go.Proofs.Ytlopddiplmjpfaa
