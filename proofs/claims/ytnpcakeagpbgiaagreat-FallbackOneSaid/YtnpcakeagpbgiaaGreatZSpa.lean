/-
  The program's end, extend; values at positions by the last span, what a call hands back in memory of its own. No condition but bounds on lengths.
-/
import Derived.Test.YtnpcakeagpbgiaaGreatSza
import Derived.Test.YtnpcakeagpbgiaaGreatZOwn
import Derived.Test.YtnpcakeagpbgiaaGreatMinMax
import Derived.Deep.QuietTactic
import Derived.BigQuiet
set_option linter.unusedVariables false
set_option linter.unusedSimpArgs false
namespace Go.Proofs.YtnpcakeagpbgiaaGreat.S5
open Go.ChangeShapes Go.WideShapes Go.ChangeAt Go.RowKit
theorem full3 : (Tryz.prog.info? 3).map (fun i => (i.zero, i.size, i.bytes)) = some (some (.int .i64 0), 1, 8) := by kernel_rfl
def lastVal (l : List Sp) (i : Int) : Int := l.foldl (fun v s => if s.f ≤ i ∧ i < s.t then s.v else v) 0
def vals (l : List Sp) (n : Int) : List Int := (List.range n.toNat).map (fun (i : Nat) => lastVal l i)
theorem lastVal_take (l : List Sp) (k : Nat) (h : k < l.length) (i : Int) : lastVal (l.take (k + 1)) i = if l[k].f ≤ i ∧ i < l[k].t then l[k].v else lastVal (l.take k) i := by
  unfold lastVal
  rw [List.take_add_one, List.getElem?_eq_getElem h, List.foldl_append]
  rfl
theorem vals_succ (l : List Sp) (k : Nat) : vals l ((k + 1 : Nat) : Int) = vals l (k : Nat) ++ [lastVal l k] := by
  unfold vals
  simp [List.range_succ]
theorem length_vals (l : List Sp) (n : Int) : (vals l n).length = n.toNat := by simp [vals]
theorem vals_neg (l : List Sp) (n : Int) (h : n ≤ 0) : vals l n = [] := by
  unfold vals
  rw [show n.toNat = 0 by omega]
  rfl

/-- integers in a slice of the callee's own -/
def MineOf (w w' : World) (e : Ending) (xs : List Int) : Prop := ∃ v, e = .returned v ∧ Mine .i64 3 w' w.heap.size v xs ∧ Below w.heap.size w w'
theorem MineOf.slice {w w' : World} {e : Ending} {xs : List Int} (h : MineOf w w' e xs) : SliceOf .i64 w w' e xs := by
  obtain ⟨v, he, hm, hb⟩ := h
  exact ⟨v, he, hm.sliceV hb⟩
/-- spans in a slice of the callee's own -/
def MineSOf (w w' : World) (e : Ending) (l : List Sp) : Prop := ∃ v, e = .returned v ∧ MineS w' w.heap.size v l ∧ Below w.heap.size w w'
theorem MineSOf.spans {w w' : World} {e : Ending} {l : List Sp} (h : MineSOf w w' e l) : SpansOf w w' e l := by
  obtain ⟨v, he, hm, hb⟩ := h
  exact ⟨v, he, hm.spansV hb⟩
theorem foldl_take {β : Type} (g : β → Sp → β) (b : β) (l : List Sp) (k : Nat) (h : k < l.length) : (l.take (k + 1)).foldl g b = g ((l.take k).foldl g b) l[k] := by
  rw [List.take_add_one, List.getElem?_eq_getElem h, List.foldl_append]
  rfl
set_option maxHeartbeats 1000000 in
theorem end_ok (A : Option Addr) (c n : Nat) (l : List Sp) (w : World) (B : Nat) (hn : n = l.length) (hb : n ≤ 1000000) (h : HasS w B A l) : Calls Tryz.prog 60 #[.slice A n c] w fun e w' => e = .returned (.int .i64 (endS l)) ∧ w = w' := by
  rcases snoc_cases l with rfl | ⟨l', s, rfl⟩
  · subst hn
    rw [endS_nil]
    go_enter Tryz.func60, Tryz.ntmps60
    go_wp2
    go_ret
    exact ⟨rfl, rfl⟩
  · rw [endS_snoc]
    obtain ⟨b, off, rfl, hlt, hc⟩ := h (by simp)
    obtain ⟨h1, h2, h3⟩ := hc l'.length s (endS_get _ _ _ rfl)
    obtain ⟨k, hk⟩ : ∃ k, l'.length = k := ⟨_, rfl⟩
    rw [hk] at h1 h2 h3
    obtain rfl : n = k + 1 := by simp at hn; omega
    clear hn hc h
    go_enter Tryz.func60, Tryz.ntmps60
    go_wp2
    go_ret
    exact ⟨rfl, rfl⟩
set_option maxHeartbeats 2000000 in
/-- extend a slice of the call's own -/
theorem ext_ok (B : Nat) (v : Value) (l : List Sp) (to val : Int) (w : World) (h : MineS w B v l) (hB : B ≤ w.heap.size) (hn : l.length ≤ 100000) :
    Calls Tryz.prog 36 #[v, .int .i64 to, .int .i64 val] w fun e w' => ∃ v', e = .returned v' ∧ MineS w' B v' (ext l to val) ∧ Below B w w' := by
  obtain ⟨A, c, rfl, hc, hF, hH⟩ := h.has
  obtain ⟨n, hn'⟩ : ∃ n, l.length = n := ⟨_, rfl⟩
  rw [hn'] at hn
  rw [hn'] at h hc ⊢
  by_cases hto : to ≤ endS l
  · rw [ext_small _ _ _ hto]
    have HE := Lib.hid h
    clear h
    obtain ⟨E, hE⟩ : ∃ E, endS l = E := ⟨_, rfl⟩
    have hend := fun w1 => end_ok A c n l w1 w.heap.size hn'.symm (by omega)
    rw [hE] at hto hend
    clear hE
    go_enter Tryz.func36, Tryz.ntmps36
    go_wp2_with (go_at_call 60; refine (hend _ hH).mono ?_; rintro e w' ⟨rfl, rfl⟩)
    go_ret
    exact ⟨_, rfl, HE.out, Below.refl _ _⟩
  · rcases snoc_cases l with rfl | ⟨l', s, rfl⟩
    · rw [endS_nil] at hto
      rw [ext_nil _ _ (by omega)]
      obtain rfl : n = 0 := by simpa using hn'.symm
      have HE := Lib.hid h
      clear h
      have hend := fun w1 => end_ok A c 0 [] w1 w.heap.size rfl (by omega)
      rw [endS_nil] at hend
      go_enter Tryz.func36, Tryz.ntmps36
      go_wp2_with (first | (go_at_call 60; refine (hend _ hH).mono ?_; rintro e w' ⟨rfl, rfl⟩) | (at_builtin; (refine wpList_pushS rfl _ _ 24 rfl (.agg #[.int .i64 0, .int .i64 0, .int .i64 0]) Tryz.underlying24 full32 rfl (by omega) B _ [] ⟨0, to, val⟩ w w _ rfl HE.out rfl rfl (Below.refl _ _) hB (by simp) ?_; intro v' w1 hown hbl)))
      go_ret
      exact ⟨_, rfl, hown, hbl⟩
    · rw [endS_snoc] at hto
      obtain ⟨k, hk⟩ : ∃ k, l'.length = k := ⟨_, rfl⟩
      obtain rfl : n = k + 1 := by simp at hn'; omega
      have hend := fun w1 => end_ok A c (k + 1) (l' ++ [s]) w1 w.heap.size hn'.symm (by omega)
      rw [endS_snoc] at hend
      obtain ⟨g, c', hv, _, hg1, hg2, hcell⟩ := h.form (by simp)
      injection hv with hv1 hv2 hv3
      subst hv1; subst hv3
      obtain ⟨h1, h2, h3⟩ := hcell l'.length s (endS_get _ _ _ rfl)
      have hset := fun u => h.setTo (s := s) (l' := l') u
      have hfz : w.frozen? ⟨g, 0 + k * 3 + 1, none⟩ = false := by
        rcases h.2 with ⟨hx, _⟩ | ⟨g', cap, cur, hx, _, hg, _⟩
        · cases hx
        · injection hx with hx1 hx2 hx3
          injection hx1 with hx1
          injection hx1 with hx1
          subst hx1
          exact At.free hg _
      rw [hk] at h1 h2 h3 hset
      have hH' := hH
      clear hcell hn' hF hv2
      by_cases hv : s.v = val
      · rw [ext_snoc _ _ _ _ (by omega), if_pos hv]
        subst hv
        have HE := Lib.hid (hset to)
        clear h hset hH
        obtain ⟨sf, st, sv⟩ := s
        simp only at h1 h2 h3 hto hend HE
        simp only [Nat.zero_add] at h1 h2 h3 hfz HE
        go_enter Tryz.func36, Tryz.ntmps36
        go_wp2_with (go_at_call 60; refine (hend _ hH').mono ?_; rintro e w' ⟨rfl, rfl⟩)
        go_ret
        exact ⟨_, rfl, HE.out, (Below.refl _ _).setCell (p := ⟨g, k * 3 + 1, none⟩) hg1 _⟩
      · rw [ext_snoc _ _ _ _ (by omega), if_neg hv]
        have HE := Lib.hid h
        clear h hset hH
        obtain ⟨sf, st, sv⟩ := s
        simp only at h1 h2 h3 hto hend hv
        simp only [Nat.zero_add] at h1 h2 h3 hfz
        go_enter Tryz.func36, Tryz.ntmps36
        go_wp2_with (first | (go_at_call 60; refine (hend _ hH').mono ?_; rintro e w' ⟨rfl, rfl⟩) | (at_builtin; (refine wpList_pushS rfl _ _ 24 rfl (.agg #[.int .i64 0, .int .i64 0, .int .i64 0]) Tryz.underlying24 full32 rfl (by omega) B _ (l' ++ [⟨sf, st, sv⟩]) ⟨st, to, val⟩ w w _ rfl HE.out rfl rfl (Below.refl _ _) hB (by simp; omega) ?_; intro v' w1 hown hbl)))
        go_ret
        rw [List.append_assoc] at hown
        exact ⟨_, rfl, hown, hbl⟩
end Go.Proofs.YtnpcakeagpbgiaaGreat.S5
