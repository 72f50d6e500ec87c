/-
  Contracts: the places of a run that are kept, appended to a slice of the call's own (the program); all that are kept, and the level beside a place (the document). Condition: at most 1000 classes.
-/
import Derived.Test.YtjdkpnmejkbkiaaSqs
import Derived.Test.YtjdkpnmejkbkiaaXsg
set_option linter.unusedVariables false
set_option linter.unusedSimpArgs false
namespace Go.Proofs.Ytjdkpnmejkbkiaa
open Go.ChangeShapes Go.WideShapes Go.ChangeAt Go.RowKit Go.Sort

/-- the places from x to y that are kept -/
def keptF (cs : List Int) (x y : Nat) : List Nat := (keptL cs y).filter fun i => decide (x ≤ i)
theorem keptF_zero (cs : List Int) (x : Nat) : keptF cs x x = [] := by
  unfold keptF
  rw [List.filter_eq_nil_iff]
  intro a ha
  have := ((kept_mem cs x a).1 ha).1
  simp; omega
theorem keptF_no (cs : List Int) (x y : Nat) (h : remC (cs.getD y 0) = true) : keptF cs x (y + 1) = keptF cs x y := by
  unfold keptF; rw [kept_succ, if_pos h]
theorem keptF_yes (cs : List Int) (x y : Nat) (hx : x ≤ y) (h : remC (cs.getD y 0) = false) : keptF cs x (y + 1) = keptF cs x y ++ [y] := by
  unfold keptF; rw [kept_succ, if_neg (by rw [h]; decide), List.filter_append]
  simp [hx]
theorem keptL_len (cs : List Int) (y : Nat) : (keptL cs y).length ≤ y := by
  unfold keptL
  have := List.length_filter_le (fun i => !remC (cs.getD i 0)) (List.range y)
  rwa [List.length_range] at this
theorem keptF_len (cs : List Int) (x y : Nat) : (keptF cs x y).length ≤ y := by
  unfold keptF
  exact Nat.le_trans (List.length_filter_le _ _) (keptL_len cs y)
theorem sorted_eq : ∀ (l m : List Nat), l.Pairwise (· < ·) → m.Pairwise (· < ·) → (∀ x, x ∈ l ↔ x ∈ m) → l = m
  | [], [], _, _, _ => rfl
  | [], b :: m, _, _, h => by have := (h b).2 (by simp); cases this
  | a :: l, [], _, _, h => by have := (h a).1 (by simp); cases this
  | a :: l, b :: m, hl, hm, h => by
    rw [List.pairwise_cons] at hl hm
    have e : a = b := by
      have h1 := (h a).1 (by simp)
      have h2 := (h b).2 (by simp)
      rw [List.mem_cons] at h1 h2
      rcases h1 with h1 | h1
      · exact h1
      · rcases h2 with h2 | h2
        · exact h2.symm
        · have := hm.1 a h1; have := hl.1 b h2; omega
    subst e
    rw [sorted_eq l m hl.2 hm.2 fun x => ?_]
    have hx := h x
    rw [List.mem_cons, List.mem_cons] at hx
    refine ⟨fun k => ?_, fun k => ?_⟩
    · rcases hx.1 (.inr k) with e | k2
      · have := hl.1 x k; omega
      · exact k2
    · rcases hx.2 (.inr k) with e | k2
      · have := hm.1 x k; omega
      · exact k2
/-- a run is what is kept from its first place to its last -/
theorem run_kept {b : Nat} {cs : List Int} {k : Nat} (hk : k < (rsL b cs).length) : keptF cs (hdR (rsL b cs) k) (laR (rsL b cs) k + 1) = (rsL b cs).getD k [] := by
  have H := rs_x b cs
  refine sorted_eq _ _ (List.Pairwise.filter _ (kept_sorted _ _)) (H.sort k) fun x => ?_
  unfold keptF
  rw [List.mem_filter, kept_mem]
  refine ⟨fun ⟨⟨h1, h2⟩, h3⟩ => ?_, fun h => ?_⟩
  · have h3' : hdR (rsL b cs) k ≤ x := by simpa using h3
    have hla := la_lt (b := b) (cs := cs) hk
    obtain ⟨k2, hk2⟩ := run_of b cs (x := x) (by omega) h2
    rcases Nat.lt_trichotomy k2 k with h | h | h
    · have := H.up k2 k x _ hk2 (head_in H hk) h; omega
    · subst h; exact hk2
    · have := H.up k k2 _ x (last_in H hk) hk2 h; omega
  · have h1 := H.into k x h
    have h2 := in_kept h
    exact ⟨⟨by unfold laR; omega, h2.2⟩, decide_eq_true h1.1⟩

set_option maxRecDepth 20000 in
set_option maxHeartbeats 4000000 in
theorem appendKept_ok (B : Nat) (v : Value) (xs : List Nat) (A : Option Addr) (n c x y : Nat) (cs : List Int) (w : World) (hn : n = cs.length) (hmax : n ≤ 1000) (hxy : x ≤ y) (hy : y ≤ n) (hl : xs.length ≤ 1000) (hB : B ≤ w.heap.size)
    (hown : Mine .i64 3 w B v (ints xs)) (h : Has w B A (cs.map (Value.int .i64))) :
    Calls Try.prog 31 #[v, .slice A n c, .agg #[.int .i64 (x : Int), .int .i64 (y : Int)]] w fun e w' => ∃ v', e = .returned v' ∧ Mine .i64 3 w' B v' (ints (xs ++ keptF cs x y)) ∧ Below B w w' ∧ FarV w w' v v' := by
  have HN := Lib.hid hn
  have HH := Lib.hid (fun (W : World) (hb : Below B w W) => h.below hb)
  have HREM := Lib.hid (fun (c : Int) (w : World) => removed_ok c w)
  have HU : Hid (∀ u, w.alloc (.cells #[.int .i64 (x : Int), .int .i64 (y : Int)] 41) = u → At u w.heap.size 41 #[.int .i64 (x : Int), .int .i64 (y : Int)] ∧ Below B w u ∧ FarV w u v v ∧ Mine .i64 3 u B v (ints xs) ∧ w.heap.size < u.heap.size ∧ v.ownBlock ≠ some w.heap.size) := Lib.hid fun u hu => by
    subst hu
    exact ⟨at_new _ _ _, (Below.refl _ _).alloc hB _, FarV.up ((Below.refl _ _).alloc (Nat.le_refl _) _), hown.alloc _, by simp, fun e => by have := (hown.own_lt _ e).2; omega⟩
  clear hn h hown
  go_enter Try.func31, Try.ntmps31
  go_wp2
  obtain ⟨u, hu⟩ : ∃ u, w.alloc (.cells #[.int .i64 (x : Int), .int .i64 (y : Int)] 41) = u := ⟨_, rfl⟩
  obtain ⟨hat, hbu, hfu, hown, hsz, hvb⟩ := HU.out u hu
  simp only [hu]
  clear HU hu
  have HAT := Lib.hid hat
  have HFU := Lib.hid hfu
  go_loopw [0, 7] (fun v0 v7 wr => ∃ k : Nat, x ≤ k ∧ k ≤ y ∧ v7 = .int .i64 k ∧ Hid (Mine .i64 3 wr B v0 (ints (xs ++ keptF cs x k)) ∧ Below B w wr ∧ FarV u wr v v0 ∧ u.heap.size ≤ wr.heap.size)) (fun _ v7 _ => y - (intOf v7).toNat)
  case atStart => exact ⟨x, Nat.le_refl _, hxy, rfl, Lib.hid ⟨by rw [keptF_zero, List.append_nil]; exact hown, hbu, FarV.refl _ _, Nat.le_refl _⟩⟩
  case round =>
    clear hown hbu hat hfu
    obtain ⟨k, hk0, hky, rfl, HS⟩ := hrel
    obtain ⟨h1, h2, h3, h4⟩ := HS.out
    have hA : At wr w.heap.size 41 #[.int .i64 (x : Int), .int .i64 (y : Int)] := by
      unfold At; rw [(h3 _ hsz hvb).2]; exact HAT.out
    have c1 : wr.cell? ⟨w.heap.size, 1, none⟩ = some (.int .i64 (y : Int)) := hA.cell 1 _ rfl
    clear HS hA
    by_cases hlt : k < y
    · have hlt1 : k < cs.length := by have := HN.out; omega
      obtain ⟨b1, o1, rfl, hb1, hcc⟩ := (HH.out _ h2).at_int hlt1
      have hg := getD_get cs k hlt1
      generalize cs[k] = X at *
      cases hr : remC X with
      | true =>
        have HR2 : Hid (∀ w, Calls Try.prog 38 #[.int .i64 X] w fun e w' => e = .returned (.bool true) ∧ w = w') := Lib.hid fun w => by have := HREM.out X w; rwa [hr] at this
        have HS2 : Hid (Mine .i64 3 wr B u0 (ints (xs ++ keptF cs x (k + 1))) ∧ Below B w wr ∧ FarV u wr v u0 ∧ u.heap.size ≤ wr.heap.size) := Lib.hid ⟨by rw [keptF_no cs x k (by rw [hg]; exact hr)]; exact h1, h2, h3, h4⟩
        clear hr hg h1 h2 h3
        go_wp2_with (go_at_call 38; refine (HR2.out _).mono ?_; rintro e z ⟨rfl, rfl⟩)
        go_roundw
        case rel => exact ⟨k + 1, by omega, by omega, by go_num, HS2⟩
        case measure => simp [intOf] <;> omega
      | false =>
        have HR2 : Hid (∀ w, Calls Try.prog 38 #[.int .i64 X] w fun e w' => e = .returned (.bool false) ∧ w = w') := Lib.hid fun w => by have := HREM.out X w; rwa [hr] at this
        have hlen : (ints (xs ++ keptF cs x k)).length ≤ 1000000000 := by rw [ints_len, List.length_append]; have := keptF_len cs x k; omega
        have HS2 : Hid (∀ v' w', Mine .i64 3 w' B v' (ints (xs ++ keptF cs x k) ++ [(k : Int)]) → Below B wr w' → FarV wr w' u0 v' → Mine .i64 3 w' B v' (ints (xs ++ keptF cs x (k + 1))) ∧ Below B w w' ∧ FarV u w' v v' ∧ u.heap.size ≤ w'.heap.size) := Lib.hid fun v' w' g1 g2 g3 => ⟨by rw [keptF_yes cs x k hk0 (by rw [hg]; exact hr), ← List.append_assoc, ints_snoc]; exact g1, h2.trans g2, h3.trans h4 g3, Nat.le_trans h4 g2.size⟩
        have hBw : B ≤ wr.heap.size := by have := h2.size; omega
        clear hr hg h2 h3
        go_wp2_with (first
          | (go_at_call 38; refine (HR2.out _).mono ?_; rintro e z ⟨rfl, rfl⟩)
          | (at_builtin; (refine wpList_push_far (k := .i64) (bytes := 8) rfl _ _ 22 rfl Try.underlying22 fullI (by decide) B u0 (ints (xs ++ keptF cs x k)) (k : Int) _ h1 rfl rfl hBw hlen ?_; intro v' w3 hM4 hb4 hfar)))
        go_roundw
        case rel => exact ⟨k + 1, by omega, by omega, by go_num, Lib.hid (HS2.out _ _ hM4 hb4 hfar)⟩
        case measure => simp [intOf] <;> omega
    · obtain rfl : k = y := by omega
      have hw := Nat.le_of_lt hsz
      go_wp2
      go_ret
      exact ⟨_, rfl, h1, h2, HFU.out.trans hw h3⟩
end Go.Proofs.Ytjdkpnmejkbkiaa
