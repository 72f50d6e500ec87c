/-
  Contracts of the document's: the places that are kept, the level beside a run, the runs as lists of places, the run that has a place; and the mathematics of what is returned: each kept place once, rising, of one level; a sequence followed run by run, and what lies in memory while one is followed. Condition: at most 1000 classes.
-/
import Derived.Test.YtjdkpnmejkbkiaaSqo
import Derived.Deep.AppendLies
import Derived.Deep.RegionLaw
set_option linter.unusedVariables false
set_option linter.unusedSimpArgs false
namespace Go.Proofs.Ytjdkpnmejkbkiaa
open Go.ChangeShapes Go.WideShapes Go.ChangeAt Go.RowKit Go.Sort

set_option maxHeartbeats 2000000 in
theorem kept_ok (A : Option Addr) (n c : Nat) (cs : List Int) (w : World) (hn : n = cs.length) (hmax : n ≤ 1000) (h : Has w w.heap.size A (cs.map (Value.int .i64))) :
    Calls Try.prog 46 #[.slice A n c] w fun e w' => ∃ v, e = .returned v ∧ Mine .i64 3 w' w.heap.size v (ints (keptL cs n)) ∧ Below w.heap.size w w' := by
  have HN := Lib.hid hn
  have HH := Lib.hid (fun (W : World) (hb : Below w.heap.size w W) => h.below hb)
  have HREM := Lib.hid (fun (c : Int) (w : World) => rremoved_ok c w)
  clear hn h
  go_enter Try.func46, Try.ntmps46
  go_wp2
  go_loopw [3, 4] (fun v3 v4 wr => ∃ k : Nat, k ≤ n ∧ v4 = .int .i64 k ∧ Hid (Mine .i64 3 wr w.heap.size v3 (ints (keptL cs k)) ∧ Below w.heap.size w wr)) (fun _ v4 _ => n - (intOf v4).toNat)
  case atStart => exact ⟨0, by omega, rfl, Lib.hid ⟨Mine.nil_ _ _ _ _, Below.refl _ _⟩⟩
  case round =>
    obtain ⟨k, hk, rfl, HS⟩ := hrel
    obtain ⟨h1, h2⟩ := HS.out
    clear HS
    by_cases hlt : k < n
    · have hlt1 : k < cs.length := by have := HN.out; omega
      obtain ⟨b1, o1, rfl, hb1, hcc⟩ := (HH.out _ h2).at_int hlt1
      have hg := getD_get cs k hlt1
      generalize cs[k] = X at *
      cases hr : remC X with
      | true =>
        have HR2 : Hid (∀ w, Calls Try.prog 16 #[.int .i64 X] w fun e w' => e = .returned (.bool true) ∧ w = w') := Lib.hid fun w => by have := HREM.out X w; rwa [hr] at this
        have HS2 : Hid (Mine .i64 3 wr w.heap.size u3 (ints (keptL cs (k + 1))) ∧ Below w.heap.size w wr) := Lib.hid ⟨by rw [kept_succ, if_pos (by rw [hg]; exact hr)]; exact h1, h2⟩
        clear hr hg h1 h2
        go_wp2_with (go_at_call 16; refine (HR2.out _).mono ?_; rintro e z ⟨rfl, rfl⟩)
        go_roundw
        case rel => exact ⟨k + 1, by omega, by go_num, HS2⟩
        case measure => simp [intOf] <;> omega
      | false =>
        have HR2 : Hid (∀ w, Calls Try.prog 16 #[.int .i64 X] w fun e w' => e = .returned (.bool false) ∧ w = w') := Lib.hid fun w => by have := HREM.out X w; rwa [hr] at this
        have hlen : (ints (keptL cs k)).length ≤ 1000000000 := by rw [ints_len]; have := keptL_len cs k; omega
        have HS2 : Hid (∀ v' w', Mine .i64 3 w' w.heap.size v' (ints (keptL cs k) ++ [(k : Int)]) → Below w.heap.size wr w' → Mine .i64 3 w' w.heap.size v' (ints (keptL cs (k + 1))) ∧ Below w.heap.size w w') := Lib.hid fun v' w' g1 g2 => ⟨by rw [kept_succ, if_neg (by rw [hg, hr]; decide), ints_snoc]; exact g1, h2.trans g2⟩
        have hBw : w.heap.size ≤ wr.heap.size := h2.size
        clear hr hg h2
        go_wp2_with (first
          | (go_at_call 16; refine (HR2.out _).mono ?_; rintro e z ⟨rfl, rfl⟩)
          | (at_builtin; (refine wpList_push_far (k := .i64) (bytes := 8) rfl _ _ 22 rfl Try.underlying22 fullI (by decide) w.heap.size u3 (ints (keptL cs k)) (k : Int) _ h1 rfl rfl hBw hlen ?_; intro v' w3 hM4 hb4 hfar)))
        go_roundw
        case rel => exact ⟨k + 1, by omega, by go_num, Lib.hid (HS2.out _ _ hM4 hb4)⟩
        case measure => simp [intOf] <;> omega
    · obtain rfl : k = n := by omega
      go_wp2
      go_ret
      exact ⟨_, rfl, h1, h2⟩

section
variable {b : Nat} {cs : List Int} {k : Nat}
theorem bef_at (hk : k < (rsL b cs).length) (d : Int) {q : Nat} (hq : q < hdR (rsL b cs) k) (hr : remC (cs.getD q 0) = false) (hall : ∀ j, q < j → j < hdR (rsL b cs) k → remC (cs.getD j 0) = true) : befR (lvF b cs) d (rsL b cs) k = lvF b cs q := by
  have H := rs_x b cs
  have hhd := head_in H hk
  have hlt := hd_lt (b := b) (cs := cs) hk
  obtain ⟨k', hk'⟩ := run_of b cs (x := q) (by omega) hr
  have hkk : k' < k := by
    rcases Nat.lt_trichotomy k' k with h | h | h
    · exact h
    · subst h
      have := (H.into k' q hk').1
      unfold hdR at hq
      omega
    · have := H.up k k' _ q hhd hk' h; omega
  obtain ⟨p, rfl⟩ : ∃ p, k = p + 1 := ⟨k - 1, by omega⟩
  have hla := last_in H (k := p) (by omega)
  have hlk := in_kept hla
  have hlh := H.up p (p + 1) _ _ hla hhd (Nat.lt_succ_self p)
  have hle : q ≤ laR (rsL b cs) p := by
    rcases Nat.lt_or_ge k' p with h | h
    · exact Nat.le_of_lt (H.up k' p q _ hk' hla h)
    · obtain rfl : k' = p := by omega
      exact (H.into k' q hk').2
  unfold befR
  rw [if_neg (by omega), Nat.add_sub_cancel]
  rcases Nat.lt_or_ge q (laR (rsL b cs) p) with h | h
  · have := hall _ h hlh
    rw [hlk.2] at this; cases this
  · rw [show laR (rsL b cs) p = q by omega]
theorem bef_none (hk : k < (rsL b cs).length) (d : Int) (hall : ∀ j, j < hdR (rsL b cs) k → remC (cs.getD j 0) = true) : befR (lvF b cs) d (rsL b cs) k = d := by
  have H := rs_x b cs
  unfold befR
  split
  · rfl
  · rename_i h
    obtain ⟨p, rfl⟩ : ∃ p, k = p + 1 := ⟨k - 1, by omega⟩
    have hla := last_in H (k := p) (by omega)
    have := hall _ (H.up p (p + 1) _ _ hla (head_in H hk) (Nat.lt_succ_self p))
    have h2 := (in_kept hla).2
    have h3 : remC (cs.getD (laR (rsL b cs) p) 0) = false := h2
    rw [h3] at this; cases this
theorem aft_at (hk : k < (rsL b cs).length) (d : Int) {q : Nat} (hq : laR (rsL b cs) k < q) (hqn : q < cs.length) (hr : remC (cs.getD q 0) = false) (hall : ∀ j, laR (rsL b cs) k < j → j < q → remC (cs.getD j 0) = true) : aftR (lvF b cs) d (rsL b cs) k = lvF b cs q := by
  have H := rs_x b cs
  have hla := last_in H hk
  obtain ⟨k', hk'⟩ := run_of b cs (x := q) hqn hr
  have hkk : k < k' := by
    rcases Nat.lt_trichotomy k k' with h | h | h
    · exact h
    · subst h
      have := (H.into k q hk').2
      unfold laR at hq
      omega
    · have := H.up k' k q _ hk' hla h; omega
  have hk2 := getD_out hk'
  have hhd := head_in H (k := k + 1) (by omega)
  have hhk := in_kept hhd
  have hlh := H.up k (k + 1) _ _ hla hhd (Nat.lt_succ_self k)
  have hle : hdR (rsL b cs) (k + 1) ≤ q := by
    rcases Nat.lt_or_ge (k + 1) k' with h | h
    · exact Nat.le_of_lt (H.up (k + 1) k' _ q hhd hk' h)
    · obtain rfl : k' = k + 1 := by omega
      exact (H.into (k + 1) q hk').1
  unfold aftR
  rw [if_neg (by omega)]
  rcases Nat.lt_or_ge (hdR (rsL b cs) (k + 1)) q with h | h
  · have := hall _ hlh h
    rw [hhk.2] at this; cases this
  · rw [show hdR (rsL b cs) (k + 1) = q by omega]
theorem aft_none (hk : k < (rsL b cs).length) (d : Int) (hall : ∀ j, laR (rsL b cs) k < j → j < cs.length → remC (cs.getD j 0) = true) : aftR (lvF b cs) d (rsL b cs) k = d := by
  have H := rs_x b cs
  unfold aftR
  split
  · rfl
  · rename_i h
    have hhd := head_in H (k := k + 1) (by omega)
    have hhk := in_kept hhd
    have := hall _ (H.up k (k + 1) _ _ (last_in H hk) hhd (Nat.lt_succ_self k)) hhk.1
    rw [hhk.2] at this; cases this
end

set_option maxHeartbeats 2000000 in
theorem beside_bef (A AL : Option Addr) (n c cL b k : Nat) (cs : List Int) (w : World) (hn : n = cs.length) (hmax : n ≤ 1000) (hk : k < (rsL b cs).length) (h : Has w w.heap.size A (cs.map (Value.int .i64))) (hL : Has w w.heap.size AL ((lvs (lvF b cs) n).map (Value.int .i64))) :
    Calls Try.prog 37 #[.slice A n c, .slice AL n cL, .int .i64 (hdR (rsL b cs) k : Int), .int .i64 (-1), .int .i64 (b : Int)] w fun e w' => e = .returned (.int .i64 (befR (lvF b cs) b (rsL b cs) k)) ∧ w = w' := by
  have HN := Lib.hid hn
  have HH := Lib.hid h
  have HHL := Lib.hid hL
  have HREM := Lib.hid (fun (c : Int) (w : World) => rremoved_ok c w)
  have HAT := Lib.hid (fun (q : Nat) hq hr hall => bef_at (b := b) (cs := cs) hk (b : Int) (q := q) hq hr hall)
  have HNO := Lib.hid (bef_none (b := b) (cs := cs) hk (b : Int))
  have hhd : hdR (rsL b cs) k < n := by rw [hn]; exact hd_lt hk
  generalize hdR (rsL b cs) k = hd at *
  generalize befR (lvF b cs) b (rsL b cs) k = RES at *
  clear hn h hL hk
  go_enter Try.func37, Try.ntmps37
  go_wp2
  go_loopw [11] (fun v11 wr => ∃ i : Nat, i ≤ hd ∧ v11 = .int .i64 ((i : Int) - 1) ∧ wr = w ∧ Hid (∀ j, i ≤ j → j < hd → remC (cs.getD j 0) = true)) (fun v11 _ => (intOf v11 + 1).toNat)
  case atStart => exact ⟨hd, Nat.le_refl _, by go_num, rfl, Lib.hid fun j h1 h2 => by omega⟩
  case round =>
    obtain ⟨i, hi, rfl, rfl, HS⟩ := hrel
    by_cases h0 : i = 0
    · subst h0
      have hres := HNO.out fun j hj => HS.out j (Nat.zero_le _) hj
      subst hres
      have e1 : ((0 : Nat) : Int) - 1 = -1 := rfl
      rw [e1]
      go_wp2
      go_ret
      exact ⟨rfl, rfl⟩
    · obtain ⟨q, rfl⟩ : ∃ q, i = q + 1 := ⟨i - 1, by omega⟩
      have e1 : ((q + 1 : Nat) : Int) - 1 = q := by omega
      rw [e1]
      have hq1 : q < cs.length := by have := HN.out; omega
      have hqn : q < n := by omega
      obtain ⟨b1, o1, rfl, hb1, hc⟩ := HH.out.at_int hq1
      rw [← getD_get] at hc
      obtain ⟨b2, o2, rfl, hb2, hl⟩ := HHL.out.at_int (k := q) (by rw [lvs_len]; exact hqn)
      rw [lvs_get] at hl
      have hd1 : decide ((0 : Int) ≤ (q : Int)) = true := decide_eq_true (by omega)
      cases hr : remC (cs.getD q 0) with
      | true =>
        have HS2 : Hid (∀ j, q ≤ j → j < hd → remC (cs.getD j 0) = true) := Lib.hid fun j h1 h2 => by
          by_cases e : j = q
          · subst e; exact hr
          · exact HS.out j (by omega) h2
        have HR2 : Hid (∀ w, Calls Try.prog 16 #[.int .i64 (cs.getD q 0)] w fun e w' => e = .returned (.bool true) ∧ w = w') := Lib.hid fun w => by have := HREM.out (cs.getD q 0) w; rwa [hr] at this
        generalize cs.getD q 0 = X at *
        clear hr HS HAT HNO
        go_wp2_with (go_at_call 16; refine (HR2.out _).mono ?_; rintro e z ⟨rfl, rfl⟩)
        go_roundw
        case rel => exact ⟨q, by omega, by go_num, trivial, HS2⟩
        case measure => simp [intOf] <;> omega
      | false =>
        have hres := HAT.out q (by omega) hr fun j h1 h2 => HS.out j (by omega) h2
        have HR2 : Hid (∀ w, Calls Try.prog 16 #[.int .i64 (cs.getD q 0)] w fun e w' => e = .returned (.bool false) ∧ w = w') := Lib.hid fun w => by have := HREM.out (cs.getD q 0) w; rwa [hr] at this
        rw [← hres] at hl
        generalize cs.getD q 0 = X at *
        clear hr HS HAT HNO hres
        go_wp2_with (go_at_call 16; refine (HR2.out _).mono ?_; rintro e z ⟨rfl, rfl⟩)
        go_ret
        exact ⟨rfl, rfl⟩

set_option maxHeartbeats 2000000 in
theorem beside_aft (A AL : Option Addr) (n c cL b k : Nat) (cs : List Int) (w : World) (hn : n = cs.length) (hmax : n ≤ 1000) (hk : k < (rsL b cs).length) (h : Has w w.heap.size A (cs.map (Value.int .i64))) (hL : Has w w.heap.size AL ((lvs (lvF b cs) n).map (Value.int .i64))) :
    Calls Try.prog 37 #[.slice A n c, .slice AL n cL, .int .i64 (laR (rsL b cs) k : Int), .int .i64 1, .int .i64 (b : Int)] w fun e w' => e = .returned (.int .i64 (aftR (lvF b cs) b (rsL b cs) k)) ∧ w = w' := by
  have HN := Lib.hid hn
  have HH := Lib.hid h
  have HHL := Lib.hid hL
  have HREM := Lib.hid (fun (c : Int) (w : World) => rremoved_ok c w)
  have HAT := Lib.hid (fun (q : Nat) hq hqn hr hall => aft_at (b := b) (cs := cs) hk (b : Int) (q := q) hq hqn hr hall)
  have HNO := Lib.hid (aft_none (b := b) (cs := cs) hk (b : Int))
  have hla : laR (rsL b cs) k < n := by rw [hn]; exact la_lt hk
  generalize laR (rsL b cs) k = la at *
  generalize aftR (lvF b cs) b (rsL b cs) k = RES at *
  clear hn h hL hk
  go_enter Try.func37, Try.ntmps37
  go_wp2
  go_loopw [11] (fun v11 wr => ∃ i : Nat, la < i ∧ i ≤ n ∧ v11 = .int .i64 (i : Int) ∧ wr = w ∧ Hid (∀ j, la < j → j < i → remC (cs.getD j 0) = true)) (fun v11 _ => n - (intOf v11).toNat)
  case atStart => exact ⟨la + 1, by omega, by omega, by go_num, rfl, Lib.hid fun j h1 h2 => by omega⟩
  case round =>
    obtain ⟨q, hi0, hi, rfl, rfl, HS⟩ := hrel
    have hd1 : decide ((0 : Int) ≤ (q : Int)) = true := decide_eq_true (by omega)
    by_cases h0 : q = n
    · subst h0
      have hres := HNO.out fun j h1 h2 => HS.out j h1 (by have := HN.out; omega)
      subst hres
      go_wp2
      go_ret
      exact ⟨rfl, rfl⟩
    · have hqn : q < n := by omega
      have hq1 : q < cs.length := by have := HN.out; omega
      obtain ⟨b1, o1, rfl, hb1, hc⟩ := HH.out.at_int hq1
      rw [← getD_get] at hc
      obtain ⟨b2, o2, rfl, hb2, hl⟩ := HHL.out.at_int (k := q) (by rw [lvs_len]; exact hqn)
      rw [lvs_get] at hl
      cases hr : remC (cs.getD q 0) with
      | true =>
        have HS2 : Hid (∀ j, la < j → j < q + 1 → remC (cs.getD j 0) = true) := Lib.hid fun j h1 h2 => by
          by_cases e : j = q
          · subst e; exact hr
          · exact HS.out j h1 (by omega)
        have HR2 : Hid (∀ w, Calls Try.prog 16 #[.int .i64 (cs.getD q 0)] w fun e w' => e = .returned (.bool true) ∧ w = w') := Lib.hid fun w => by have := HREM.out (cs.getD q 0) w; rwa [hr] at this
        generalize cs.getD q 0 = X at *
        clear hr HS HAT HNO
        go_wp2_with (go_at_call 16; refine (HR2.out _).mono ?_; rintro e z ⟨rfl, rfl⟩)
        go_roundw
        case rel => exact ⟨q + 1, by omega, by omega, by go_num, trivial, HS2⟩
        case measure => simp [intOf] <;> omega
      | false =>
        have hres := HAT.out q (by omega) hq1 hr fun j h1 h2 => HS.out j h1 h2
        have HR2 : Hid (∀ w, Calls Try.prog 16 #[.int .i64 (cs.getD q 0)] w fun e w' => e = .returned (.bool false) ∧ w = w') := Lib.hid fun w => by have := HREM.out (cs.getD q 0) w; rwa [hr] at this
        rw [← hres] at hl
        generalize cs.getD q 0 = X at *
        clear hr HS HAT HNO hres
        go_wp2_with (go_at_call 16; refine (HR2.out _).mono ?_; rintro e z ⟨rfl, rfl⟩)
        go_ret
        exact ⟨rfl, rfl⟩
theorem seq_rise (b : Nat) (cs : List Int) {i : Nat} {x : Sq} (hi : (seqL b cs)[i]? = some x) : x.pl.Pairwise (· < ·) ∧ x.pl ≠ [] ∧ (∀ p ∈ x.pl, p < cs.length ∧ lvF b cs p = x.lv) := by
  unfold seqL seqN at hi
  rw [List.getElem?_map, Option.map_eq_some_iff] at hi
  obtain ⟨c, hc, rfl⟩ := hi
  obtain ⟨h1, h2, h3⟩ := sq_rise b cs c (List.mem_of_getElem? hc)
  refine ⟨h1, h3, fun p hp => ⟨?_, h2 p hp⟩⟩
  have hp' : p ∈ atS (rsL b cs) c := hp
  unfold atS at hp'
  obtain ⟨k, _, hp'⟩ := List.mem_flatMap.1 hp'
  exact (in_kept hp').1
theorem seq_perm (b : Nat) (cs : List Int) : ((seqL b cs).flatMap Sq.pl).Perm (keptL cs cs.length) := by
  have h := sq_perm b cs
  unfold seqL seqN
  rw [List.flatMap_def, List.map_map]
  exact h
theorem seq_few (b : Nat) (cs : List Int) : (seqL b cs).length ≤ cs.length := by
  have h1 := (seq_perm b cs).length_eq
  have h2 := keptL_len cs cs.length
  have key : ∀ l : List Sq, (∀ x ∈ l, x.pl ≠ []) → l.length ≤ (l.flatMap Sq.pl).length := fun l => by
    induction l with
    | nil => intro _; simp
    | cons x l ih =>
      intro h
      have := ih fun y hy => h y (by simp [hy])
      have h3 := h x (by simp)
      have : 0 < x.pl.length := List.length_pos_iff.2 h3
      rw [List.flatMap_cons, List.length_append, List.length_cons]
      omega
  have := key (seqL b cs) fun x hx => by
    obtain ⟨i, hi, rfl⟩ := List.getElem_of_mem hx
    exact (seq_rise b cs (List.getElem?_eq_getElem hi)).2.1
  omega
theorem plain_pl (b : Nat) (cs : List Int) (h : ∀ x, x < cs.length → cs.getD x 0 ≠ 23) : (seqL b cs).map Sq.pl = rsL b cs := by
  have := sq_plain b cs h
  unfold seqL seqN
  rw [List.map_map]
  exact this
theorem plain_len (b : Nat) (cs : List Int) (h : ∀ x, x < cs.length → cs.getD x 0 ≠ 23) : (seqL b cs).length = (rsL b cs).length := by
  rw [← plain_pl b cs h, List.length_map]
theorem plain_at (b : Nat) (cs : List Int) (h : ∀ x, x < cs.length → cs.getD x 0 ≠ 23) {i : Nat} (hi : i < (rsL b cs).length) : ∃ x, (seqL b cs)[i]? = some x ∧ x.pl = (rsL b cs).getD i [] := by
  have h1 : i < (seqL b cs).length := by rw [plain_len b cs h]; exact hi
  refine ⟨(seqL b cs)[i], List.getElem?_eq_getElem h1, ?_⟩
  rw [List.getD_eq_getElem?_getD, ← plain_pl b cs h, List.getElem?_map, List.getElem?_eq_getElem h1]; rfl
theorem ints_head (l : List Nat) (h : 0 < (ints l).length) : (ints l)[0] = ((l.headD 0 : Nat) : Int) := by
  cases l with
  | nil => simp [ints] at h
  | cons a l => rfl
theorem ints_last (l : List Nat) (p : Nat) (hl : l.length = p + 1) (h : p < (ints l).length) : (ints l)[p] = ((l.getLastD 0 : Nat) : Int) := by
  have hne : l ≠ [] := fun e => by subst e; simp at hl
  obtain ⟨u, y, rfl⟩ : ∃ u y, l = u ++ [y] := ⟨_, _, (List.dropLast_concat_getLast hne).symm⟩
  have hu : u.length = p := by simp at hl; exact hl
  subst hu
  simp [ints]
/-- how often each place stands in a list -/
def cntP (T : List Nat) (n : Nat) : List Int := (List.range n).map fun p => ((T.count p : Nat) : Int)
theorem cntP_len (T : List Nat) (n : Nat) : (cntP T n).length = n := by simp [cntP]
theorem cntP_get (T : List Nat) (n p : Nat) (h : p < (cntP T n).length) : (cntP T n)[p] = ((T.count p : Nat) : Int) := by simp [cntP]
theorem cntP_nil (n : Nat) : cntP [] n = List.replicate n 0 := by
  apply List.ext_getElem?
  intro i
  unfold cntP
  rw [List.getElem?_map, List.getElem?_replicate]
  rcases Nat.lt_or_ge i n with h | h
  · rw [List.getElem?_range h, if_pos h]; rfl
  · rw [List.getElem?_eq_none (by simpa using h), if_neg (by omega)]; rfl
theorem cntP_snoc (T : List Nat) (n p : Nat) (h : p < n) : cntP (T ++ [p]) n = (cntP T n).set p (((T.count p : Nat) : Int) + 1) := by
  apply List.ext_getElem?
  intro i
  rw [List.getElem?_set, cntP_len]
  unfold cntP
  rw [List.getElem?_map, List.getElem?_map]
  rcases Nat.lt_or_ge i n with hi | hi
  · rw [List.getElem?_range hi]
    show some (((T ++ [p]).count i : Nat) : Int) = _
    by_cases e : p = i
    · subst e
      rw [if_pos rfl, if_pos h, List.count_append]; simp
    · rw [if_neg e, List.count_append]
      have : [p].count i = 0 := by rw [List.count_eq_zero]; simp; omega
      rw [this]; rfl
  · rw [List.getElem?_eq_none (by simpa using hi), if_neg (by omega)]; rfl
/-- at the end each kept place has been seen once -/
theorem cnt_end (b : Nat) (cs : List Int) (p : Nat) (hp : p < cs.length) : ((seqL b cs).flatMap Sq.pl).count p = if remC (cs.getD p 0) = true then 0 else 1 := by
  rw [(seq_perm b cs).count_eq]
  have hm := kept_mem cs cs.length p
  split
  · rename_i h
    rw [List.count_eq_zero]
    intro hx
    have := (hm.1 hx).2
    rw [h] at this; cases this
  · rename_i h
    have hin : p ∈ keptL cs cs.length := hm.2 ⟨hp, by simpa using h⟩
    have hnd : (keptL cs cs.length).Nodup := (kept_sorted cs cs.length).imp fun h => Nat.ne_of_lt h
    have h1 : (keptL cs cs.length).count p ≤ 1 := List.nodup_iff_count.1 hnd p
    have h2 := List.count_pos_iff.2 hin
    omega
/-- what has been seen before place j of sequence i -/
def seenP (b : Nat) (cs : List Int) (i : Nat) (l : List Nat) : List Nat := ((seqL b cs).take i).flatMap Sq.pl ++ l
theorem seen_sub (b : Nat) (cs : List Int) {i : Nat} {x : Sq} (hi : (seqL b cs)[i]? = some x) (j : Nat) : (seenP b cs i (x.pl.take j)).Sublist ((seqL b cs).flatMap Sq.pl) := by
  have hlt := (List.getElem?_eq_some_iff.1 hi).1
  have hs : seqL b cs = (seqL b cs).take i ++ x :: (seqL b cs).drop (i + 1) := by
    have h1 := (List.getElem?_eq_some_iff.1 hi).2
    conv => lhs; rw [← List.take_append_drop i (seqL b cs), List.drop_eq_getElem_cons hlt, h1]
  unfold seenP
  conv => rhs; rw [hs, List.flatMap_append, List.flatMap_cons]
  refine List.Sublist.append (List.Sublist.refl _) ?_
  exact (List.take_sublist j x.pl).trans (List.sublist_append_left _ _)
theorem seen_few (b : Nat) (cs : List Int) {i : Nat} {x : Sq} (hi : (seqL b cs)[i]? = some x) (j p : Nat) (hp : p < cs.length) : (seenP b cs i (x.pl.take j)).count p ≤ 1 := by
  have h1 := (seen_sub b cs hi j).count_le p
  rw [cnt_end b cs p hp] at h1
  split at h1 <;> omega
theorem seen_zero (b : Nat) (cs : List Int) : seenP b cs 0 [] = [] := rfl
theorem seen_next (b : Nat) (cs : List Int) {i : Nat} {x : Sq} (hi : (seqL b cs)[i]? = some x) : seenP b cs i x.pl = seenP b cs (i + 1) [] := by
  unfold seenP
  rw [List.append_nil, take_snoc _ _ _ hi, List.flatMap_append]
  simp
theorem seen_snoc (b : Nat) (cs : List Int) (i : Nat) (l : List Nat) (j p : Nat) (h : l[j]? = some p) : seenP b cs i (l.take (j + 1)) = seenP b cs i (l.take j) ++ [p] := by
  unfold seenP
  rw [take_snoc _ _ _ h, List.append_assoc]
theorem seen_all (b : Nat) (cs : List Int) : seenP b cs (seqL b cs).length [] = (seqL b cs).flatMap Sq.pl := by
  unfold seenP
  rw [List.take_length, List.append_nil]
theorem sorted_at {l : List Nat} (h : l.Pairwise (· < ·)) {q x y : Nat} (hx : l[q]? = some x) (hy : l[q + 1]? = some y) : x < y := by
  obtain ⟨h1, rfl⟩ := List.getElem?_eq_some_iff.1 hx
  obtain ⟨h2, rfl⟩ := List.getElem?_eq_some_iff.1 hy
  exact List.pairwise_iff_getElem.1 h q (q + 1) h1 h2 (Nat.lt_succ_self q)
theorem ints_get (l : List Nat) (j p : Nat) (h : l[j]? = some p) (hj : j < (ints l).length) : (ints l)[j] = (p : Int) := by
  obtain ⟨h1, rfl⟩ := List.getElem?_eq_some_iff.1 h
  simp [ints]
/-- append of one element at a step of a region that draws its order; what stays as it was -/
theorem step_push_far {P : Program} {ops : Array Oper} {o : Oper} {a : Act} {w : World} {K : Act → World → Prop} {Q : Exit → Act → World → Prop} {E : Prop} {k : IntKind} {e : TypeId} {bytes : Nat} (hgd : o.guard = none) (s x : Operand) (t : TypeId)
    (ho : o.op = .call { callee := .builtin .append, args := #[s, x], argTypes := #[t, t] })
    (ht : P.underlying t = some (.slice e)) (hi : (P.info? e).map (fun i => (i.zero, i.size, i.bytes)) = some (some (.int k 0), 1, bytes)) (hby : bytes ≤ 64)
    (B : Nat) (v : Value) (xs : List Int) (y : Int) (b : Nat) (hown : Mine k e w B v xs) (hs : a.eval s = v) (hx : a.eval x = .slice (some ⟨b, 0, none⟩) 1 1) (hy : w.cell? ⟨b, 0, none⟩ = some (.int k y))
    (hB : B ≤ w.heap.size) (hn : xs.length ≤ 1000000000)
    (h : ∀ v' w', Mine k e w' B v' (xs ++ [y]) → Below B w w' → FarV w w' v v' → K (a.put o.dst v') w') : if Region.wanted o (yielded ops a.tmps) = true then Oper.wp P o a w K Q else E := by
  obtain ⟨i0, hi', hz0, hz1, hz2⟩ := info_parts hi
  have hb : (xs.length + 1) * bytes ≤ 140737488355328 := by
    have : (xs.length + 1) * bytes ≤ 1000000001 * 64 := Nat.mul_le_mul (by omega) hby
    omega
  refine step_append_lies (P := P) w hgd s x t ho B e i0 (.int k 0) 1 bytes ht hi' hz0 hz1 hz2 rfl (by decide) v xs.length _ hs hown ⟨b, 0, none⟩ 1 1 [.int k y] hx rfl ?_ (by intro u hu; simp at hu; subst hu; rfl)
    (by omega) (by unfold maxLen; omega) hb hB w.heap.size rfl fun g cap w1 h1 hg hl _ => ?_
  · intro j u hj
    match j, hj with
    | 0, hj => simp at hj; subst hj; simpa [Addr.add] using hy
  · refine h _ w1 (by unfold Mine; simpa using h1) ((Below.refl B w).grown hg hB fun j hj => (World.ownsRow.lt hown j hj).1) fun k hk hne => ⟨fun e1 => ?_, hg.block k hk (fun e1 => hne e1.symm)⟩
    have e2 : some g = some k := e1
    injection e2 with e2
    subst e2
    rcases hl with hl | hl
    · exact hne hl
    · omega
theorem fullSl : (Try.prog.info? 22).map (fun i => (i.zero, i.size, i.bytes)) = some (some (.slice none 0 0), LSl.C, 24) := by kernel_rfl

theorem runs_last {f : Nat → Int} {l : List Nat} (x y : Nat) (hl : l.getLast? = some y) : addR f (runsF f l) x = if f y = f x then (runsF f l).set ((runsF f l).length - 1) ((runsF f l).getD ((runsF f l).length - 1) [] ++ [x]) else runsF f l ++ [[x]] := by
  obtain ⟨i1, i2, _, _⟩ := inv_runs f l
  generalize runsF f l = rs at *
  have hne : rs ≠ [] := fun e => by subst e; simp at i1; subst i1; simp at hl
  obtain ⟨u, r, rfl⟩ : ∃ u r, rs = u ++ [r] := ⟨_, _, (List.dropLast_concat_getLast hne).symm⟩
  have hr := i2 r (by simp)
  have hlast : r.getLastD 0 = y := by
    rw [List.flatten_append, List.flatten_cons, List.flatten_nil, List.append_nil] at i1
    subst i1
    obtain ⟨r', z, rfl⟩ : ∃ r' z, r = r' ++ [z] := ⟨_, _, (List.dropLast_concat_getLast hr).symm⟩
    rw [← List.append_assoc, List.getLast?_append] at hl
    simp at hl
    subst hl
    simp
  have e1 : (u ++ [r]).getLastD [] = r := by simp
  have e2 : (u ++ [r]).dropLast = u := by simp
  have e3 : (u ++ [r]).length - 1 = u.length := by simp
  have e4 : (u ++ [r]).getD u.length [] = r := by simp
  unfold addR
  rw [e1, e2, e3, e4, hlast]
  by_cases hf : f y = f x
  · rw [if_pos ⟨hne, hf⟩, if_pos hf, List.set_append_right _ _ (Nat.le_refl _), Nat.sub_self]; rfl
  · rw [if_neg (fun h => hf h.2), if_neg hf]
theorem runs_first {f : Nat → Int} (x : Nat) : addR f (runsF f []) x = runsF f [] ++ [[x]] := rfl

theorem mem_flat_len (ls : List (List Nat)) (r : List Nat) (h : r ∈ ls) : r.length ≤ ls.flatten.length := by
  obtain ⟨u, v, rfl⟩ := List.append_of_mem h
  rw [List.flatten_append, List.flatten_cons, List.length_append, List.length_append]
  omega
theorem Nest.low {α : Type} {R : Lay α} {e : TypeId} {sl : α → Value} {w : World} {B B' : Nat} {v : Value} {rows : List α} {ls : List (List Nat)} (h : Nest R e sl w B v rows ls) (hB : B' ≤ B) : Nest R e sl w B' v rows ls :=
  ⟨h.own.low hB, h.len, fun i r l hi hl => (h.inn i r l hi hl).low hB, h.far, h.diff⟩
section
variable {w w1 : World} {B g m M c7 n' c' : Nat} {A' : Option Addr} {rows : List Rsl} {ls : List (List Nat)} {r : Rsl} {l' : List Nat}
theorem Nest.grow1 (h : Nest LSl 22 Rsl.sl w B (.slice (some ⟨g, 0, none⟩) M c7) rows ls) (hi : rows[m]? = some r) (hI : Mine .i64 3 w1 B (.slice A' n' c') (ints l')) (hf : FarV w w1 r.sl (.slice A' n' c')) (hb : Below B w w1) :
    w1.cell? ⟨g, m, none⟩ = some (.slice r.A r.n r.c) ∧ (∀ j, w1.frozen? ⟨g, j, none⟩ = false) ∧ ∀ w2, w1.setCell ⟨g, m, none⟩ (.slice A' n' c') = w2 → Nest LSl 22 Rsl.sl w2 B (.slice (some ⟨g, 0, none⟩) M c7) (rows.set m ⟨A', n', c'⟩) (ls.set m l') ∧ Below B w w2 := by
  have hvo : Apart (.slice (some ⟨g, 0, none⟩) M c7) r.sl := (h.far m r hi).symm
  have hM1 : MineN LSl 22 w1 B (.slice (some ⟨g, 0, none⟩) M c7) rows := h.own.stays (hf.same hvo)
  have e1 : m * LSl.C + 0 = m := by show m * 1 + 0 = m; omega
  have hc := hM1.cellAt (q := 0) hi rfl
  rw [e1] at hc
  have hM2 := hM1.set (i := m) (q := 0) (x := r) (y := ⟨A', n', c'⟩) (u := .slice A' n' c') hi (by decide) rfl
  rw [e1] at hM2
  have hgB := (h.own.own_lt g rfl)
  refine ⟨hc, hM1.free, fun w2 e => ?_⟩
  subst e
  exact ⟨h.turn hi (r' := ⟨A', n', c'⟩) hf hI hM2 (by simp) fun b hb => Below.heap_setCell _ _ _ _ (fun e => hb (by rw [e]; rfl)), hb.setCell hgB.1 _⟩
theorem Nest.here1 (h : Nest LSl 22 Rsl.sl w B (.slice (some ⟨g, 0, none⟩) M c7) rows ls) (hi : rows[m]? = some r) : w.cell? ⟨g, m, none⟩ = some (.slice r.A r.n r.c) := by
  have e1 : m * LSl.C + 0 = m := by show m * 1 + 0 = m; omega
  have hc := h.own.cellAt (q := 0) hi rfl
  rwa [e1] at hc
/-- a new list of one place -/
theorem Nest.push1 {v v' : Value} {x : Nat} {w2 : World} (h : Nest LSl 22 Rsl.sl w B v rows ls) (hB : B ≤ w.heap.size) (hw1 : w.alloc (.cells #[.int .i64 (x : Int)] 3) = w1) (hM : MineN LSl 22 w2 B v' (rows ++ [⟨some ⟨w.heap.size, 0, none⟩, 1, 1⟩])) (hf : FarV w1 w2 v v') :
    Nest LSl 22 Rsl.sl w2 B v' (rows ++ [⟨some ⟨w.heap.size, 0, none⟩, 1, 1⟩]) (ls ++ [[x]]) := by
  subst hw1
  have hup : Below w.heap.size w (w.alloc (.cells #[.int .i64 (x : Int)] 3)) := (Below.refl _ _).alloc (Nat.le_refl _) _
  refine (h.below hup).push hM hf (Mine.one .i64 3 w B (x : Int) hB) (fun b hb e => ?_) (fun i r hi b hb e => ?_)
  · have hb2 : some w.heap.size = some b := hb
    injection hb2 with hb2
    subst hb2
    have := (h.own.own_lt _ e).2; omega
  · have hb2 : some w.heap.size = some b := hb
    injection hb2 with hb2
    subst hb2
    have := (h.lt hi _ e).2; omega
end
set_option maxRecDepth 20000 in
set_option maxHeartbeats 4000000 in
theorem rruns_ok (A AL : Option Addr) (n c cL : Nat) (f : Nat → Int) (cs : List Int) (w : World) (hn : n = cs.length) (hmax : n ≤ 1000) (h : Has w w.heap.size A (cs.map (Value.int .i64))) (hL : Has w w.heap.size AL ((lvs f n).map (Value.int .i64))) :
    Calls Try.prog 34 #[.slice A n c, .slice AL n cL] w fun e w' => ∃ v rows, e = .returned v ∧ Nest LSl 22 Rsl.sl w' w.heap.size v rows (runsF f (keptL cs n)) ∧ Below w.heap.size w w' := by
  have HHL := Lib.hid (fun (W : World) (hb : Below w.heap.size w W) => (hL.below hb).more hb.size)
  have HK := Lib.hid (kept_ok A n c cs w hn hmax h)
  clear hn h hL
  go_enter Try.func34, Try.ntmps34
  go_wp2_with (go_at_call 46; (refine HK.out.mono ?_); rintro e W1 ⟨v6, rfl, hK, hb1⟩)
  obtain ⟨A6, c6, rfl, hc6, _, h6⟩ := hK.size
  have hmem : ∀ (j x : Nat), (keptL cs n)[j]? = some x → x < n := fun j x hx => ((kept_mem cs n x).1 (List.mem_of_getElem? hx)).1
  have hkl := keptL_len cs n
  rw [ints_len] at *
  obtain ⟨K, hKL⟩ : ∃ K, (keptL cs n).length = K := ⟨_, rfl⟩
  have HKL := Lib.hid hKL
  rw [hKL] at hkl
  simp only [hKL]
  have HL1 := Lib.hid (fun (W : World) (hb : Below W1.heap.size W1 W) => (HHL.out _ hb1).below hb)
  have H6 := Lib.hid (fun (W : World) (hb : Below W1.heap.size W1 W) => h6.below hb)
  have HB1 := Lib.hid hb1
  obtain ⟨l, hle⟩ : ∃ l, keptL cs n = l := ⟨_, rfl⟩
  have HLE := Lib.hid hle
  rw [hle] at hmem HKL H6
  clear HK hK h6 hKL HHL hc6 hle hb1
  go_loopw [5, 7] (fun v5 v7 wr => ∃ i : Nat, i ≤ K ∧ v7 = .int .i64 i ∧ Hid (∃ rows, Nest LSl 22 Rsl.sl wr W1.heap.size v5 rows (runsF f (l.take i)) ∧ Below W1.heap.size W1 wr)) (fun _ v7 _ => K - (intOf v7).toNat)
  case atStart => exact ⟨0, by omega, rfl, Lib.hid ⟨[], Nest.nil _ _ _, Below.refl _ _⟩⟩
  case round =>
    obtain ⟨i, hi, rfl, HS⟩ := hrel
    obtain ⟨rows, hN, hb⟩ := HS.out
    clear HS
    by_cases hlt : i < K
    · have hil : i < l.length := by rw [HKL.out]; exact hlt
      obtain ⟨x, hx⟩ : ∃ x, l[i]? = some x := ⟨_, List.getElem?_eq_getElem hil⟩
      have hxn := hmem i x hx
      have htk := take_snoc l i x hx
      have hst := runs_snoc f (l.take i) x
      rw [← htk] at hst
      obtain ⟨b6, o6, rfl, hb6, f1⟩ := (H6.out _ hb).at_int (k := i) (by rw [ints_len]; exact hil)
      rw [show (ints l)[i]'(by rw [ints_len]; exact hil) = (x : Int) from by obtain ⟨h1, rfl⟩ := List.getElem?_eq_some_iff.1 hx; simp [ints]] at f1
      obtain ⟨bl, ol, rfl, hbl, l1⟩ := (HL1.out _ hb).at_int (k := x) (by rw [lvs_len]; exact hxn)
      rw [lvs_get] at l1
      have hrl : rows.length ≤ i := by
        have h1 := hN.len
        have h2 := flat_few (runsF f (l.take i)) fun c hc => List.length_pos_iff.2 ((inv_runs f (l.take i)).ne c hc)
        rw [(inv_runs f (l.take i)).flat, List.length_take] at h2
        omega
      have hBs := hb.size
      by_cases h0 : i = 0
      · have hd3 : decide ((0 : Int) < (i : Int)) = false := decide_eq_false (by omega)
        have hd5 : ¬ 0 < i := by omega
        have HS2 : Hid (∀ q v' w2, MineN LSl 22 w2 W1.heap.size v' (rows ++ [⟨some ⟨wr.heap.size, 0, none⟩, 1, 1⟩]) → Below W1.heap.size ((wr.drewN q).alloc (.cells #[.int .i64 (x : Int)] 3)) w2 → FarV ((wr.drewN q).alloc (.cells #[.int .i64 (x : Int)] 3)) w2 u5 v' → ∃ rows, Nest LSl 22 Rsl.sl w2 W1.heap.size v' rows (runsF f (l.take (i + 1))) ∧ Below W1.heap.size W1 w2) := Lib.hid fun q v' w2 g1 g2 g3 => by
          refine ⟨rows ++ [⟨some ⟨wr.heap.size, 0, none⟩, 1, 1⟩], ?_, ((below_drewN hb q).alloc hBs _).trans g2⟩
          rw [hst, h0]
          rw [h0] at hN
          exact (hN.below (below_drewN (Below.refl _ _) q)).push1 (w := wr.drewN q) hBs rfl g1 g3
        obtain ⟨A5, c5, rfl, hc5, _, _⟩ := hN.own.has
        have hM5 := hN.own
        have hrl2 : rows.length ≤ 1000000 := by omega
        generalize f x = fx at *
        clear hN hst htk hx h0
        go_wp2
        go_quiet (fail)
        go_wp2_with (at_builtin; (refine wpList_pushN (R := LSl) rfl _ _ 61 rfl _ Try.underlying61 fullSl rfl (by decide) (by decide) W1.heap.size _ rows ⟨some ⟨wr.heap.size, 0, none⟩, 1, 1⟩ _ _ rfl ((hM5.drewN _).alloc _) rfl (by show Value.slice (some ⟨wr.heap.size + 1, 0, none⟩) 1 1 = _; simp) (by simp; omega) hrl2 ?_; intro v' w3 hM3 hb3 hfar))
        go_roundw
        case rel => exact ⟨i + 1, by omega, by go_num, Lib.hid (HS2.out _ _ _ hM3 hb3 hfar)⟩
        case measure => simp [intOf] <;> omega
      · obtain ⟨q, rfl⟩ : ∃ q, i = q + 1 := ⟨i - 1, by omega⟩
        obtain ⟨y, hy⟩ : ∃ y, l[q]? = some y := ⟨_, List.getElem?_eq_getElem (by omega)⟩
        have hyn := hmem q y hy
        have hlast : (l.take (q + 1)).getLast? = some y := by rw [take_snoc l q y hy]; simp
        have hrl9 := runs_last (f := f) x y hlast
        rw [← hst] at hrl9
        obtain ⟨b6', o6', hA6, _, f2⟩ := (H6.out _ hb).at_int (k := q) (by rw [ints_len]; omega)
        injection hA6 with hA6
        injection hA6 with e5 e6
        subst e5; subst e6
        rw [show (ints l)[q]'(by rw [ints_len]; omega) = (y : Int) from by obtain ⟨h1, rfl⟩ := List.getElem?_eq_some_iff.1 hy; simp [ints]] at f2
        obtain ⟨bl', ol', hAl, _, l2⟩ := (HL1.out _ hb).at_int (k := y) (by rw [lvs_len]; exact hyn)
        injection hAl with hAl
        injection hAl with e7 e8
        subst e7; subst e8
        rw [lvs_get] at l2
        have hne : runsF f (l.take (q + 1)) ≠ [] := fun e => by
          have := (inv_runs f (l.take (q + 1))).flat
          rw [e] at this
          rw [← this] at hlast
          simp at hlast
        obtain ⟨m, hm⟩ : ∃ m, rows.length = m + 1 := ⟨rows.length - 1, by have := hN.len; have := List.length_pos_iff.2 hne; omega⟩
        have hrm : (runsF f (l.take (q + 1))).length = m + 1 := by rw [← hN.len, hm]
        rw [hrm, Nat.add_sub_cancel] at hrl9
        obtain ⟨g, c5, hv5, hc5, hgB, hgb, _⟩ := hN.own.form (fun e => by rw [e] at hm; simp at hm)
        rw [hm] at hv5 hc5
        subst hv5
        have d3 : decide ((0 : Int) < (q : Int) + 1) = true := decide_eq_true (by omega)
        have hq1 : (q : Int) + 1 - 1 = q := by omega
        have hwq : IntKind.i64.wrap (q : Int) = q := Go.IntWalk.i64_in _ (by omega)
        have hm1 : (m : Int) + 1 - 1 = m := by omega
        have hwm : IntKind.i64.wrap (m : Int) = m := Go.IntWalk.i64_in _ (by omega)
        have hm2 : (m : Int) < (m : Int) + 1 := by omega
        have hgn1 : g ≠ wr.heap.size := by omega
        have hgn2 : wr.heap.size ≠ g := by omega
        have hm0 : (0 : Int) ≤ (m : Int) := by omega
        have hq2 : (q : Int) + 1 < (K : Int) := by omega
        have hq0 : (0 : Int) ≤ (q : Int) + 1 := by omega
        by_cases hf : f y = f x
        · rw [if_pos hf] at hrl9
          obtain ⟨r, hr, hin⟩ := hN.at_ (i := m) (by rw [hrm]; omega)
          rw [← getD_at (by rw [hrm]; omega)] at hin
          have k1 := hN.here1 hr
          have k1a : ∀ z, ((wr.drewN z).alloc (.cells #[.int .i64 (x : Int)] 3)).cell? ⟨g, m, none⟩ = some (.slice r.A r.n r.c) := fun z => (hN.below ((below_drewN (Below.refl _ _) z).alloc (Nat.le_refl _) _)).here1 hr
          have hlr : ((runsF f (l.take (q + 1))).getD m []).length ≤ 1000 := by
            have h1 := (inv_runs f (l.take (q + 1))).flat
            have h3 : (runsF f (l.take (q + 1))).getD m [] ∈ runsF f (l.take (q + 1)) := by rw [getD_at (by rw [hrm]; omega)]; exact List.getElem_mem _
            have h4 := mem_flat_len _ _ h3
            rw [h1, List.length_take] at h4
            omega
          have HAP : Hid (∀ w1 A' n' c', Mine .i64 3 w1 W1.heap.size (.slice A' n' c') (ints ((runsF f (l.take (q + 1))).getD m []) ++ [(x : Int)]) → ∀ w0, Below wr.heap.size wr w0 → Below W1.heap.size w0 w1 → FarV w0 w1 r.sl (.slice A' n' c') → w1.cell? ⟨g, m, none⟩ = some (.slice r.A r.n r.c) ∧ (∀ j, w1.frozen? ⟨g, j, none⟩ = false) ∧ ∀ w2, w1.setCell ⟨g, m, none⟩ (.slice A' n' c') = w2 → ∃ rows, Nest LSl 22 Rsl.sl w2 W1.heap.size (.slice (some ⟨g, 0, none⟩) (m + 1) c5) rows (runsF f (l.take (q + 1 + 1))) ∧ Below W1.heap.size W1 w2) := Lib.hid fun w1 A' n' c' g1 w0 g2 g3 g4 => by
            rw [← ints_snoc] at g1
            obtain ⟨k2, k3, k4⟩ := (hN.below g2).grow1 hr g1 g4 g3
            refine ⟨k2, k3, fun w2 e => ?_⟩
            obtain ⟨k5, k6⟩ := k4 w2 e
            exact ⟨_, by rw [hrl9]; exact k5, (hb.trans (g2.mono hBs)).trans k6⟩
          have hlr2 : (ints ((runsF f (l.take (q + 1))).getD m [])).length ≤ 1000000000 := by rw [ints_len]; omega
          rw [hf] at l2
          generalize f x = fx at *
          generalize ints ((runsF f (l.take (q + 1))).getD m []) = RU at *
          clear hrl9 hN hst hx hy hlast hf hlr htk hne hrm
          go_wp2
          go_quiet (fail)
          go_wp2
          go_region_law ((refine step_push_far (k := .i64) (bytes := 8) (by rfl) _ _ 22 (by rfl) Try.underlying22 fullI (by decide) W1.heap.size r.sl RU (x : Int) wr.heap.size ((hin.drewN _).alloc _) (by rfl) (by rfl) (push_cell (wr.drewN _) (.int .i64 (x : Int)) 3 0 _ rfl) (by simp; omega) hlr2 ?_; intro v' w3 hM4 hb4 hfar; obtain ⟨A6, c6', rfl, _, _, _⟩ := hM4.size; obtain ⟨n6, hn6⟩ : ∃ n6, (RU ++ [(x : Int)]).length = n6 := ⟨_, rfl⟩; simp only [hn6] at hM4 hfar ⊢; obtain ⟨d6, fz6, hnx6⟩ := HAP.out _ _ _ _ hM4 _ (((below_drewN (Below.refl _ _) _).alloc (by simp) _)) hb4 hfar))
          all_goals
            have hS := hnx6 _ rfl
            clear hnx6 d6 fz6 hM4 hb4 hfar HAP
            go_wp2
            go_roundw
            case rel => exact ⟨q + 1 + 1, by omega, by go_num, Lib.hid hS⟩
            case measure => simp [intOf] <;> omega
        · rw [if_neg hf] at hrl9
          have HS2 : Hid (∀ z v' w2, MineN LSl 22 w2 W1.heap.size v' (rows ++ [⟨some ⟨wr.heap.size, 0, none⟩, 1, 1⟩]) → Below W1.heap.size ((wr.drewN z).alloc (.cells #[.int .i64 (x : Int)] 3)) w2 → FarV ((wr.drewN z).alloc (.cells #[.int .i64 (x : Int)] 3)) w2 (.slice (some ⟨g, 0, none⟩) (m + 1) c5) v' → ∃ rows, Nest LSl 22 Rsl.sl w2 W1.heap.size v' rows (runsF f (l.take (q + 1 + 1))) ∧ Below W1.heap.size W1 w2) := Lib.hid fun z v' w2 g1 g2 g3 => by
            refine ⟨rows ++ [⟨some ⟨wr.heap.size, 0, none⟩, 1, 1⟩], ?_, ((below_drewN hb z).alloc hBs _).trans g2⟩
            rw [hrl9]
            exact (hN.below (below_drewN (Below.refl _ _) z)).push1 (w := wr.drewN z) hBs rfl g1 g3
          have hM5 := hN.own
          have hrl2 : rows.length ≤ 1000000 := by omega
          have hfb : (f y == f x) = false := by simpa using hf
          generalize f x = fx at *
          generalize f y = fy at *
          clear hrl9 hN hst hx hy hlast hf htk hne hrm
          go_wp2
          go_quiet (fail)
          go_wp2_with (at_builtin; (refine wpList_pushN (R := LSl) rfl _ _ 61 rfl _ Try.underlying61 fullSl rfl (by decide) (by decide) W1.heap.size _ rows ⟨some ⟨wr.heap.size, 0, none⟩, 1, 1⟩ _ _ rfl ((hM5.drewN _).alloc _) rfl (by show Value.slice (some ⟨wr.heap.size + 1, 0, none⟩) 1 1 = _; simp) (by simp; omega) hrl2 ?_; intro v' w3 hM3 hb3 hfar))
          go_roundw
          case rel => exact ⟨q + 1 + 1, by omega, by go_num, Lib.hid (HS2.out _ _ _ hM3 hb3 hfar)⟩
          case measure => simp [intOf] <;> omega
    · obtain rfl : i = K := by omega
      have hfin : l.take i = l := by rw [← HKL.out, List.take_length]
      rw [hfin, ← HLE.out] at hN
      go_wp2
      go_ret
      exact ⟨_, rows, rfl, hN.low HB1.out.size, below_trans HB1.out hb HB1.out.size⟩

theorem Nest.row {w : World} {B : Nat} {v : Value} {rows : List Rsl} {ls : List (List Nat)} (h : Nest LSl 22 Rsl.sl w B v rows ls) {i : Nat} (hi : i < ls.length) :
    ∃ g c r, v = .slice (some ⟨g, 0, none⟩) ls.length c ∧ rows[i]? = some r ∧ B ≤ g ∧ g < w.heap.size ∧ w.cell? ⟨g, i, none⟩ = some (.slice r.A r.n r.c) ∧ r.n = ls[i].length ∧ r.n ≤ r.c ∧ Has w w.heap.size r.A ((ints ls[i]).map (Value.int .i64)) := by
  obtain ⟨r, hr, hm⟩ := h.at_ hi
  obtain ⟨g, c, hv, hc, h1, h2, _⟩ := h.own.form (fun e => by rw [e] at hr; simp at hr)
  rw [h.len] at hv
  subst hv
  obtain ⟨A2, c2, hv2, hc2, _, hh2⟩ := hm.size
  unfold Rsl.sl at hv2
  injection hv2 with e1 e2 e3
  rw [ints_len] at e2 hc2
  subst e1
  exact ⟨g, c, r, rfl, hr, h1, h2, h.here1 hr, e2, by omega, hh2⟩

set_option maxRecDepth 20000 in
set_option maxHeartbeats 4000000 in
theorem with_ok (v : Value) (rows : List Rsl) (k p B : Nat) (f : Nat → Int) (l : List Nat) (rs : List (List Nat)) (r : Rsl) (w : World) (hR : rs.length ≤ 1000) (hl : ∀ x ∈ rs, x.length ≤ 1000) (H : RunsX f l rs) (hp : p ∈ rs.getD k []) (hr : rows[k]? = some r) (h : Nest LSl 22 Rsl.sl w B v rows rs) :
    Calls Try.prog 35 #[v, .int .i64 (p : Int)] w fun e w' => e = .returned (.slice r.A r.n r.c) ∧ w = w' := by
  have hk := getD_out hp
  obtain ⟨g, c, _, rfl, _⟩ := h.row hk
  have hother : ∀ (i j q : Nat), i < k → (rs.getD i [])[j]? = some q → q ≠ p := fun i j q hi hq e => by
    subst e
    have := H.up i k q q (List.mem_of_getElem? hq) hp hi
    omega
  obtain ⟨j0, hj0⟩ : ∃ j0, (rs.getD k [])[j0]? = some p := List.getElem?_of_mem hp
  obtain ⟨R, hRe⟩ : ∃ R, rs.length = R := ⟨_, rfl⟩
  have HR := Lib.hid hRe
  simp only [hRe]
  rw [hRe] at h hR hk
  clear hRe
  go_enter Try.func35, Try.ntmps35
  go_wp2
  go_loopw [5] (fun v5 wr => ∃ i : Nat, i ≤ k ∧ v5 = .int .i64 i ∧ wr = w) (fun v5 _ => R - (intOf v5).toNat)
  case atStart => exact ⟨0, by omega, rfl, rfl⟩
  case round =>
    obtain ⟨i, hi, rfl, rfl⟩ := hrel
    have hiR : i < rs.length := by have := HR.out; omega
    obtain ⟨g', c', ri, hv, hri, hg1, hg2, k1, k2, k3, k4⟩ := h.row hiR
    injection hv with e1 e2 e3
    injection e1 with e1
    injection e1 with e1
    subst e1
    clear e2 e3
    obtain ⟨m, hm⟩ : ∃ m, rs[i].length = m := ⟨_, rfl⟩
    have hm1 : m ≤ 1000 := by rw [← hm]; exact hl _ (List.getElem_mem _)
    rw [hm] at k2
    have hli : rs.getD i [] = rs[i] := getD_at hiR
    obtain ⟨ri1, ri2, ri3⟩ := ri
    simp only at k1 k2 k3 k4
    subst k2
    have i0 : (0 : Int) ≤ (i : Int) := by omega
    have i1 : (i : Int) < (R : Int) := by omega
    have i2 : i < R := by omega
    go_wp2
    go_loopw [6] (fun v6 wq => ∃ j : Nat, j ≤ ri2 ∧ v6 = .int .i64 j ∧ wq = wr ∧ (i = k → j ≤ j0)) (fun v6 _ => ri2 - (intOf v6).toNat)
    case atStart => exact ⟨0, by omega, rfl, rfl, fun _ => Nat.zero_le _⟩
    case round =>
      obtain ⟨j, hj, rfl, rfl, hjk⟩ := hrel
      by_cases hlt : j < ri2
      · have hjl : j < rs[i].length := by omega
        obtain ⟨q, hq⟩ : ∃ q, rs[i][j]? = some q := ⟨rs[i][j], List.getElem?_eq_getElem hjl⟩
        obtain ⟨bi, oi, rfl, hbi, f1⟩ := k4.at_int (k := j) (by rw [ints_len]; omega)
        rw [show (ints rs[i])[j]'(by rw [ints_len]; omega) = (q : Int) from by obtain ⟨h1, rfl⟩ := List.getElem?_eq_some_iff.1 hq; simp [ints]] at f1
        by_cases hqp : q = p
        · subst hqp
          have hik : i = k := by
            rcases Nat.lt_or_ge i k with h1 | h1
            · exact absurd rfl (hother i j q h1 (by rw [hli]; exact hq))
            · omega
          subst hik
          rw [hr] at hri
          injection hri with hri
          subst hri
          clear hq hother hj0 hp h k4
          go_wp2
          go_ret
          exact ⟨rfl, rfl⟩
        · have hne : (q == p) = false := by simpa using hqp
          have hjk2 : i = k → j + 1 ≤ j0 := fun e => by
            have h1 := hjk e
            rcases Nat.lt_or_ge j j0 with h2 | h2
            · omega
            · exfalso
              have : j = j0 := by omega
              subst this; subst e
              rw [hli, hq] at hj0
              injection hj0 with hj0
              exact hqp hj0
          clear hq hother hj0 hp h k4 hqp hjk
          go_wp2
          go_roundw
          case rel => exact ⟨j + 1, by omega, by go_num, trivial, hjk2⟩
          case measure => simp [intOf] <;> omega
      · obtain rfl : j = ri2 := by omega
        have hik : i < k := by
          rcases Nat.lt_or_ge i k with h1 | h1
          · exact h1
          · have e : i = k := by omega
            have h2 := hjk e
            subst e
            have := (List.getElem?_eq_some_iff.1 hj0).1
            rw [hli] at this
            omega
        clear hother hj0 hp h k4 hjk
        go_wp2
        go_roundw
        case rel => exact ⟨i + 1, by omega, by go_num, trivial⟩
        case measure => simp [intOf] <;> omega
theorem starts_yes {pv : Nat → Option Nat} {i : Nat} (h : pv i = none) : startsG pv (i + 1) = startsG pv i ++ [i] := by
  unfold startsG
  rw [List.range_succ, List.filter_append]
  simp [h]
theorem starts_no {pv : Nat → Option Nat} {i j : Nat} (h : pv i = some j) : startsG pv (i + 1) = startsG pv i := by
  unfold startsG
  rw [List.range_succ, List.filter_append]
  simp [h]
section
variable {nx pv : Nat → Option Nat} {R : Nat}
theorem chain_in (H : Links R nx pv) : ∀ (F s : Nat), s < R → ∀ x ∈ chainG nx F s, x < R
  | 0, s, hs, x, hx => by simp [chainG] at hx
  | F + 1, s, hs, x, hx => by
    rw [chainG, List.mem_cons] at hx
    rcases hx with rfl | hx
    · exact hs
    · cases hn : nx s with
      | none => rw [hn] at hx; cases hx
      | some k =>
        rw [hn] at hx
        exact chain_in H F k (H.up _ _ ((H.link _ _).1 hn)).2 x hx
/-- a chain, followed as far as k -/
structure ChS (nx : Nat → Option Nat) (R : Nat) (ch pre : List Nat) (k : Nat) : Prop where
  eq : ch = pre ++ chainG nx (R + 1 - pre.length) k
  lt : pre.length ≤ R
  kR : k < R
  sort : ch.Pairwise (· < ·)
  all : ∀ x ∈ ch, x < R
theorem ChS.start (H : Links R nx pv) {s : Nat} (hs : s < R) : ChS nx R (chainG nx (R + 1) s) [] s :=
  ⟨rfl, Nat.zero_le _, hs, (chain_up H (R + 1) s).1, chain_in H (R + 1) s hs⟩
theorem ChS.stop {ch pre : List Nat} {k : Nat} (h : ChS nx R ch pre k) (hn : nx k = none) : ch = pre ++ [k] := by
  have h1 := h.eq
  have h2 := h.lt
  obtain ⟨F, hF⟩ : ∃ F, R + 1 - pre.length = F + 1 := ⟨R - pre.length, by omega⟩
  rw [hF, chainG, hn] at h1
  exact h1
theorem ChS.next (H : Links R nx pv) {ch pre : List Nat} {k k2 : Nat} (h : ChS nx R ch pre k) (hn : nx k = some k2) : ChS nx R ch (pre ++ [k]) k2 := by
  have h1 := h.eq
  have h2 := h.lt
  obtain ⟨F, hF⟩ : ∃ F, R + 1 - pre.length = F + 1 := ⟨R - pre.length, by omega⟩
  rw [hF, chainG, hn] at h1
  have hlen : ch.length ≤ R := by
    rcases sorted_len ch 0 R h.sort (fun x hx => ⟨Nat.zero_le _, h.all x hx⟩) with h3 | h3
    · omega
    · rw [h3]; simp
  have hl2 : pre.length + 1 ≤ ch.length := by rw [h1, List.length_append, List.length_cons]; omega
  refine ⟨?_, by rw [List.length_append]; simp; omega, (H.up _ _ ((H.link _ _).1 hn)).2, h.sort, h.all⟩
  rw [List.length_append, List.length_singleton, show R + 1 - (pre.length + 1) = F by omega, List.append_assoc]
  exact h1
theorem ChS.few {ch pre : List Nat} {k : Nat} (h : ChS nx R ch pre k) : pre.length < R := by
  have h1 := h.eq
  have h2 := h.lt
  obtain ⟨F, hF⟩ : ∃ F, R + 1 - pre.length = F + 1 := ⟨R - pre.length, by omega⟩
  rw [hF, chainG] at h1
  have hlen : ch.length ≤ R := by
    rcases sorted_len ch 0 R h.sort (fun x hx => ⟨Nat.zero_le _, h.all x hx⟩) with h3 | h3
    · omega
    · rw [h3]; simp
  have hl2 : pre.length + 1 ≤ ch.length := by rw [h1, List.length_append, List.length_cons]; omega
  omega
end
theorem chain_hd (nx : Nat → Option Nat) (F s : Nat) : (chainG nx (F + 1) s).headD 0 = s := rfl
theorem atS_snoc (rs : List (List Nat)) (pre : List Nat) (k : Nat) : atS rs (pre ++ [k]) = atS rs pre ++ rs.getD k [] := by unfold atS; simp
theorem pv_cases {b : Nat} {cs : List Int} {k : Nat} (hk : k < (rsL b cs).length) :
    (cs.getD (hdR (rsL b cs) k) 0 = 23 ∧ (matL cs).getD (hdR (rsL b cs) k) 0 ≠ -1 ∧ ∃ j, pvR cs (rsL b cs) k = some j) ∨
    (cs.getD (hdR (rsL b cs) k) 0 = 23 ∧ (matL cs).getD (hdR (rsL b cs) k) 0 = -1 ∧ pvR cs (rsL b cs) k = none) ∨
    (cs.getD (hdR (rsL b cs) k) 0 ≠ 23 ∧ pvR cs (rsL b cs) k = none) := by
  by_cases h : cs.getD (hdR (rsL b cs) k) 0 = 23
  · rcases (inv_mat cs cs.length).vals _ (hd_lt hk) with hv | ⟨p, hv, _⟩
    · have hv' : (matL cs).getD (hdR (rsL b cs) k) 0 = -1 := hv
      refine .inr (.inl ⟨h, hv', ?_⟩)
      unfold pvR
      rw [if_neg]
      rintro ⟨_, _, h3⟩
      omega
    · have hv' : (matL cs).getD (hdR (rsL b cs) k) 0 = p := hv
      refine .inl ⟨h, by omega, ?_⟩
      unfold pvR
      rw [if_pos ⟨hk, h, by omega⟩]
      exact ⟨_, rfl⟩
  · refine .inr (.inr ⟨h, ?_⟩)
    unfold pvR
    rw [if_neg]
    rintro ⟨_, h2, _⟩
    exact h h2
theorem ChS.atS_len {nx : Nat → Option Nat} {R : Nat} {rs : List (List Nat)} {ch pre : List Nat} {k : Nat} (h : ChS nx R ch pre k) : (atS rs pre).length + (rs.getD k []).length ≤ (atS rs ch).length := by
  have h1 := h.eq
  have h2 := h.lt
  obtain ⟨F, hF⟩ : ∃ F, R + 1 - pre.length = F + 1 := ⟨R - pre.length, by omega⟩
  rw [hF, chainG] at h1
  rw [h1]
  unfold atS
  rw [List.flatMap_append, List.flatMap_cons, List.length_append, List.length_append]
  omega
theorem atS_last (rs : List (List Nat)) (pre : List Nat) (k : Nat) (h : rs.getD k [] ≠ []) : (atS rs (pre ++ [k])).getLastD 0 = laR rs k := by
  rw [atS_snoc]
  obtain ⟨u, y, hu⟩ : ∃ u y, rs.getD k [] = u ++ [y] := ⟨_, _, (List.dropLast_concat_getLast h).symm⟩
  unfold laR
  rw [hu, ← List.append_assoc]
  simp
theorem atS_head (rs : List (List Nat)) (s : Nat) (l : List Nat) (h : rs.getD s [] ≠ []) : (atS rs (s :: l)).headD 0 = hdR rs s := by
  unfold atS hdR
  rw [List.flatMap_cons]
  cases hr : rs.getD s [] with
  | nil => exact absurd hr h
  | cons a r => rfl
/-- the sequences that begin before run i, followed -/
def seqD (b : Nat) (cs : List Int) (i : Nat) : List Sq := (startsG (pvR cs (rsL b cs)) i).map fun s => sqN b cs (chainG (nxR cs (rsL b cs)) ((rsL b cs).length + 1) s)
theorem seqD_end (b : Nat) (cs : List Int) : seqD b cs (rsL b cs).length = seqL b cs := by
  have h := sq_chain b cs ((rsL b cs).length + 1) (by omega)
  unfold seqD seqL seqN
  show _ = (sqG b cs).map _
  rw [h, List.map_map]
  rfl
theorem seqD_few (b : Nat) (cs : List Int) (i : Nat) : (seqD b cs i).length ≤ i := by
  unfold seqD startsG
  rw [List.length_map]
  have := List.length_filter_le (fun k => (pvR cs (rsL b cs) k).isNone) (List.range i)
  rwa [List.length_range] at this
theorem SqM.more {e : TypeId} {w w' : World} {B : Nat} {v v' : Value} {rows : List SqR} {l : List Sq} {y : SqR} (h : SqM e w B v rows l) (hM : MineN LQ e w' B v' (rows ++ [y])) (hf : FarV w w' v v') (x : Sq) (hy : Mine .i64 3 w B y.sl (ints x.pl)) (hyv : Apart y.sl v) (hyr : ∀ (i : Nat) r, rows[i]? = some r → Apart y.sl r.sl) (hv : y.lv = x.lv ∧ y.sos = x.sos ∧ y.eos = x.eos) : SqM e w' B v' (rows ++ [y]) (l ++ [x]) := by
  refine ⟨?_, fun i r z hi hz => ?_⟩
  · rw [List.map_append, List.map_cons, List.map_nil]
    exact h.nest.push hM hf hy hyv hyr
  · rcases Nat.lt_or_ge i rows.length with h1 | h1
    · rw [List.getElem?_append_left h1] at hi
      rw [List.getElem?_append_left (by rw [← h.len]; exact h1)] at hz
      exact h.vals i r z hi hz
    · rw [List.getElem?_append_right h1] at hi
      rw [List.getElem?_append_right (by rw [← h.len]; exact h1)] at hz
      rw [h.len] at hi
      generalize i - l.length = q at *
      cases q with
      | zero => simp at hi hz; subst hi; subst hz; exact hv
      | succ q => simp at hi

/-- one sequence in its box, its places in a slice apart -/
structure BoxS (W : World) (G : Nat) (vA : Value) (L so eo : Int) (T : List Nat) (w : World) : Prop where
  box : At w G 37 #[vA, .int .i64 L, .int .i64 so, .int .i64 eo]
  mine : Mine .i64 3 w W.heap.size vA (ints T)
  gW : W.heap.size ≤ G
  ne : vA.ownBlock ≠ some G
  below : Below W.heap.size W w
section
variable {W w w' w1 : World} {G : Nat} {vA vA' : Value} {L so eo : Int} {T T' : List Nat}
theorem BoxS.same (h : BoxS W G vA L so eo T w) (hb : Below w.heap.size w w') : BoxS W G vA L so eo T w' :=
  ⟨by unfold At; rw [hb.block G h.box.lt]; exact h.box, h.mine.below hb, h.gW, h.ne, h.below.trans (hb.mono h.below.size)⟩
theorem BoxS.cells (h : BoxS W G vA L so eo T w) : w.cell? ⟨G, 0, none⟩ = some vA ∧ w.cell? ⟨G, 1, none⟩ = some (.int .i64 L) ∧ w.cell? ⟨G, 2, none⟩ = some (.int .i64 so) ∧ w.cell? ⟨G, 3, none⟩ = some (.int .i64 eo) ∧ ∀ j, w.frozen? ⟨G, j, none⟩ = false :=
  ⟨h.box.cell 0 _ rfl, h.box.cell 1 _ rfl, h.box.cell 2 _ rfl, h.box.cell 3 _ rfl, h.box.free⟩
/-- its slice has grown, and is stored -/
theorem BoxS.grown (h : BoxS W G vA L so eo T w) (hI : Mine .i64 3 w1 W.heap.size vA' (ints T')) (hf : FarV w w1 vA vA') (hb : Below W.heap.size w w1) :
    w1.cell? ⟨G, 0, none⟩ = some vA ∧ (∀ j, w1.frozen? ⟨G, j, none⟩ = false) ∧ ∀ w2, w1.setCell ⟨G, 0, none⟩ vA' = w2 → BoxS W G vA' L so eo T' w2 := by
  have hb1 : At w1 G 37 #[vA, .int .i64 L, .int .i64 so, .int .i64 eo] := h.box.far hf h.ne
  have hne := (hf G h.box.lt h.ne).1
  refine ⟨hb1.cell 0 _ rfl, hb1.free, fun w2 e => ?_⟩
  subst e
  exact ⟨hb1.setCell 0 vA', hI.stays fun b hb' _ => Below.heap_setCell _ _ _ _ (fun e => hne (by rw [hb', e])), h.gW, hne, (h.below.trans hb).setCell h.gW _⟩
theorem BoxS.sos_ (h : BoxS W G vA L so eo T w) (x : Int) : BoxS W G vA L x eo T (w.setCell ⟨G, 2, none⟩ (.int .i64 x)) :=
  ⟨h.box.setCell 2 _, h.mine.stays fun b hb' _ => Below.heap_setCell _ _ _ _ (fun e => h.ne (by rw [hb', e])), h.gW, h.ne, h.below.setCell h.gW _⟩
theorem BoxS.eos_ (h : BoxS W G vA L so eo T w) (x : Int) : BoxS W G vA L so x T (w.setCell ⟨G, 3, none⟩ (.int .i64 x)) :=
  ⟨h.box.setCell 3 _, h.mine.stays fun b hb' _ => Below.heap_setCell _ _ _ _ (fun e => h.ne (by rw [hb', e])), h.gW, h.ne, h.below.setCell h.gW _⟩
end
end Go.Proofs.Ytjdkpnmejkbkiaa
