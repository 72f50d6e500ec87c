/-
  Contract of the program's Runs. Condition: at most 1000 classes, as many levels.
-/
import Derived.Test.YtjdkpnmejkbkiaaSqk
import Derived.BigQuiet
set_option linter.unusedVariables false
set_option linter.unusedSimpArgs false
namespace Go.Proofs.Ytjdkpnmejkbkiaa
open Go.ChangeShapes Go.WideShapes Go.ChangeAt Go.RowKit Go.Sort

theorem fullCu : (Try.prog.info? 41).map (fun i => (i.zero, i.size, i.bytes)) = some (some (.agg #[.int .i64 0, .int .i64 0]), LCu.C, 16) := by kernel_rfl
theorem lastD_get (rs : List (List Nat)) (q : Nat) (h : rs.length = q + 1) : rs.getLastD [] = rs.getD q [] := by
  rw [List.getLastD_eq_getLast?, List.getLast?_eq_getElem?, List.getD_eq_getElem?_getD, h, Nat.add_sub_cancel]
theorem cuts_first (f : Nat → Int) (rs : List (List Nat)) (x : Nat) (h : rs.length = 0) : cutsR (addR f rs x) = cutsR rs ++ [((x : Int), (x : Int) + 1)] := by
  have e := List.eq_nil_of_length_eq_zero h
  subst e
  rfl
theorem cuts_same {f : Nat → Int} {l : List Nat} {rs : List (List Nat)} (H : RunsX f l rs) (q x : Nat) (h : rs.length = q + 1) (hf : f (hdR rs q) = f x) : cutsR (addR f rs x) = (cutsR rs).set q ((hdR rs q : Int), (x : Int) + 1) := by
  have hq : q < rs.length := by omega
  have hne := H.ne q hq
  have hla : rs.getLastD [] = rs.getD q [] := lastD_get rs q h
  have hs := H.same q _ _ (last_mem hne) (head_mem hne)
  have e1 : addR f rs x = rs.dropLast ++ [rs.getD q [] ++ [x]] := by
    unfold addR
    rw [if_pos ⟨fun e => by rw [e] at h; simp at h, by rw [hla, hs]; exact hf⟩, hla]
  have hh : (rs.getD q [] ++ [x]).headD 0 = hdR rs q := by
    unfold hdR
    cases hr : rs.getD q [] with
    | nil => exact absurd hr hne
    | cons a r => rfl
  rw [e1]
  unfold cutsR
  rw [List.map_append, List.map_cons, List.map_nil, hh]
  apply List.ext_getElem?
  intro i
  rw [List.getElem?_set, List.length_map]
  have hdl : (rs.dropLast.map fun r => ((r.headD 0 : Int), (r.getLastD 0 : Int) + 1)).length = q := by rw [List.length_map, List.length_dropLast]; omega
  rcases Nat.lt_trichotomy i q with hi | hi | hi
  · rw [List.getElem?_append_left (by omega), if_neg (by omega), List.getElem?_map, List.getElem?_map, List.getElem?_dropLast, if_pos (by omega)]
  · subst hi
    rw [List.getElem?_append_right (by omega), hdl, Nat.sub_self, if_pos rfl, if_pos hq]
    simp
  · rw [List.getElem?_eq_none (by simp at hdl ⊢; omega), if_neg (by omega), List.getElem?_eq_none (by simp; omega)]
theorem cuts_next {f : Nat → Int} {l : List Nat} {rs : List (List Nat)} (H : RunsX f l rs) (q x : Nat) (h : rs.length = q + 1) (hf : f (hdR rs q) ≠ f x) : cutsR (addR f rs x) = cutsR rs ++ [((x : Int), (x : Int) + 1)] := by
  have hq : q < rs.length := by omega
  have hne := H.ne q hq
  have hla : rs.getLastD [] = rs.getD q [] := lastD_get rs q h
  have hs := H.same q _ _ (last_mem hne) (head_mem hne)
  have e1 : addR f rs x = rs ++ [[x]] := by
    unfold addR
    rw [if_neg]
    rintro ⟨_, h2⟩
    rw [hla, hs] at h2
    exact hf h2
  rw [e1]
  unfold cutsR
  simp
theorem runs_len (f : Nat → Int) (cs : List Int) : ∀ k, (runsF f (keptL cs k)).length ≤ k
  | 0 => by simp [keptL, runsF]
  | k + 1 => by
    have ih := runs_len f cs k
    rw [kept_succ]
    split
    · omega
    · rw [runs_snoc]
      unfold addR
      split
      · rename_i h
        rw [List.length_append, List.length_dropLast]
        have : (runsF f (keptL cs k)).length ≠ 0 := fun e => h.1 (List.eq_nil_of_length_eq_zero e)
        simp; omega
      · simp; omega
theorem runs_step (f : Nat → Int) (cs : List Int) (k : Nat) (h : remC (cs.getD k 0) = false) : runsF f (keptL cs (k + 1)) = addR f (runsF f (keptL cs k)) k := by
  rw [kept_succ, if_neg (by rw [h]; decide), runs_snoc]
theorem runs_skip (f : Nat → Int) (cs : List Int) (k : Nat) (h : remC (cs.getD k 0) = true) : runsF f (keptL cs (k + 1)) = runsF f (keptL cs k) := by
  rw [kept_succ, if_pos h]

set_option maxRecDepth 20000 in
set_option maxHeartbeats 4000000 in
theorem sruns_ok (A AL : Option Addr) (n c cL : Nat) (f : Nat → Int) (cs : List Int) (w : World) (hn : n = cs.length) (hmax : n ≤ 1000) (h : Has w w.heap.size A (cs.map (Value.int .i64))) (hL : Has w w.heap.size AL ((lvs f n).map (Value.int .i64))) :
    Calls Try.prog 13 #[.slice A n c, .slice AL n cL] w fun e w' => ∃ v, e = .returned v ∧ MineN LCu 41 w' w.heap.size v (cutsR (runsF f (keptL cs n))) ∧ Below w.heap.size w w' := by
  have HN := Lib.hid hn
  have HH := Lib.hid (fun (W : World) (hb : Below w.heap.size w W) => h.below hb)
  have HHL := Lib.hid (fun (W : World) (hb : Below w.heap.size w W) => hL.below hb)
  have HREM := Lib.hid (fun (c : Int) (w : World) => removed_ok c w)
  have HLL : Hid ((lvs f n).length = n) := Lib.hid (lvs_len f n)
  clear hn h hL
  go_enter Try.func13, Try.ntmps13
  go_wp2
  go_loopw [5, 16] (fun v5 v16 wr => ∃ k : Nat, k ≤ n ∧ v16 = .int .i64 k ∧ Hid (MineN LCu 41 wr w.heap.size v5 (cutsR (runsF f (keptL cs k))) ∧ Below w.heap.size w wr)) (fun _ v16 _ => n - (intOf v16).toNat)
  case atStart => exact ⟨0, by omega, rfl, Lib.hid ⟨MineN.nil_ _ _ _, Below.refl _ _⟩⟩
  case round =>
    obtain ⟨k, hkn, rfl, HS⟩ := hrel
    obtain ⟨h1, h2⟩ := HS.out
    by_cases hlt : k < n
    · have hlt1 : k < cs.length := by have := HN.out; omega
      obtain ⟨b1, o1, rfl, hb1, hcc⟩ := (HH.out _ h2).at_int hlt1
      have hg := getD_get cs k hlt1
      generalize cs[k] = X at *
      cases hr : remC X with
      | true =>
        have HR2 : Hid (∀ w, Calls Try.prog 38 #[.int .i64 X] w fun e w' => e = .returned (.bool true) ∧ w = w') := Lib.hid fun w => by have := HREM.out X w; rwa [hr] at this
        have HS2 : Hid (MineN LCu 41 wr w.heap.size u5 (cutsR (runsF f (keptL cs (k + 1)))) ∧ Below w.heap.size w wr) := Lib.hid ⟨by rw [runs_skip f cs k (by rw [hg]; exact hr)]; exact h1, h2⟩
        clear hr hg h1 h2 HS
        go_wp2_with (go_at_call 38; refine (HR2.out _).mono ?_; rintro e z ⟨rfl, rfl⟩)
        go_roundw
        case rel => exact ⟨k + 1, by omega, by go_num, HS2⟩
        case measure => simp [intOf] <;> omega
      | false =>
        have HR2 : Hid (∀ w, Calls Try.prog 38 #[.int .i64 X] w fun e w' => e = .returned (.bool false) ∧ w = w') := Lib.hid fun w => by have := HREM.out X w; rwa [hr] at this
        have hst := runs_step f cs k (by rw [hg]; exact hr)
        have H := runs_x f _ (kept_sorted cs k)
        have hRl := runs_len f cs k
        have hmem : ∀ q, q < (runsF f (keptL cs k)).length → hdR (runsF f (keptL cs k)) q < k := fun q hq => ((kept_mem cs k _).1 ((H.mem _).2 ⟨q, hq, head_mem (H.ne q hq)⟩)).1
        generalize runsF f (keptL cs k) = rs at *
        obtain ⟨m, hm⟩ : ∃ m, rs.length = m := ⟨_, rfl⟩
        obtain ⟨A5, c5, hv5, hc5, hf5, hh5⟩ := h1.has
        rw [cutsR_len, hm] at hv5 hc5
        have hBw : w.heap.size ≤ wr.heap.size := h2.size
        have hcl : (cutsR rs).length ≤ 1000000 := by rw [cutsR_len]; omega
        rw [hm] at hmem hRl
        clear hr hg HS
        cases m with
        | zero =>
          subst hv5
          have HS2 : Hid (∀ v' w', MineN LCu 41 w' w.heap.size v' (cutsR rs ++ [((k : Int), (k : Int) + 1)]) → Below w.heap.size wr w' → MineN LCu 41 w' w.heap.size v' (cutsR (runsF f (keptL cs (k + 1)))) ∧ Below w.heap.size w w') := Lib.hid fun v' w' g1 g2 => ⟨by rw [hst, cuts_first f rs k hm]; exact g1, h2.trans g2⟩
          clear hst H hmem h2
          go_wp2_with (go_at_call 38; refine (HR2.out _).mono ?_; rintro e z ⟨rfl, rfl⟩)
          go_quiet (fail)
          go_wp2_with (at_builtin; (refine wpList_pushN (R := LCu) rfl _ _ 32 rfl _ Try.underlying32 fullCu rfl (by decide) (by decide) w.heap.size _ (cutsR rs) ((k : Int), (k : Int) + 1) _ _ rfl h1.drew rfl rfl (by simpa using hBw) hcl ?_; intro v' w3 hM3 hb3 hfar))
          go_roundw
          case rel => exact ⟨k + 1, by omega, by go_num, Lib.hid (HS2.out _ _ hM3 ((below_drewN (Below.refl _ _) _).trans hb3))⟩
          case measure => simp [intOf] <;> omega
        | succ q =>
          have hq : q < rs.length := by omega
          have hx := cutsR_get rs q hq
          have hmq := hmem q (by omega)
          obtain ⟨g, c6, hg5, hc6, hgB, hgb, _⟩ := h1.form (fun e => by have := cutsR_len rs; rw [e] at this; simp at this; omega)
          rw [cutsR_len, hm] at hg5 hc6
          rw [hv5] at hg5
          injection hg5 with e1 e2 e3
          subst e1; subst e3
          subst hv5
          have hcA : wr.cell? ⟨g, q * 2, none⟩ = some (.int .i64 (hdR rs q : Int)) := h1.cellAt (q := 0) hx rfl
          have hcB : wr.cell? ⟨g, q * 2 + 1, none⟩ = some (.int .i64 ((laR rs q : Int) + 1)) := h1.cellAt (q := 1) hx rfl
          have hfr := h1.free (q * 2 + 1)
          obtain ⟨b2, o2, rfl, hb2, hl1⟩ := (HHL.out _ h2).at_int (k := hdR rs q) (by rw [lvs_len]; omega)
          obtain ⟨b2', o2', hA2, hb2', hl2⟩ := (HHL.out _ h2).at_int (k := k) (by rw [lvs_len]; omega)
          injection hA2 with hA2
          injection hA2 with e5 e6
          subst e5; subst e6
          rw [lvs_get] at hl1 hl2
          have hset := fun w' (hM : MineN LCu 41 w' w.heap.size (.slice (some ⟨g, 0, none⟩) (q + 1) c5) (cutsR rs)) => hM.set (i := q) (q := 1) (x := ((hdR rs q : Int), (laR rs q : Int) + 1)) (y := ((hdR rs q : Int), (k : Int) + 1)) (u := .int .i64 ((k : Int) + 1)) hx (by decide) rfl
          by_cases hf : f (hdR rs q) = f k
          · have HS2 : Hid (∀ w', MineN LCu 41 w' w.heap.size (.slice (some ⟨g, 0, none⟩) (q + 1) c5) ((cutsR rs).set q ((hdR rs q : Int), (k : Int) + 1)) → MineN LCu 41 w' w.heap.size (.slice (some ⟨g, 0, none⟩) (q + 1) c5) (cutsR (runsF f (keptL cs (k + 1))))) := Lib.hid fun w' g1 => by rw [hst, cuts_same H q k hm hf]; exact g1
            rw [hf] at hl1
            generalize hdR rs q = hd at *
            generalize laR rs q = la at *
            generalize f k = fk at *
            clear hst H hmem hx hf
            go_wp2_with (go_at_call 38; refine (HR2.out _).mono ?_; rintro e z ⟨rfl, rfl⟩)
            go_quiet (fail)
            go_wp2
            go_roundw
            case rel => exact ⟨k + 1, by omega, by go_num, Lib.hid ⟨HS2.out _ (hset _ (h1.drewN _)), (below_drewN h2 _).setCell hgB _⟩⟩
            case measure => simp [intOf] <;> omega
          · have HS2 : Hid (∀ v' w', MineN LCu 41 w' w.heap.size v' (cutsR rs ++ [((k : Int), (k : Int) + 1)]) → Below w.heap.size wr w' → MineN LCu 41 w' w.heap.size v' (cutsR (runsF f (keptL cs (k + 1)))) ∧ Below w.heap.size w w') := Lib.hid fun v' w' g1 g2 => ⟨by rw [hst, cuts_next H q k hm hf]; exact g1, h2.trans g2⟩
            have hfb : (f (hdR rs q) == f k) = false := by simpa using hf
            generalize hdR rs q = hd at *
            generalize laR rs q = la at *
            generalize f hd = fh at *
            generalize f k = fk at *
            clear hst H hmem hx hf hset
            go_wp2_with (go_at_call 38; refine (HR2.out _).mono ?_; rintro e z ⟨rfl, rfl⟩)
            go_quiet (fail)
            go_wp2_with (at_builtin; (refine wpList_pushN (R := LCu) rfl _ _ 32 rfl _ Try.underlying32 fullCu rfl (by decide) (by decide) w.heap.size _ (cutsR rs) ((k : Int), (k : Int) + 1) _ _ rfl h1.drew rfl rfl (by simpa using hBw) hcl ?_; intro v' w3 hM3 hb3 hfar))
            go_roundw
            case rel => exact ⟨k + 1, by omega, by go_num, Lib.hid (HS2.out _ _ hM3 ((below_drewN (Below.refl _ _) _).trans hb3))⟩
            case measure => simp [intOf] <;> omega
    · obtain rfl : k = n := by omega
      clear HS
      go_wp2
      go_ret
      exact ⟨_, rfl, h1, h2⟩
end Go.Proofs.Ytjdkpnmejkbkiaa
