/-
  Contract of the document's Print; what is printed is read as the same. Condition: at most 1000 letters and digits.
-/
import Derived.Test.YtekjejbcdnghjaaDoorHrb
set_option linter.unusedVariables false
set_option linter.unusedSimpArgs false
namespace Go.Proofs.YtekjejbcdnghjaaDoor
open Go.ChangeShapes Go.WideShapes Go.ChangeAt Go.RowKit

def okPB (l d : List Int) : Bool := decide (d.length = l.length + 1) && mayB l && d.all (fun x => decide (0 ≤ x) && decide (x ≤ 9)) && l.all (fun c => !decide (isD c)) && anyP d
theorem okPB_iff (l d : List Int) : okPB l d = true ↔ OkP l d := by
  unfold okPB
  simp only [Bool.and_eq_true, decide_eq_true_eq, List.all_eq_true, Bool.not_eq_true', decide_eq_false_iff_not]
  exact ⟨fun ⟨⟨⟨⟨h1, h2⟩, h3⟩, h4⟩, h5⟩ => ⟨h1, h2, h3, h4, h5⟩, fun h => ⟨⟨⟨⟨h.len, h.may⟩, h.digits⟩, h.letters⟩, h.some_⟩⟩
/-- the pattern written, as a string -/
def printS (l d : List Int) : ByteArray := if okPB l d && allP (prS l d) then strOfNums (encZ (prS l d)) else ByteArray.empty
theorem printS_bad {l d : List Int} (h : ¬ OkP l d) : printS l d = ByteArray.empty := by
  unfold printS
  rw [if_neg]
  intro h'
  rw [Bool.and_eq_true, okPB_iff] at h'
  exact h h'.1
theorem printS_ill {l d : List Int} (h : allP (prS l d) = false) : printS l d = ByteArray.empty := by
  unfold printS
  rw [h, Bool.and_false]; rfl
theorem printS_good {l d : List Int} (h : OkP l d) (h' : allP (prS l d) = true) : printS l d = strOfNums (encZ (prS l d)) := by
  unfold printS
  rw [h', Bool.and_true, if_pos ((okPB_iff l d).2 h)]
theorem encZ_byte (t : List Int) : ByteZ (encZ t) := by
  intro z hz
  unfold encZ at hz
  obtain ⟨r, _, hr⟩ := List.mem_flatMap.1 hz
  have := Lib.encodeRuneZ_byte r z hr
  omega
theorem patS_enc {t : List Int} (h : allP t = true) : patS (strOfNums (encZ t)) = parseS t := by
  unfold patS
  rw [bytesS_of _ (encZ_byte t), decP_enc t h]
  rfl
theorem patS_empty : patS ByteArray.empty = none := by decide +kernel
/-- what is printed is read as the same, and there is something exactly where they are a pattern's -/
theorem print_back {l d : List Int} : (printS l d = ByteArray.empty ∧ patS (printS l d) = none) ∨ (printS l d ≠ ByteArray.empty ∧ patS (printS l d) = some (l, d)) := by
  by_cases h : OkP l d
  · by_cases h' : allP (prS l d) = true
    · right
      have e := patS_enc h'
      rw [parse_print h] at e
      rw [printS_good h h']
      exact ⟨fun e0 => (by rw [e0, patS_empty] at e; cases e), e⟩
    · left
      rw [printS_ill (Bool.eq_false_iff.2 h')]
      exact ⟨rfl, patS_empty⟩
  · left
    rw [printS_bad h]
    exact ⟨rfl, patS_empty⟩
theorem putD_length (x : Int) : (putD x).length ≤ 1 := by unfold putD; split <;> simp
theorem prN_length (l d : List Int) : ∀ i, (prN l d i).length ≤ 2 * i
  | 0 => by simp [prN]
  | i + 1 => by
    have := prN_length l d i
    have := putD_length (d.getD i 0)
    rw [prN, List.length_append, List.length_append]
    split <;> simp only [List.length_cons, List.length_nil] <;> omega
theorem anyP_take (d : List Int) (k : Nat) (h : k < d.length) : anyP (d.take (k + 1)) = (anyP (d.take k) || decide (0 < d[k])) := by
  rw [List.take_add_one, List.getElem?_eq_getElem h, Option.toList_some, anyP_snoc]
/-- digits and letters looked at so far -/
def SeenP (l d : List Int) (k : Nat) : Prop := ∀ j, j < k → (0 ≤ d.getD j 0 ∧ d.getD j 0 ≤ 9) ∧ (j < l.length → ¬ isD (l.getD j 0))
theorem seen_succ {l d : List Int} {k : Nat} (h : SeenP l d k) (hD : 0 ≤ d.getD k 0 ∧ d.getD k 0 ≤ 9) (hL : k < l.length → ¬ isD (l.getD k 0)) : SeenP l d (k + 1) := fun j hj => by
  rcases Nat.lt_or_ge j k with e | e
  · exact h j e
  · have : j = k := by omega
    subst this
    exact ⟨hD, hL⟩
theorem seen_all {l d : List Int} (hl : d.length = l.length + 1) (hm : mayB l = true) (h : SeenP l d d.length) (ha : anyP d = true) : OkP l d := by
  refine ⟨hl, hm, fun x hx => ?_, fun c hc => ?_, ha⟩
  · obtain ⟨i, hi, rfl⟩ := List.mem_iff_getElem.1 hx
    have := (h i hi).1
    simpa [List.getD, List.getElem?_eq_getElem hi] using this
  · obtain ⟨i, hi, rfl⟩ := List.mem_iff_getElem.1 hc
    have := (h i (by omega)).2 hi
    simpa [List.getD, List.getElem?_eq_getElem hi] using this
theorem bad_digit {l d : List Int} {k : Nat} (hk : k < d.length) (h : d[k] < 0 ∨ 9 < d[k]) : ¬ OkP l d := fun h' => by
  have := h'.digits _ (List.getElem_mem hk)
  omega
theorem bad_letter {l d : List Int} {k : Nat} (hk : k < l.length) (h : isD l[k]) : ¬ OkP l d := fun h' => h'.letters _ (List.getElem_mem hk) h

set_option maxRecDepth 20000 in
set_option maxHeartbeats 4000000 in
theorem rprint_ok (A B : Option Addr) (c c' : Nat) (l d : List Int) (w : World) (hl : l.length ≤ 1000) (hd : d.length ≤ 1000) (hA : Has w w.heap.size A (l.map (Value.int .i32))) (hBd : Has w w.heap.size B (d.map (Value.int .i64))) :
    Calls Tryd.prog 14 #[.slice A l.length c, .slice B d.length c'] w fun e w' => e = .returned (.string (printS l d)) ∧ Below w.heap.size w w' := by
  obtain ⟨V, hV⟩ : ∃ V, printS l d = V := ⟨_, rfl⟩
  rw [hV]
  have HV := Lib.hid hV
  clear hV
  have cm := rmay_ok A c l w (by omega) hA
  obtain ⟨M, hM⟩ : ∃ M, mayB l = M := ⟨_, rfl⟩
  rw [hM] at cm
  by_cases hlen : d.length = l.length + 1
  · have hlen' : (d.length : Int) = l.length + 1 := by omega
    cases M
    · have HN : Hid (ByteArray.empty = V) := Lib.hid (by rw [← HV.out]; exact (printS_bad fun h => by have := h.may; rw [hM] at this; cases this).symm)
      clear HV hM hA hBd
      go_enter Tryd.func14, Tryd.ntmps14
      go_wp2_with (go_at_call 33; refine cm.mono ?_; rintro e w3 ⟨rfl, rfl⟩)
      go_ret
      exact ⟨by rw [← HN.out]; rfl, Below.refl _ _⟩
    · have HA := Lib.hid hA
      have HB := Lib.hid hBd
      have HMAY := Lib.hid hM
      clear hM hA hBd
      go_enter Tryd.func14, Tryd.ntmps14
      go_wp2_with (go_at_call 33; refine cm.mono ?_; rintro e w3 ⟨rfl, rfl⟩)
      go_loopw [5, 6, 7] (fun v an i wr => ∃ (k : Nat) (Y : Bool), k ≤ d.length ∧ an = .bool Y ∧ i = .int .i64 k ∧ Mine .i32 21 wr w.heap.size v (prN l d k) ∧ Below w.heap.size w wr ∧ Hid (Y = anyP (d.take k)) ∧ Hid (SeenP l d k)) (fun _ _ i _ => d.length - (intOf i).toNat)
      case atStart => exact ⟨0, false, by omega, rfl, rfl, Mine.nil_ _ _ _ _, Below.refl _ _, Lib.hid rfl, Lib.hid (fun j hj => absurd hj (by omega))⟩
      case round =>
        obtain ⟨k, Y, hk, rfl, rfl, h1, hbl, HY, HS⟩ := hrel
        have hB := hbl.size
        have hpl := prN_length l d k
        by_cases hlt : k < d.length
        · obtain ⟨b, off, rfl, hb, hcd⟩ := HB.out.at_int hlt
          have hcc := (hbl.cell (p := ⟨b, off + k, none⟩) hb).trans hcd
          have HYN := anyP_take d k hlt
          rw [← HY.out] at HYN
          have HPN : prN l d (k + 1) = prN l d k ++ putD (d.getD k 0) ++ (if k < l.length then [l.getD k 0] else []) := rfl
          have hDD : d.getD k 0 = d[k] := by simp [List.getD, List.getElem?_eq_getElem hlt]
          have hbad := fun q => bad_digit (l := l) (k := k) hlt q
          obtain ⟨D, hD⟩ : ∃ D, d[k] = D := ⟨_, rfl⟩
          rw [hDD] at HPN
          rw [hD] at hcc HYN HPN hbad hDD
          have HYN := Lib.hid HYN
          have HPN := Lib.hid HPN
          have HBAD := Lib.hid hbad
          have HDD := Lib.hid hDD
          obtain ⟨xs, hxs⟩ : ∃ xs, prN l d k = xs := ⟨_, rfl⟩
          rw [hxs] at h1 hpl HPN
          clear hD hbad hDD HY hxs hcd hb
          by_cases q1 : D < 0
          · have HN : Hid (ByteArray.empty = V) := Lib.hid (by rw [← HV.out]; exact (printS_bad (HBAD.out (Or.inl q1))).symm)
            go_wp2
            go_ret
            exact ⟨by rw [← HN.out]; rfl, hbl⟩
          by_cases q2 : D > 9
          · have HN : Hid (ByteArray.empty = V) := Lib.hid (by rw [← HV.out]; exact (printS_bad (HBAD.out (Or.inr q2))).symm)
            go_wp2
            go_ret
            exact ⟨by rw [← HN.out]; rfl, hbl⟩
          by_cases hkl : k < l.length
          · obtain ⟨b2, off2, rfl, hb2, hca⟩ := HA.out.at_int hkl
            have hbl2 := fun q => bad_letter (d := d) (k := k) hkl q
            have hLL : l.getD k 0 = l[k] := by simp [List.getD, List.getElem?_eq_getElem hkl]
            obtain ⟨X, hX⟩ : ∃ X, l[k] = X := ⟨_, rfl⟩
            rw [hX] at hca hbl2 hLL
            have HCA := Lib.hid (fun (W : World) (hb : Below w.heap.size w W) => (hb.cell (p := ⟨b2, off2 + k, none⟩) hb2).trans hca)
            have hc2 := HCA.out _ hbl
            have HBL := Lib.hid hbl2
            have HLL := Lib.hid hLL
            have cg := fun w => rdigit_ok X w
            have hX1 : (k : Int) < l.length := by omega
            clear hX hbl2 hLL hca hb2
            have hkd : ¬ k = d.length := by omega
            by_cases hdg : isD X
            · have HN : Hid (ByteArray.empty = V) := Lib.hid (by rw [← HV.out]; exact (printS_bad (HBL.out hdg)).symm)
              simp only [hdg, decide_true] at cg
              clear hdg
              by_cases q3 : D > 0
              · go_wp2_with (first
                  | (go_at_call 32; refine (cg _).mono ?_; rintro e w9 ⟨rfl, rfl⟩)
                  | (at_builtin; refine wpList_push rfl _ _ 22 rfl Tryd.underlying22 infoI32 (by omega) w.heap.size _ xs (48 + D) w _ h1 rfl rfl hbl hB (by omega) ?_; intro v' w3 hM3 hb3; have hc3 := HCA.out _ hb3; have hB3 := hb3.size; have hl3 : (xs ++ [48 + D]).length ≤ 3000 := (by simp; omega); clear h1 hbl hB hpl))
                go_ret
                exact ⟨by rw [← HN.out]; rfl, hb3⟩
              · go_wp2_with (go_at_call 32; refine (cg _).mono ?_; rintro e w9 ⟨rfl, rfl⟩)
                go_ret
                exact ⟨by rw [← HN.out]; rfl, hbl⟩
            · have HS2 : Hid (SeenP l d (k + 1)) := Lib.hid (seen_succ HS.out (by rw [HDD.out]; omega) (fun _ => by rw [HLL.out]; exact hdg))
              simp only [hdg, decide_false] at cg
              clear hdg
              by_cases q3 : D > 0
              · have HP2 : Hid (xs ++ [48 + D] ++ [X] = prN l d (k + 1)) := Lib.hid (by rw [HPN.out, if_pos hkl, HLL.out, show putD D = [48 + D] from if_pos q3])
                have HY2 : Hid (true = anyP (d.take (k + 1))) := Lib.hid (by rw [HYN.out, decide_eq_true (show 0 < D from q3), Bool.or_true])
                go_wp2_with (first
                  | (go_at_call 32; refine (cg _).mono ?_; rintro e w9 ⟨rfl, rfl⟩)
                  | (at_builtin; refine wpList_push rfl _ _ 22 rfl Tryd.underlying22 infoI32 (by omega) w.heap.size _ xs (48 + D) w _ h1 rfl rfl hbl hB (by omega) ?_; intro v' w3 hM3 hb3; have hc3 := HCA.out _ hb3; have hB3 := hb3.size; have hl3 : (xs ++ [48 + D]).length ≤ 3000 := (by simp; omega); clear h1 hbl hB hpl)
                  | (at_builtin; refine wpList_push rfl _ _ 22 rfl Tryd.underlying22 infoI32 (by omega) w.heap.size _ (xs ++ [48 + D]) X w _ hM3 rfl rfl hb3 hB3 (by omega) ?_; intro v4 w4 hM4 hb4; clear hM3 hb3 hB3 hl3))
                go_roundw
                case rel => exact ⟨k + 1, true, by omega, rfl, by go_num, by rw [← HP2.out]; exact hM4, hb4, HY2, HS2⟩
                case measure => simp [intOf]; omega
              · have HP2 : Hid (xs ++ [X] = prN l d (k + 1)) := Lib.hid (by rw [HPN.out, if_pos hkl, HLL.out, show putD D = [] from if_neg q3, List.append_nil])
                have HY2 : Hid (Y = anyP (d.take (k + 1))) := Lib.hid (by rw [HYN.out, decide_eq_false (show ¬ 0 < D from q3), Bool.or_false])
                go_wp2_with (first
                  | (go_at_call 32; refine (cg _).mono ?_; rintro e w9 ⟨rfl, rfl⟩)
                  | (at_builtin; refine wpList_push rfl _ _ 22 rfl Tryd.underlying22 infoI32 (by omega) w.heap.size _ xs X w _ h1 rfl rfl hbl hB (by omega) ?_; intro v4 w4 hM4 hb4; clear h1 hbl hB hpl))
                go_roundw
                case rel => exact ⟨k + 1, Y, by omega, rfl, by go_num, by rw [← HP2.out]; exact hM4, hb4, HY2, HS2⟩
                case measure => simp [intOf]; omega
          · have hX1 : ¬ (k : Int) < l.length := by omega
            have HS2 : Hid (SeenP l d (k + 1)) := Lib.hid (seen_succ HS.out (by rw [HDD.out]; omega) (fun h => absurd h hkl))
            by_cases q3 : D > 0
            · have HP2 : Hid (xs ++ [48 + D] = prN l d (k + 1)) := Lib.hid (by rw [HPN.out, if_neg hkl, List.append_nil, show putD D = [48 + D] from if_pos q3])
              have HY2 : Hid (true = anyP (d.take (k + 1))) := Lib.hid (by rw [HYN.out, decide_eq_true (show 0 < D from q3), Bool.or_true])
              go_wp2_with (at_builtin; refine wpList_push rfl _ _ 22 rfl Tryd.underlying22 infoI32 (by omega) w.heap.size _ xs (48 + D) w _ h1 rfl rfl hbl hB (by omega) ?_; intro v' w3 hM3 hb3; clear h1 hbl hB hpl)
              go_roundw
              case rel => exact ⟨k + 1, true, by omega, rfl, by go_num, by rw [← HP2.out]; exact hM3, hb3, HY2, HS2⟩
              case measure => simp [intOf]; omega
            · have HP2 : Hid (xs = prN l d (k + 1)) := Lib.hid (by rw [HPN.out, if_neg hkl, List.append_nil, show putD D = [] from if_neg q3, List.append_nil])
              have HY2 : Hid (Y = anyP (d.take (k + 1))) := Lib.hid (by rw [HYN.out, decide_eq_false (show ¬ 0 < D from q3), Bool.or_false])
              go_wp2
              go_roundw
              case rel => exact ⟨k + 1, Y, by omega, rfl, by go_num, by rw [← HP2.out]; exact h1, hbl, HY2, HS2⟩
              case measure => simp [intOf]; omega
        · obtain rfl : k = d.length := by omega
          rw [prN_is l d hlen] at h1 hpl
          have hok := fun ha => seen_all hlen HMAY.out HS.out ha
          have hY := HY.out
          rw [List.take_length] at hY
          rw [← hY] at hok
          obtain ⟨A5, c5, rfl, hc5, _, hh5⟩ := h1.size
          have ce := refEncode_ok A5 c5 (prS l d) wr (by omega) hh5
          have HOK := Lib.hid hok
          have HY := Lib.hid hY
          clear hok hY h1 hh5 hc5 HS
          obtain ⟨C, hC⟩ : ∃ C, codeP (prS l d) = C := ⟨_, rfl⟩
          rw [hC] at ce
          cases Y
          · have HN : Hid (ByteArray.empty = V) := Lib.hid (by rw [← HV.out]; exact (printS_bad fun h => by have := h.some_; rw [← HY.out] at this; cases this).symm)
            go_wp2_with (go_at_call 37; refine ce.mono ?_; rintro e w3 ⟨v, rfl, A1, c1, rfl, hc1, hh1, hb1⟩)
            go_ret
            exact ⟨by rw [← HN.out]; rfl, below_trans hbl hb1 hB⟩
          · by_cases ha : allP (prS l d) = true
            · obtain rfl : C = 0 := by rw [← hC]; exact if_pos ha
              have e1 : encP (prS l d) = encZ (prS l d) := if_pos ha
              rw [e1] at ce
              have HN : Hid (strOfNums (encZ (prS l d)) = V) := Lib.hid (by rw [← HV.out]; exact (printS_good (HOK.out rfl) ha).symm)
              obtain ⟨zs, hzs⟩ : ∃ zs, encZ (prS l d) = zs := ⟨_, rfl⟩
              rw [hzs] at ce HN
              clear e1 hzs ha hC
              go_wp2_with (first
                | (go_at_call 37; refine ce.mono ?_; rintro e w3 ⟨v, rfl, A1, c1, rfl, hc1, hh1, hb1⟩)
                | (refine wpList_string _ rfl _ 54 9 5 rfl Tryd.underlying54 Tryd.underlying5 Tryd.underlying9 A1 c1 zs rfl hh1 ?_))
              go_ret
              exact ⟨by rw [← HN.out]; rfl, below_trans hbl hb1 hB⟩
            · obtain rfl : C = 13 := by rw [← hC]; exact if_neg ha
              have HN : Hid (ByteArray.empty = V) := Lib.hid (by rw [← HV.out]; exact (printS_ill (Bool.eq_false_iff.2 ha)).symm)
              go_wp2_with (go_at_call 37; refine ce.mono ?_; rintro e w3 ⟨v, rfl, A1, c1, rfl, hc1, hh1, hb1⟩)
              go_ret
              exact ⟨by rw [← HN.out]; rfl, below_trans hbl hb1 hB⟩
  · have HN : Hid (ByteArray.empty = V) := Lib.hid (by rw [← HV.out]; exact (printS_bad fun h => hlen h.len).symm)
    have hlen' : ¬ (d.length : Int) = l.length + 1 := by omega
    clear HV hM hA hBd
    go_enter Tryd.func14, Tryd.ntmps14
    go_wp2
    go_ret
    exact ⟨by rw [← HN.out]; rfl, Below.refl _ _⟩
end Go.Proofs.YtekjejbcdnghjaaDoor
