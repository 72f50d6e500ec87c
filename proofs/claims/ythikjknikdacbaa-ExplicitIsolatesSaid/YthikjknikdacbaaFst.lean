/-
  Contracts: the program's First (the first strong class of a range, by a depth that it counts) and what opens. Condition: at most 1000 classes.
-/
import Derived.Test.YthikjknikdacbaaOwn
import Derived.Test.YthikjknikdacbaaMinMax
import Derived.Test.YthikjknikdacbaaMaF
set_option linter.unusedVariables false
set_option linter.unusedSimpArgs false
namespace Go.Proofs.Ythikjknikdacbaa
open Go.ChangeShapes Go.WideShapes Go.ChangeAt Go.RowKit

section
variable {X : Int} {l : List Int} {d : Nat}
theorem str_not (h : strC X = true) : opnC X = false ∧ X ≠ 11 ∧ X ≠ 23 := by
  unfold strC at h
  simp only [Bool.or_eq_true, beq_iff_eq] at h
  rcases h with (rfl | rfl) | rfl <;> exact ⟨rfl, by decide, by decide⟩
theorem fc_open (h : opnC X = true) : fst0 d (X :: l) = fst0 (d + 1) l := by
  obtain ⟨a, b⟩ := open_not _ h
  cases d with
  | zero => rw [fst0, if_neg (by rw [a]; decide), if_neg b, if_pos h]
  | succ d => rw [fst0, if_neg b, if_pos h]
theorem fc_pdi0 : fst0 0 (23 :: l) = fst0 0 l := by rw [fst0, if_neg (by decide), if_neg (by decide), if_neg (by decide)]
theorem fc_pdi : fst0 (d + 1) (23 :: l) = fst0 d l := by rw [fst0, if_neg (by decide), if_neg (by decide), if_pos rfl]
theorem fc_b : fst0 d (11 :: l) = 0 := by
  cases d with
  | zero => rw [fst0, if_neg (by decide), if_pos rfl]
  | succ d => rw [fst0, if_pos rfl]
theorem fc_str0 (h : strC X = true) : fst0 0 (X :: l) = X := by rw [fst0, if_pos h]
theorem fc_str (h : strC X = true) : fst0 (d + 1) (X :: l) = fst0 (d + 1) l := by
  obtain ⟨a, b, c⟩ := str_not h
  rw [fst0, if_neg b, if_neg (by rw [a]; decide), if_neg c]
theorem fc_skip (h1 : strC X = false) (h2 : X ≠ 11) (h3 : opnC X = false) (h4 : X ≠ 23) : fst0 d (X :: l) = fst0 d l := by
  cases d with
  | zero => rw [fst0, if_neg (by rw [h1]; decide), if_neg h2, if_neg (by rw [h3]; decide)]
  | succ d => rw [fst0, if_neg h2, if_neg (by rw [h3]; decide), if_neg h4]
end
theorem firstV_eq (cs : List Int) (a b : Int) : firstV cs a b = fst0 0 ((cs.take (min b cs.length).toNat).drop (max a 0).toNat) := by
  unfold firstV
  dsimp only
  split
  · rw [List.drop_of_length_le (by rw [List.length_take]; omega)]; rfl
  · rw [List.drop_take]

set_option maxRecDepth 20000 in
set_option maxHeartbeats 4000000 in
theorem first_ok (A : Option Addr) (n c : Nat) (cs : List Int) (a b : Int) (w : World) (hn : n = cs.length) (hmax : n ≤ 1000) (h : Has w w.heap.size A (cs.map (Value.int .i64))) :
    Calls Try.prog 50 #[.slice A n c, .int .i64 a, .int .i64 b] w fun e w' => e = .returned (.int .i64 (firstV cs a b)) ∧ w = w' := by
  obtain ⟨F, hF⟩ : ∃ F : Nat, max a 0 = (F : Int) := ⟨(max a 0).toNat, by omega⟩
  obtain ⟨T, hT⟩ : ∃ T : Int, min b (n : Int) = T := ⟨_, rfl⟩
  have hTn : T ≤ n := by omega
  have hV := firstV_eq cs a b
  rw [← hn, hF, hT] at hV
  obtain ⟨R, hR⟩ : ∃ R, firstV cs a b = R := ⟨_, rfl⟩
  rw [hR] at hV ⊢
  have HN := Lib.hid hn
  have HF := Lib.hid hF
  have HT := Lib.hid hT
  have HH := Lib.hid h
  have HV : Hid (R = fst0 0 ((cs.take T.toNat).drop F)) := Lib.hid hV
  clear hn hF hT h hV hR
  go_enter Try.func50, Try.ntmps50
  go_wp2_with (first
    | (refine wpList_max rfl _ _ _ rfl a 0 rfl rfl (F : Int) HF.out ?_)
    | (refine wpList_min rfl _ _ _ rfl b n rfl rfl T HT.out ?_))
  go_loopw [7, 8] (fun v7 v8 wr => ∃ x d : Nat, d ≤ x ∧ d ≤ 1000 ∧ v7 = .int .i64 d ∧ v8 = .int .i64 x ∧ Hid (R = fst0 d ((cs.take T.toNat).drop x)) ∧ w = wr) (fun _ v8 _ => (T - intOf v8).toNat)
  case atStart => exact ⟨F, 0, Nat.zero_le _, by omega, rfl, rfl, HV, rfl⟩
  case round =>
    obtain ⟨x, d, hdx, hd, rfl, rfl, HR, rfl⟩ := hrel
    by_cases hxT : (x : Int) < T
    · have hxn : x < cs.length := by have := HN.out; omega
      obtain ⟨b1, o1, hA, hb1, hcc⟩ := HH.out.at_int hxn
      subst hA
      have hdr : (cs.take T.toNat).drop x = cs[x] :: (cs.take T.toNat).drop (x + 1) := by
        rw [List.drop_eq_getElem_cons (by rw [List.length_take]; omega), List.getElem_take]
      have HR2 : Hid (R = fst0 d (cs[x] :: (cs.take T.toNat).drop (x + 1))) := Lib.hid (by rw [← hdr]; exact HR.out)
      generalize cs[x] = X at hcc HR2
      clear HR hdr HV hxn
      by_cases ho : opnC X = true
      · have HR3 : Hid (R = fst0 (d + 1) ((cs.take T.toNat).drop (x + 1))) := Lib.hid (by rw [HR2.out, fc_open ho])
        clear HR2
        unfold opnC at ho
        simp only [Bool.or_eq_true, beq_iff_eq] at ho
        rcases ho with (rfl | rfl) | rfl
        all_goals
          go_wp2
          go_roundw
          case rel => exact ⟨x + 1, d + 1, by omega, by omega, by go_num, by go_num, HR3, trivial⟩
          case measure => simp [intOf] <;> omega
      · by_cases hp : X = 23
        · subst hp
          cases d with
          | zero =>
            have HR3 : Hid (R = fst0 0 ((cs.take T.toNat).drop (x + 1))) := Lib.hid (by rw [HR2.out, fc_pdi0])
            clear HR2 ho
            go_wp2_with (refine wpList_max rfl _ _ _ rfl (-1) 0 rfl rfl 0 (by decide) ?_)
            go_roundw
            case rel => exact ⟨x + 1, 0, by omega, by omega, by go_num, by go_num, HR3, trivial⟩
            case measure => simp [intOf] <;> omega
          | succ d =>
            have HR3 : Hid (R = fst0 d ((cs.take T.toNat).drop (x + 1))) := Lib.hid (by rw [HR2.out, fc_pdi])
            clear HR2 ho
            have e1 : ((d + 1 : Nat) : Int) - 1 = (d : Int) := by omega
            go_wp2_with (refine wpList_max rfl _ _ _ rfl (d : Int) 0 rfl rfl (d : Int) (by omega) ?_)
            go_roundw
            case rel => exact ⟨x + 1, d, by omega, by omega, by go_num, by go_num, HR3, trivial⟩
            case measure => simp [intOf] <;> omega
        · by_cases hB : X = 11
          · subst hB
            have HR3 : Hid (R = 0) := Lib.hid (by rw [HR2.out, fc_b])
            clear HR2 ho
            go_wp2
            go_ret
            exact ⟨by rw [HR3.out]; rfl, rfl⟩
          · by_cases hs : strC X = true
            · cases d with
              | zero =>
                have HR3 : Hid (R = X) := Lib.hid (by rw [HR2.out, fc_str0 hs])
                clear HR2 ho
                unfold strC at hs
                simp only [Bool.or_eq_true, beq_iff_eq] at hs
                rcases hs with (rfl | rfl) | rfl
                all_goals
                  go_wp2
                  go_ret
                  exact ⟨by rw [HR3.out]; rfl, rfl⟩
              | succ d =>
                have HR3 : Hid (R = fst0 (d + 1) ((cs.take T.toNat).drop (x + 1))) := Lib.hid (by rw [HR2.out, fc_str hs])
                clear HR2 ho
                have e1 : (((d + 1 : Nat) : Int) == 0) = false := by simp; omega
                unfold strC at hs
                simp only [Bool.or_eq_true, beq_iff_eq] at hs
                rcases hs with (rfl | rfl) | rfl
                all_goals
                  go_wp2
                  go_roundw
                  case rel => exact ⟨x + 1, d + 1, by omega, by omega, by go_num, by go_num, HR3, trivial⟩
                  case measure => simp [intOf] <;> omega
            · have HR3 : Hid (R = fst0 d ((cs.take T.toNat).drop (x + 1))) := Lib.hid (by rw [HR2.out, fc_skip (by simpa using hs) hB (by simpa using ho) hp])
              clear HR2
              unfold opnC at ho
              unfold strC at hs
              simp only [Bool.not_eq_true, Bool.or_eq_false_iff] at ho hs
              obtain ⟨⟨o1', o2'⟩, o3'⟩ := ho
              obtain ⟨⟨s1', s2'⟩, s3'⟩ := hs
              have p1 : (X == 23) = false := by simpa using hp
              have p2 : (X == 11) = false := by simpa using hB
              go_wp2
              go_roundw
              case rel => exact ⟨x + 1, d, by omega, by omega, by go_num, by go_num, HR3, trivial⟩
              case measure => simp [intOf] <;> omega
    · have HR3 : Hid (R = 0) := Lib.hid (by rw [HR.out, List.drop_of_length_le (by rw [List.length_take]; omega)]; cases d <;> rfl)
      clear HR HV
      go_wp2
      go_ret
      exact ⟨by rw [HR3.out]; rfl, rfl⟩

set_option maxHeartbeats 2000000 in
theorem opens_ok (c : Int) (w : World) : Calls Try.prog 44 #[.int .i64 c] w fun e w' => e = .returned (.bool (opnC c)) ∧ w = w' := by
  by_cases h0 : c = 20
  · subst h0
    go_enter Try.func44, Try.ntmps44
    go_wp2
    go_ret
    exact ⟨rfl, rfl⟩
  by_cases h1 : c = 21
  · subst h1
    go_enter Try.func44, Try.ntmps44
    go_wp2
    go_ret
    exact ⟨rfl, rfl⟩
  have e0 : (c == 20) = false := by simpa using h0
  have e1 : (c == 21) = false := by simpa using h1
  have HO : Hid (opnC c = (c == 22)) := Lib.hid (by unfold opnC; rw [e0, e1]; rfl)
  obtain ⟨q, hq⟩ : ∃ q, (c == 22) = q := ⟨_, rfl⟩
  have HQ := Lib.hid hq
  go_enter Try.func44, Try.ntmps44
  go_wp2
  go_ret
  exact ⟨by rw [HO.out, HQ.out]; rfl, rfl⟩
end Go.Proofs.Ythikjknikdacbaa
