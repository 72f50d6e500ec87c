/-
  Contracts of the document's digit, may, small and stands. No condition.
-/
import Derived.Test.YtekjejbcdnghjaaDoorZd
import Derived.Test.YtekjejbcdnghjaaDoorZOwn
import Derived.Test.YtekjejbcdnghjaaDoorZa
import Derived.Deep.QuietTactic
import Derived.BigQuiet
import Derived.Test.YtekjejbcdnghjaaDoorZHtw
import Derived.Test.YtekjejbcdnghjaaDoorZc
import Derived.Test.YtekjejbcdnghjaaDoorZStr
import Derived.Test.YtekjejbcdnghjaaDoorZRow
set_option linter.unusedVariables false
set_option linter.unusedSimpArgs false
namespace Go.Proofs.YtekjejbcdnghjaaDoor
open Go.ChangeShapes Go.WideShapes Go.ChangeAt Go.RowKit

theorem rdigit_ok (r : Int) (w : World) : Calls Tryd.prog 32 #[.int .i32 r] w fun e w' => e = .returned (.bool (decide (isD r))) ∧ w = w' := by
  unfold isD
  by_cases h1 : 48 ≤ r
  · have e : decide (48 ≤ r ∧ r ≤ 57) = decide (r ≤ 57) := by apply decide_eq_decide.2; omega
    rw [e]
    go_enter Tryd.func32, Tryd.ntmps32
    go_wp2
    all_goals go_ret
    all_goals exact ⟨by first | rfl | (simp <;> omega), rfl⟩
  · have e : decide (48 ≤ r ∧ r ≤ 57) = false := by simp; omega
    rw [e]
    go_enter Tryd.func32, Tryd.ntmps32
    go_wp2
    all_goals go_ret
    all_goals exact ⟨by first | rfl | (simp <;> omega), rfl⟩
theorem rsmall_ok (r : Int) (w : World) : Calls Tryd.prog 40 #[.int .i32 r] w fun e w' => e = .returned (.int .i32 (smallZ r)) ∧ w = w' := by
  obtain ⟨V, hV⟩ : ∃ V, smallZ r = V := ⟨_, rfl⟩
  have HV := Lib.hid hV
  rw [hV]
  clear hV
  unfold smallZ at HV
  by_cases h1 : 65 ≤ r
  · by_cases h2 : r ≤ 90
    · have e : V = r + 32 := by rw [← HV.out, if_pos ⟨h1, h2⟩]
      subst e
      go_enter Tryd.func40, Tryd.ntmps40
      go_wp2
      go_ret
      exact ⟨by go_num, rfl⟩
    · have e : V = r := by rw [← HV.out, if_neg (by omega)]
      subst e
      go_enter Tryd.func40, Tryd.ntmps40
      go_wp2
      go_ret
      exact ⟨rfl, rfl⟩
  · have e : V = r := by rw [← HV.out, if_neg (by omega)]
    subst e
    go_enter Tryd.func40, Tryd.ntmps40
    go_wp2
    go_ret
    exact ⟨rfl, rfl⟩

theorem ownN_take (l : List Int) (k : Nat) (h : k < l.length) : ownN (l.take (k + 1)) = ownN (l.take k) + (if l[k] = 46 then 0 else 1) := by
  rw [List.take_add_one, List.getElem?_eq_getElem h, Option.toList_some, ownN_snoc]
theorem rmay_ok (A : Option Addr) (c : Nat) (l : List Int) (w : World) (hn : l.length ≤ 9223372036854775807) (h : Has w w.heap.size A (l.map (Value.int .i32))) :
    Calls Tryd.prog 33 #[.slice A l.length c] w fun e w' => e = .returned (.bool (mayB l)) ∧ w = w' := by
  obtain ⟨V, hV⟩ : ∃ V, mayB l = V := ⟨_, rfl⟩
  rw [hV]
  have HV := Lib.hid hV
  clear hV
  go_enter Tryd.func33, Tryd.ntmps33
  go_wp2
  go_loop [3, 4] (fun o i => ∃ k : Nat, k ≤ l.length ∧ o = .int .i64 (ownN (l.take k)) ∧ i = .int .i64 k ∧ Hid (∀ j, j < k → l.getD j 0 = 46 → j = 0 ∨ j + 1 = l.length)) (fun _ i => l.length - (intOf i).toNat)
  case atStart => exact ⟨0, by omega, rfl, rfl, Lib.hid (fun j hj => absurd hj (by omega))⟩
  case round =>
    obtain ⟨k, hk, rfl, rfl, HK⟩ := hrel
    have ho := Nat.le_trans (ownN_le (l.take k)) (List.length_take_le _ _)
    have hol := ownN_le l
    obtain ⟨O, hO⟩ : ∃ O, ownN (l.take k) = O := ⟨_, rfl⟩
    rw [hO] at ho ⊢
    by_cases hlt : k < l.length
    · obtain ⟨b, off, rfl, hb, hc⟩ := h.at_int hlt
      have HT := ownN_take l k hlt
      have hD : l.getD k 0 = l[k] := by simp [List.getD, List.getElem?_eq_getElem hlt]
      obtain ⟨X, hX⟩ : ∃ X, l[k] = X := ⟨_, rfl⟩
      rw [hX] at hc HT hD
      rw [hO] at HT
      have HT := Lib.hid HT
      have HD := Lib.hid hD
      have HO := Lib.hid hO
      clear hX hD hO h hol
      by_cases hx : X = 46
      · subst hx
        by_cases q : 0 < k ∧ k + 1 < l.length
        · have q1 : (k : Int) > 0 := by omega
          have q2 : (k : Int) < (l.length : Int) - 1 := by omega
          have HF : Hid (V = false) := Lib.hid (by
            rw [← HV.out, Bool.eq_false_iff]
            intro hm
            have := ((mayB_iff l).1 hm).2.2 k hlt HD.out
            omega)
          clear HT HD HK
          go_wp2
          go_ret
          exact ⟨by rw [HF.out]; rfl, rfl⟩
        · have HN : Hid (∀ j, j < k + 1 → l.getD j 0 = 46 → j = 0 ∨ j + 1 = l.length) := Lib.hid (fun j hj e => by
            rcases Nat.lt_or_ge j k with h1 | h1
            · exact HK.out j h1 e
            · omega)
          have HE : Hid (ownN (l.take (k + 1)) = O) := Lib.hid (by rw [HT.out, if_pos rfl]; rfl)
          clear HT HD HK
          by_cases q1 : (k : Int) > 0
          · have q2 : ¬ (k : Int) < (l.length : Int) - 1 := by omega
            go_wp2
            go_round
            case rel => exact ⟨k + 1, by omega, by rw [HE.out], by go_num, HN⟩
            case measure => simp [intOf]; omega
          · go_wp2
            go_round
            case rel => exact ⟨k + 1, by omega, by rw [HE.out], by go_num, HN⟩
            case measure => simp [intOf]; omega
      · have HN : Hid (∀ j, j < k + 1 → l.getD j 0 = 46 → j = 0 ∨ j + 1 = l.length) := Lib.hid (fun j hj e => by
          rcases Nat.lt_or_ge j k with h1 | h1
          · exact HK.out j h1 e
          · have : j = k := by omega
            subst this
            exact absurd (HD.out.symm.trans e) hx)
        have HE : Hid (ownN (l.take (k + 1)) = O + 1) := Lib.hid (by rw [HT.out, if_neg hx])
        clear HT HD HK
        go_wp2
        go_round
        case rel => exact ⟨k + 1, by omega, by rw [HE.out]; go_num, by go_num, HN⟩
        case measure => simp [intOf]; omega
    · obtain rfl : k = l.length := by omega
      have hO' : ownN l = O := by rw [← hO, List.take_length]
      have HR : Hid (V = decide (1 ≤ O ∧ O ≤ 16)) := Lib.hid (by
        rw [← HV.out, Bool.eq_iff_iff, mayB_iff, hO', decide_eq_true_eq]
        exact ⟨fun h => ⟨h.1, h.2.1⟩, fun h => ⟨h.1, h.2, fun i hi e => HK.out i hi e⟩⟩)
      clear hO hO' hol
      by_cases q1 : 1 ≤ O
      · have q1' : (O : Int) ≥ 1 := by omega
        by_cases q2 : O ≤ 16
        · have q2' : (O : Int) ≤ 16 := by omega
          go_wp2
          go_ret
          exact ⟨by rw [HR.out, decide_eq_true ⟨q1, q2⟩]; first | rfl | (simp <;> omega), rfl⟩
        · have q2' : ¬ (O : Int) ≤ 16 := by omega
          go_wp2
          go_ret
          exact ⟨by rw [HR.out, decide_eq_false (fun h => q2 h.2)]; first | rfl | (simp <;> omega), rfl⟩
      · have q1' : ¬ (O : Int) ≥ 1 := by omega
        go_wp2
        go_ret
        exact ⟨by rw [HR.out, decide_eq_false (fun h => q1 h.1)]; first | rfl | (simp <;> omega), rfl⟩

theorem pre_take (l u : List Int) (k : Nat) (hl : k < l.length) (hu : k < u.length) (h : l.take k = u.take k) (e : l[k] = u[k]) : l.take (k + 1) = u.take (k + 1) := by
  rw [List.take_add_one, List.take_add_one, h, List.getElem?_eq_getElem hl, List.getElem?_eq_getElem hu, e]
theorem pre_all (l u : List Int) (h : l.take l.length = u.take l.length) (hl : l.length ≤ u.length) : l.isPrefixOf u = true := by
  rw [List.isPrefixOf_iff_prefix, List.prefix_iff_eq_take, ← h, List.take_length]
theorem pre_not (l u : List Int) (k : Nat) (hl : k < l.length) (hu : k < u.length) (e : l[k] ≠ u[k]) : l.isPrefixOf u = false := by
  rw [Bool.eq_false_iff]
  intro h
  rw [List.isPrefixOf_iff_prefix] at h
  obtain ⟨v, rfl⟩ := h
  exact e (by rw [List.getElem_append_left hl])
theorem pre_long (l u : List Int) (h : u.length < l.length) : l.isPrefixOf u = false := by
  rw [Bool.eq_false_iff]
  intro h'
  rw [List.isPrefixOf_iff_prefix] at h'
  have := h'.length_le
  omega
theorem drew_two (w : World) (q r : Nat) : ∃ s, (w.drewN q).drewN r = w.drewN s := ⟨q + r, by simp [World.drewN, Nat.add_assoc]⟩
theorem rstands_ok (A B : Option Addr) (c d : Nat) (l t : List Int) (a : Nat) (w : World) (hn : l.length ≤ 1000000000) (hm : t.length ≤ 1000000000) (ha : a ≤ t.length)
    (h1 : Has w w.heap.size A (l.map (Value.int .i32))) (h2 : Has w w.heap.size B (t.map (Value.int .i32))) :
    Calls Tryd.prog 41 #[.slice A l.length c, .slice B t.length d, .int .i64 a] w fun e w' => e = .returned (.bool (l.isPrefixOf (t.drop a))) ∧ ∃ q, w' = w.drewN q := by
  obtain ⟨V, hV⟩ : ∃ V, l.isPrefixOf (t.drop a) = V := ⟨_, rfl⟩
  rw [hV]
  have HV := Lib.hid hV
  clear hV
  have hul : (t.drop a).length = t.length - a := List.length_drop ..
  have HU := Lib.hid hul
  clear hul
  by_cases hl : a + l.length ≤ t.length
  · have hl' : ¬ (a : Int) + l.length > t.length := by omega
    go_enter Tryd.func41, Tryd.ntmps41
    go_wp2
    go_loopw [7] (fun i wr => ∃ k : Nat, k ≤ l.length ∧ i = .int .i64 k ∧ Hid (l.take k = (t.drop a).take k) ∧ ∃ q, wr = w.drewN q) (fun i _ => l.length - (intOf i).toNat)
    case atStart => exact ⟨0, by omega, rfl, Lib.hid rfl, 0, rfl⟩
    case round =>
      obtain ⟨k, hk, rfl, HT, q, rfl⟩ := hrel
      by_cases hlt : k < l.length
      · have hlt2 : a + k < t.length := by omega
        have hlt3 : k < (t.drop a).length := by rw [HU.out]; omega
        obtain ⟨b, off, rfl, hb, hc⟩ := h1.at_int hlt
        obtain ⟨b2, off2, rfl, hb2, hc2⟩ := h2.at_int hlt2
        have hY3 : (t.drop a)[k] = t[a + k] := List.getElem_drop ..
        obtain ⟨X, hX⟩ : ∃ X, l[k] = X := ⟨_, rfl⟩
        obtain ⟨Y, hY⟩ : ∃ Y, t[a + k] = Y := ⟨_, rfl⟩
        rw [hX] at hc
        rw [hY] at hc2 hY3
        have HX := Lib.hid hX
        have HY := Lib.hid hY3
        clear hX hY hY3 h1 h2
        by_cases hxy : Y = X
        · have HTn := Lib.hid (pre_take l (t.drop a) k hlt hlt3 HT.out (by rw [HX.out, HY.out, hxy]))
          subst hxy
          go_wp2
          go_quiet (fail)
          go_wp2
          go_roundw
          case rel => exact ⟨k + 1, by omega, by go_num, HTn, _, rfl⟩
          case measure => simp [intOf]; omega
        · have HF := Lib.hid (pre_not l (t.drop a) k hlt hlt3 (by rw [HX.out, HY.out]; exact fun e => hxy e.symm))
          go_wp2
          go_quiet (fail)
          go_wp2
          go_ret
          exact ⟨by rw [← HV.out, HF.out]; rfl, drew_two _ _ _⟩
      · obtain rfl : k = l.length := by omega
        have HE : Hid (V = true) := Lib.hid (by rw [← HV.out]; exact pre_all l _ HT.out (by rw [HU.out]; omega))
        go_wp2
        go_ret
        exact ⟨by rw [HE.out]; rfl, _, rfl⟩
  · have hl' : (a : Int) + l.length > t.length := by omega
    have HE : Hid (V = false) := Lib.hid (by rw [← HV.out]; exact pre_long l _ (by rw [HU.out]; omega))
    go_enter Tryd.func41, Tryd.ntmps41
    go_wp2
    go_ret
    exact ⟨by rw [HE.out]; rfl, 0, rfl⟩
end Go.Proofs.YtekjejbcdnghjaaDoor

/-
  Contract of the document's Parse. Condition: a text of at most a million bytes.
-/
set_option linter.unusedVariables false
set_option linter.unusedSimpArgs false
namespace Go.Proofs.YtekjejbcdnghjaaDoor
open Go.ChangeShapes Go.WideShapes Go.ChangeAt Go.RowKit

/-- the pattern of a text -/
def patS (s : ByteArray) : Option (List Int × List Int) := if (decP (bytesS s)).2.2 = 0 then parseS (decP (bytesS s)).1 else none
/-- what Parse hands back -/
def ParseOf (w w' : World) (e : Ending) (x : Option (List Int × List Int)) : Prop :=
  match x with
  | none => e = .returned (.tuple #[.slice none 0 0, .slice none 0 0, .bool false]) ∧ Below w.heap.size w w'
  | some z => ∃ v u, e = .returned (.tuple #[v, u, .bool true]) ∧ SliceV .i32 w w' v z.1 ∧ SliceV .i64 w w' u z.2

theorem byteZ_of (s : ByteArray) : ByteZ (bytesS s) := bytesS_range s
theorem anyP_snoc (d : List Int) (x : Int) : anyP (d ++ [x]) = (anyP d || decide (0 < x)) := by simp [anyP]
/-- the reading, from a place on -/
def RestZ (t l d : List Int) (N : Int) (S : Bool) (k : Nat) : Prop := pz 0 false t = (pz N S (t.drop k)).map fun z => (l ++ z.1, d ++ z.2)
theorem rest_start (t : List Int) : RestZ t [] [] 0 false 0 := by
  unfold RestZ
  rw [List.drop_zero]
  cases pz 0 false t <;> simp
theorem rest_digit {t l d : List Int} {N : Int} {k : Nat} (h : RestZ t l d N false k) (hk : k < t.length) (hd : isD t[k]) : RestZ t l d (t[k] - 48) true (k + 1) := by
  unfold RestZ at h ⊢
  rw [List.drop_eq_getElem_cons hk, pz_digit hd] at h
  exact h
theorem rest_twice {t l d : List Int} {N : Int} {k : Nat} (h : RestZ t l d N true k) (hk : k < t.length) (hd : isD t[k]) : parseS t = none := by
  unfold RestZ at h
  rw [List.drop_eq_getElem_cons hk, pz_twice hd] at h
  unfold parseS
  rw [h]; rfl
theorem rest_letter {t l d : List Int} {N : Int} {S : Bool} {k : Nat} (h : RestZ t l d N S k) (hk : k < t.length) (hd : ¬ isD t[k]) : RestZ t (l ++ [t[k]]) (d ++ [N]) 0 false (k + 1) := by
  unfold RestZ at h ⊢
  rw [List.drop_eq_getElem_cons hk, pz_letter hd] at h
  rw [h, Option.map_map]
  congr 1
  funext z
  simp
theorem rest_end {t l d : List Int} {N : Int} {S : Bool} (h : RestZ t l d N S t.length) : parseS t = if anyP (d ++ [N]) && mayB l then some (l, d ++ [N]) else none := by
  unfold RestZ at h
  rw [List.drop_length] at h
  unfold parseS
  rw [h]
  simp [pz]

theorem infoI64 : (Tryd.prog.info? 3).map (fun i => (i.zero, i.size, i.bytes)) = some (some (.int .i64 0), 1, 8) := by kernel_rfl

set_option maxRecDepth 20000 in
set_option maxHeartbeats 4000000 in
theorem rparse_ok (s : ByteArray) (w : World) (hn : s.size ≤ 1000000) : Calls Tryd.prog 10 #[.string s] w fun e w' => ParseOf w w' e (patS s) := by
  obtain ⟨V, hV⟩ : ∃ V, patS s = V := ⟨_, rfl⟩
  rw [hV]
  have HV := Lib.hid hV
  clear hV
  have hbl : (bytesS s).length ≤ 1000000 := by rw [bytesS_length]; exact hn
  have hlen := decP_len (bytesS s)
  have cd := fun (c : Nat) (W : World) (hc : (bytesS s).length ≤ c) (hh : Has W W.heap.size (some ⟨w.heap.size, 0, none⟩) ((bytesS s).map (Value.int .u8))) => refDecode_ok (some ⟨w.heap.size, 0, none⟩) c (bytesS s) W hbl hc (byteZ_of s) hh
  unfold patS at HV
  have hbs := bytesS_length s
  obtain ⟨T, hT⟩ : ∃ T, decP (bytesS s) = T := ⟨_, rfl⟩
  obtain ⟨t, p, E⟩ := T
  simp only [hT] at HV hlen cd
  have HBL := Lib.hid hbs
  clear hT hbs
  have HT := Lib.hid (show t.length ≤ 1000000 by omega)
  clear hlen hbl
  by_cases hE : E = 0
  · subst hE
    have HP : Hid (parseS t = V) := Lib.hid (by rw [← HV.out, if_pos rfl])
    clear HV
    go_enter Tryd.func10, Tryd.ntmps10
    go_wp2_with (first
      | (refine wpList_bytes _ rfl _ 9 54 5 rfl Tryd.underlying9 Tryd.underlying54 Tryd.underlying5 s rfl ?_; intro c w1 hc hh hb1)
      | (go_at_call 31; refine (cd _ _ (by rw [HBL.out]; exact hc) hh).mono ?_; rintro e w2 ⟨v, rfl, A, c2, rfl, hc2, hh2, hb2⟩; have h0 : Below w.heap.size w w2 := below_trans hb1 hb2 hb1.size; clear cd hh hb1 hb2))
    have HH := Lib.hid (fun (W : World) (hb : Below w2.heap.size w2 W) => hh2.carry hb)
    clear hh2 hc2 hc
    go_loopw [8, 9, 10, 11, 12, 13] (fun v u n sm an i wr => ∃ (k : Nat) (l d : List Int) (N : Int) (S Y : Bool), k ≤ t.length ∧ l.length ≤ k ∧ d.length ≤ k ∧ 0 ≤ N ∧ N ≤ 9 ∧ n = .int .i64 N ∧ sm = .bool S ∧ an = .bool Y ∧ i = .int .i64 k ∧ TwoM .i32 .i64 21 3 w2.heap.size w2 wr v u l d ∧ Hid (RestZ t l d N S k) ∧ Hid (Y = (anyP d || decide (0 < N))) ∧ Hid (S = false → N = 0)) (fun _ _ _ _ _ i _ => t.length - (intOf i).toNat)
    case atStart => exact ⟨0, [], [], 0, false, false, by omega, by simp, by simp, by omega, by omega, rfl, rfl, rfl, rfl, TwoM.nil_ _ _ _ _ _ _, Lib.hid (rest_start t), Lib.hid rfl, Lib.hid (fun _ => rfl)⟩
    case round =>
      obtain ⟨k, l, d, N, S, Y, hk, hl, hd, hN0, hN9, rfl, rfl, rfl, rfl, HM, HR, HY, HS⟩ := hrel
      have hT1 := HT.out
      by_cases hlt : k < t.length
      · obtain ⟨b, off, rfl, hb, hcc⟩ := (HH.out _ HM.bel).at_int hlt
        have h1 := HM.one
        have h2 := HM.two
        have hB := HM.bel.size
        have HM1 := Lib.hid HM
        obtain ⟨X, hX⟩ : ∃ X, t[k] = X := ⟨_, rfl⟩
        rw [hX] at hcc
        have HX := Lib.hid hX
        have cg := fun w => rdigit_ok X w
        clear hX
        by_cases hdg : isD X
        · simp only [hdg, decide_true] at cg
          have hdr := hdg
          unfold isD at hdr
          cases S
          · have HR2 : Hid (RestZ t l d (X - 48) true (k + 1)) := Lib.hid (by have := rest_digit HR.out hlt (by rw [HX.out]; exact hdg); rwa [HX.out] at this)
            have HN : Hid (N = 0) := Lib.hid (HS.out rfl)
            clear hdg HS HR HM h1 h2 hB
            cases Y
            · have HY2 : Hid (decide (0 < X - 48) = (anyP d || decide (0 < X - 48))) := Lib.hid (by
                have := HY.out
                have e : anyP d = false := by
                  cases h : anyP d
                  · rfl
                  · rw [h] at this; cases this
                rw [e]; rfl)
              have HY3 : Hid (decide (48 < X) = (anyP d || decide (0 < X - 48))) := Lib.hid (by rw [← HY2.out]; exact decide_eq_decide.2 (by omega))
              go_wp2_with (go_at_call 32; refine (cg _).mono ?_; rintro e w3 ⟨rfl, rfl⟩)
              go_roundw
              case rel => exact ⟨k + 1, l, d, X - 48, true, decide (48 < X), by omega, by omega, by omega, by omega, by omega, by go_num, rfl, rfl, by go_num, HM1.out, HR2, HY3, Lib.hid (fun h => by cases h)⟩
              case measure => simp [intOf]; omega
            · have HY2 : Hid (true = (anyP d || decide (0 < X - 48))) := Lib.hid (by
                have := HY.out
                rw [HN.out] at this
                rw [show anyP d = true by simpa using this.symm]; rfl)
              go_wp2_with (go_at_call 32; refine (cg _).mono ?_; rintro e w3 ⟨rfl, rfl⟩)
              go_roundw
              case rel => exact ⟨k + 1, l, d, X - 48, true, true, by omega, by omega, by omega, by omega, by omega, by go_num, rfl, rfl, by go_num, HM1.out, HR2, HY2, Lib.hid (fun h => by cases h)⟩
              case measure => simp [intOf]; omega
          · have HN : Hid (none = V) := Lib.hid (by rw [← HP.out]; exact (rest_twice HR.out hlt (by rw [HX.out]; exact hdg)).symm)
            have hbe := below_trans h0 HM.bel h0.size
            clear hdg HS HR HM h1 h2 hB
            go_wp2_with (go_at_call 32; refine (cg _).mono ?_; rintro e w3 ⟨rfl, rfl⟩)
            go_ret3
            rw [← HN.out]
            exact ⟨rfl, hbe⟩
        · simp only [hdg, decide_false] at cg
          have HR2 : Hid (RestZ t (l ++ [X]) (d ++ [N]) 0 false (k + 1)) := Lib.hid (by have := rest_letter HR.out hlt (by rw [HX.out]; exact hdg); rwa [HX.out] at this)
          have HY2 : Hid (Y = (anyP (d ++ [N]) || decide ((0 : Int) < 0))) := Lib.hid (by rw [anyP_snoc, ← HY.out]; simp)
          clear hdg HS HR HM HY
          go_wp2_with (first
            | (go_at_call 32; refine (cg _).mono ?_; rintro e w3 ⟨rfl, rfl⟩)
            | (at_builtin; refine wpList_push_far rfl _ _ 22 rfl Tryd.underlying22 infoI32 (by omega) w2.heap.size _ _ X _ h1 rfl rfl hB (by omega) ?_; intro v' w3 hM3 hb3 hf3; have HM2 := HM1.out.push1 hM3 hb3 hf3; have h22 := HM2.two; have hB2 := HM2.bel.size; have HM2 := Lib.hid HM2; clear hM3 hb3 hf3 h1 h2 hB)
            | (at_builtin; refine wpList_push_far rfl _ _ 23 rfl Tryd.underlying23 infoI64 (by omega) w2.heap.size _ _ N _ h22 rfl rfl hB2 (by omega) ?_; intro u' w4 hM4 hb4 hf4; have HM3 := Lib.hid (HM2.out.push2 hM4 hb4 hf4); clear hM4 hb4 hf4 h22 hB2))
          go_roundw
          case rel => exact ⟨k + 1, l ++ [X], d ++ [N], 0, false, Y, by omega, by simp; omega, by simp; omega, by omega, by omega, rfl, rfl, rfl, by go_num, HM3.out, HR2, HY2, Lib.hid (fun _ => rfl)⟩
          case measure => simp [intOf]; omega
      · obtain rfl : k = t.length := by omega
        have HE : Hid (V = if Y && mayB l then some (l, d ++ [N]) else none) := Lib.hid (by rw [← HP.out, rest_end HR.out, anyP_snoc, ← HY.out])
        obtain ⟨A', c', rfl, hc', _, hh'⟩ := HM.one.size
        have cm := rmay_ok A' c' l wr (by omega) hh'
        have h2 := HM.two
        have hB := HM.bel.size
        have hbe := below_trans h0 HM.bel h0.size
        have HM1 := Lib.hid HM
        clear HM HR HY HS hh' hc'
        cases Y
        · have HN : Hid (none = V) := Lib.hid (by rw [HE.out]; rfl)
          clear HE
          go_wp2
          go_ret3
          rw [← HN.out]
          exact ⟨rfl, hbe⟩
        · obtain ⟨M, hM⟩ : ∃ M, mayB l = M := ⟨_, rfl⟩
          rw [hM] at cm
          have HE2 : Hid (V = if M then some (l, d ++ [N]) else none) := Lib.hid (by rw [HE.out, hM, Bool.true_and])
          clear HE hM
          cases M
          · have HN : Hid (none = V) := Lib.hid (by rw [HE2.out]; rfl)
            clear HE2
            go_wp2_with (go_at_call 33; refine cm.mono ?_; rintro e w3 ⟨rfl, rfl⟩)
            go_ret3
            rw [← HN.out]
            exact ⟨rfl, hbe⟩
          · have HN : Hid (some (l, d ++ [N]) = V) := Lib.hid (by rw [HE2.out]; rfl)
            clear HE2
            go_wp2_with (first
              | (go_at_call 33; refine cm.mono ?_; rintro e w3 ⟨rfl, rfl⟩)
              | (at_builtin; refine wpList_push_far rfl _ _ 23 rfl Tryd.underlying23 infoI64 (by omega) w2.heap.size _ _ N _ h2 rfl rfl hB (by omega) ?_; intro u' w4 hM4 hb4 hf4; have HM3 := Lib.hid (HM1.out.push2 hM4 hb4 hf4); clear hM4 hb4 hf4 h2 hB))
            go_ret3
            rw [← HN.out]
            exact ⟨_, _, rfl, HM3.out.one.give h0 HM3.out.bel, HM3.out.two.give h0 HM3.out.bel⟩
  · have HN : Hid (none = V) := Lib.hid (by rw [← HV.out, if_neg hE])
    clear HV
    go_enter Tryd.func10, Tryd.ntmps10
    go_wp2_with (first
      | (refine wpList_bytes _ rfl _ 9 54 5 rfl Tryd.underlying9 Tryd.underlying54 Tryd.underlying5 s rfl ?_; intro c w1 hc hh hb1)
      | (go_at_call 31; refine (cd _ _ (by rw [HBL.out]; exact hc) hh).mono ?_; rintro e w2 ⟨v, rfl, A, c2, rfl, hc2, hh2, hb2⟩; have h0 : Below w.heap.size w w2 := below_trans hb1 hb2 hb1.size; clear cd hh hb1 hb2))
    go_ret3
    rw [← HN.out]
    exact ⟨rfl, h0⟩
end Go.Proofs.YtekjejbcdnghjaaDoor

/-
  Contract of the document's New; a list of patterns in memory. Condition: texts of at most a million bytes, at most 1000 of them.
-/
set_option linter.unusedVariables false
set_option linter.unusedSimpArgs false
namespace Go.Proofs.YtekjejbcdnghjaaDoor
open Go.ChangeShapes Go.WideShapes Go.ChangeAt Go.RowKit

abbrev Pat := List Int × List Int
/-- patterns taken in one by one, the first that is wrong -/
def newG : Nat → List Pat → List ByteArray → List Pat × Nat × Int
  | _, acc, [] => (acc, 0, 0)
  | k, acc, s :: r =>
    match patS s with
    | none => ([], k, 3)
    | some p => if acc.any (fun q => decide (q.1 = p.1)) then ([], k, 15) else newG (k + 1) (acc ++ [p]) r
def newS (zs : List ByteArray) : List Pat × Nat × Int := if 512 < zs.length then ([], 0, 5) else newG 0 [] zs

/-- a pattern in memory: two slices -/
structure RowP where
  A : Option Addr
  n : Nat
  c : Nat
  B : Option Addr
  m : Nat
  d : Nat
def LP : Lay RowP := ⟨fun r => [.slice r.A r.n r.c, .slice r.B r.m r.d], 2, fun _ => rfl, fun r u hu => by simp at hu; rcases hu with rfl | rfl <;> rfl⟩
structure RowP.reads (w : World) (r : RowP) (p : Pat) : Prop where
  n : r.n = p.1.length
  m : r.m = p.2.length
  one : Has w w.heap.size r.A (p.1.map (Value.int .i32))
  two : Has w w.heap.size r.B (p.2.map (Value.int .i64))
  lt1 : ∀ a, r.A = some a → a.block < w.heap.size
  lt2 : ∀ a, r.B = some a → a.block < w.heap.size
def RowP.far (r : RowP) (v : Value) : Prop := (∀ a, r.A = some a → v.ownBlock ≠ some a.block) ∧ (∀ a, r.B = some a → v.ownBlock ≠ some a.block)
theorem RowP.reads.carry {w w' : World} {r : RowP} {p : Pat} (h : RowP.reads w r p) (hb : Below w.heap.size w w') : RowP.reads w' r p :=
  ⟨h.n, h.m, h.one.carry hb, h.two.carry hb, fun a ha => Nat.lt_of_lt_of_le (h.lt1 a ha) hb.size, fun a ha => Nat.lt_of_lt_of_le (h.lt2 a ha) hb.size⟩
/-- reads as a list of patterns -/
def ReadsP (w : World) (v : Value) (l : List Pat) : Prop :=
  ∃ (A : Option Addr) (c : Nat) (rows : List RowP), v = .slice A l.length c ∧ HasN LP w w.heap.size A rows ∧ rows.length = l.length ∧ ∀ (i : Nat) r p, rows[i]? = some r → l[i]? = some p → RowP.reads w r p
theorem ReadsP.carry {w w' : World} {v : Value} {l : List Pat} (h : ReadsP w v l) (hb : Below w.heap.size w w') : ReadsP w' v l := by
  obtain ⟨A, c, rows, h1, h2, h3, h4⟩ := h
  exact ⟨A, c, rows, h1, h2.carry hb, h3, fun i r p hr hp => (h4 i r p hr hp).carry hb⟩
theorem readsP_nil (w : World) : ReadsP w (.slice none 0 0) [] := ⟨none, 0, [], rfl, HasN.nil_, rfl, fun i r p h => by simp at h⟩
/-- one of them -/
theorem ReadsP.at_ {w : World} {A : Option Addr} {n c : Nat} {l : List Pat} (h : ReadsP w (.slice A n c) l) {i : Nat} (hi : i < l.length) :
    n = l.length ∧ ∃ (b off : Nat) (r : RowP), A = some ⟨b, off, none⟩ ∧ RowP.reads w r l[i] ∧ w.cell? ⟨b, off + i * 2 + 0, none⟩ = some (.slice r.A r.n r.c) ∧ w.cell? ⟨b, off + i * 2 + 1, none⟩ = some (.slice r.B r.m r.d) := by
  obtain ⟨A', c', rows, h1, h2, h3, h4⟩ := h
  injection h1 with h1 h5 h6
  subst h1
  have hlt : i < rows.length := by omega
  obtain ⟨b, off, e, hb, hc⟩ := h2.at_ hlt
  exact ⟨h5, b, off, rows[i], e, h4 i _ _ (List.getElem?_eq_getElem hlt) (List.getElem?_eq_getElem hi), hc 0 _ rfl, hc 1 _ rfl⟩

/-- the call's own list, being filled -/
structure OwnP (B : Nat) (w wr : World) (v : Value) (rows : List RowP) (l : List Pat) : Prop where
  own : MineN LP 64 wr B v rows
  len : rows.length = l.length
  read : ∀ (i : Nat) r p, rows[i]? = some r → l[i]? = some p → RowP.reads wr r p
  far : ∀ (i : Nat) r, rows[i]? = some r → r.far v
  bel : Below B w wr
theorem OwnP.nil_ (w : World) : OwnP w.heap.size w w (.slice none 0 0) [] [] := ⟨MineN.nil_ _ _ _, rfl, fun i r p h => by simp at h, fun i r h => by simp at h, Below.refl _ _⟩
theorem OwnP.up {B : Nat} {w wr W : World} {v : Value} {rows : List RowP} {l : List Pat} (h : OwnP B w wr v rows l) (hu : Below wr.heap.size wr W) (hB : B ≤ wr.heap.size) : OwnP B w W v rows l :=
  ⟨h.own.stays fun b _ hlt => hu.block b hlt, h.len, fun i r p hr hp => (h.read i r p hr hp).carry hu, h.far, h.bel.trans (hu.mono hB)⟩
theorem OwnP.push {B : Nat} {w wr W : World} {v v' : Value} {rows : List RowP} {l : List Pat} {r : RowP} {p : Pat} (h : OwnP B w wr v rows l) (hr : RowP.reads wr r p) (hf : r.far v)
    (hM : MineN LP 64 W B v' (rows ++ [r])) (hb : Below B wr W) (hk : ∀ b, b < wr.heap.size → v.ownBlock ≠ some b → v'.ownBlock ≠ some b ∧ W.heap[b]? = wr.heap[b]?) : OwnP B w W v' (rows ++ [r]) (l ++ [p]) := by
  have keep : ∀ (x : RowP) (y : Pat), RowP.reads wr x y → x.far v → RowP.reads W x y ∧ x.far v' := fun x y h1 h2 => by
    have k1 : ∀ (A : Option Addr) (xs : List Value), Has wr wr.heap.size A xs → (∀ a, A = some a → v.ownBlock ≠ some a.block) → Has W W.heap.size A xs := fun A xs g1 g2 => g1.stays hb.size fun a ha hlt => (hk a.block hlt (g2 a ha)).2
    exact ⟨⟨h1.n, h1.m, k1 _ _ h1.one h2.1, k1 _ _ h1.two h2.2, fun a ha => Nat.lt_of_lt_of_le (h1.lt1 a ha) hb.size, fun a ha => Nat.lt_of_lt_of_le (h1.lt2 a ha) hb.size⟩,
      fun a ha => (hk a.block (h1.lt1 a ha) (h2.1 a ha)).1, fun a ha => (hk a.block (h1.lt2 a ha) (h2.2 a ha)).1⟩
  have hcase : ∀ (i : Nat) x, (rows ++ [r])[i]? = some x → rows[i]? = some x ∨ (i = rows.length ∧ x = r) := fun i x hi => by
    rcases Nat.lt_or_ge i rows.length with h1 | h1
    · rw [List.getElem?_append_left h1] at hi; exact .inl hi
    · rw [List.getElem?_append_right h1] at hi
      have : i - rows.length = 0 := by
        rcases Nat.eq_zero_or_pos (i - rows.length) with h2 | h2
        · exact h2
        · rw [List.getElem?_eq_none (by simp; omega)] at hi; cases hi
      rw [this] at hi
      simp at hi
      exact .inr ⟨by omega, hi.symm⟩
  have ex : ∀ (i : Nat) x, rows[i]? = some x → ∃ y, l[i]? = some y := fun i x hx => by
    have := (List.getElem?_eq_some_iff.1 hx).1
    exact ⟨l[i]'(by rw [← h.len]; exact this), List.getElem?_eq_getElem (by rw [← h.len]; exact this)⟩
  refine ⟨hM, by simp [h.len], fun i x y hx hy => ?_, fun i x hx => ?_, h.bel.trans hb⟩
  · rcases hcase i x hx with h1 | ⟨rfl, rfl⟩
    · have hlt := (List.getElem?_eq_some_iff.1 h1).1
      rw [List.getElem?_append_left (by rw [← h.len]; exact hlt)] at hy
      exact (keep x y (h.read i x y h1 hy) (h.far i x h1)).1
    · rw [h.len, List.getElem?_append_right (Nat.le_refl _), Nat.sub_self] at hy
      simp at hy
      subst hy
      exact (keep _ _ hr hf).1
  · rcases hcase i x hx with h1 | ⟨rfl, rfl⟩
    · obtain ⟨y, hy⟩ := ex i x h1
      exact (keep x y (h.read i x y h1 hy) (h.far i x h1)).2
    · exact (keep _ _ hr hf).2
theorem OwnP.at_ {B : Nat} {w wr : World} {A : Option Addr} {n c : Nat} {rows : List RowP} {l : List Pat} (h : OwnP B w wr (.slice A n c) rows l) {i : Nat} (hi : i < l.length) :
    ∃ (g : Nat) (r : RowP), A = some ⟨g, 0, none⟩ ∧ RowP.reads wr r l[i] ∧ wr.cell? ⟨g, i * 2, none⟩ = some (.slice r.A r.n r.c) ∧ wr.cell? ⟨g, i * 2 + 1, none⟩ = some (.slice r.B r.m r.d) := by
  have hlt : i < rows.length := by rw [h.len]; exact hi
  obtain ⟨g, c', hv, _, _, _, hc⟩ := h.own.form (fun e => by subst e; simp at hlt)
  injection hv with hv1 hv2 hv3
  have h0 := hc i _ (List.getElem?_eq_getElem hlt) 0 _ rfl
  have h1 := hc i _ (List.getElem?_eq_getElem hlt) 1 _ rfl
  rw [Nat.zero_add] at h0 h1
  exact ⟨g, rows[i], hv1, h.read i _ _ (List.getElem?_eq_getElem hlt) (List.getElem?_eq_getElem hi), h0, h1⟩
theorem OwnP.readsP {B : Nat} {w wr : World} {v : Value} {rows : List RowP} {l : List Pat} (h : OwnP B w wr v rows l) : ReadsP wr v l := by
  obtain ⟨A, c, rfl, _, _, hh⟩ := h.own.has
  exact ⟨A, c, rows, by rw [h.len], hh, h.len, h.read⟩
theorem newG_none {k : Nat} {acc : List Pat} {zs : List ByteArray} (hk : k < zs.length) (h : patS zs[k] = none) : newG k acc (zs.drop k) = ([], k, 3) := by
  rw [List.drop_eq_getElem_cons hk, newG, h]
theorem newG_twice {k : Nat} {acc : List Pat} {zs : List ByteArray} {p : Pat} (hk : k < zs.length) (h : patS zs[k] = some p) {i : Nat} (hi : i < acc.length) (he : acc[i].1 = p.1) : newG k acc (zs.drop k) = ([], k, 15) := by
  rw [List.drop_eq_getElem_cons hk, newG, h]
  simp only
  rw [if_pos]
  rw [List.any_eq_true]
  exact ⟨acc[i], List.getElem_mem hi, decide_eq_true he⟩
theorem newG_next {k : Nat} {acc : List Pat} {zs : List ByteArray} {p : Pat} (hk : k < zs.length) (h : patS zs[k] = some p) (hn : ∀ (i : Nat) (hi : i < acc.length), acc[i].1 ≠ p.1) : newG k acc (zs.drop k) = newG (k + 1) (acc ++ [p]) (zs.drop (k + 1)) := by
  rw [List.drop_eq_getElem_cons hk, newG, h]
  simp only
  rw [if_neg]
  rw [List.any_eq_true]
  rintro ⟨q, hq, e⟩
  obtain ⟨i, hi, rfl⟩ := List.mem_iff_getElem.1 hq
  exact hn i hi (of_decide_eq_true e)
theorem patS_ok {s : ByteArray} {p : Pat} (h : patS s = some p) : OkP p.1 p.2 := by
  unfold patS at h
  split at h
  · exact parse_ok h
  · cases h
theorem newG_end (k : Nat) (acc : List Pat) (zs : List ByteArray) : newG k acc (zs.drop zs.length) = (acc, 0, 0) := by rw [List.drop_length, newG]
theorem infoP : (Tryd.prog.info? 64).map (fun i => (i.zero, i.size, i.bytes)) = some (some (.agg #[.slice none 0 0, .slice none 0 0]), LP.C, 48) := by kernel_rfl
theorem mayB_len {p : Pat} (h : OkP p.1 p.2) : 1 ≤ p.1.length ∧ p.1.length ≤ 18 ∧ 1 ≤ p.2.length ∧ p.2.length ≤ 19 := by
  have := mayB_length h.may
  have := h.len
  omega
theorem sliceV_lt {q : IntKind} {w w' : World} {v : Value} {xs : List Int} (h : SliceV q w w' v xs) (hx : 1 ≤ xs.length) : ∃ A c, v = .slice A xs.length c ∧ (∀ a, A = some a → w.heap.size ≤ a.block) ∧ (∀ a, A = some a → a.block < w'.heap.size) ∧ Has w' w'.heap.size A (xs.map (Value.int q)) := by
  obtain ⟨A, c, rfl, hc, hh, _⟩ := h
  refine ⟨A, c, rfl, hc.2, fun a ha => ?_, hh⟩
  obtain ⟨b, off, e, hb, _⟩ := hh (by intro e; rw [List.map_eq_nil_iff] at e; rw [e] at hx; simp at hx)
  rw [e] at ha
  injection ha with ha
  rw [← ha]
  exact hb

set_option maxRecDepth 20000 in
set_option maxHeartbeats 4000000 in
theorem rnew_ok (A : Option Addr) (c : Nat) (zs : List ByteArray) (w : World) (hn : zs.length ≤ 100000) (hz : ∀ z ∈ zs, z.size ≤ 1000000) (h : Has w w.heap.size A (zs.map Value.string)) :
    Calls Tryd.prog 18 #[.slice A zs.length c] w fun e w' => ∃ v, e = .returned (.tuple #[v, .int .i64 (newS zs).2.1, .int .i64 (newS zs).2.2]) ∧ ReadsP w' v (newS zs).1 ∧ Below w.heap.size w w' := by
  obtain ⟨V, hV⟩ : ∃ V, newS zs = V := ⟨_, rfl⟩
  rw [hV]
  unfold newS at hV
  by_cases hm : 512 < zs.length
  · rw [if_pos hm] at hV
    have HV := Lib.hid hV
    have hm' : (zs.length : Int) > 512 := by omega
    clear hV h hz
    go_enter Tryd.func18, Tryd.ntmps18
    go_wp2
    go_ret3
    rw [← HV.out]
    exact ⟨_, rfl, readsP_nil _, Below.refl _ _⟩
  · rw [if_neg hm] at hV
    have HV := Lib.hid hV
    have hm' : ¬ (zs.length : Int) > 512 := by omega
    have HZ := Lib.hid hz
    have HH := Lib.hid h
    clear hV h hz
    go_enter Tryd.func18, Tryd.ntmps18
    go_wp2
    go_loopw [5, 6] (fun v i wr => ∃ (k : Nat) (rows : List RowP) (l : List Pat), k ≤ zs.length ∧ l.length = k ∧ i = .int .i64 k ∧ OwnP w.heap.size w wr v rows l ∧ Hid (newG k l (zs.drop k) = V) ∧ Hid (∀ p ∈ l, OkP p.1 p.2)) (fun _ i _ => zs.length - (intOf i).toNat)
    case atStart => exact ⟨0, [], [], by omega, rfl, rfl, OwnP.nil_ w, HV, Lib.hid (by simp)⟩
    case round =>
      obtain ⟨k, rows, l, hk, hl, rfl, HO, HG, HP⟩ := hrel
      have hbl := HO.bel
      have hB := hbl.size
      have hrl := HO.len
      obtain ⟨A5, c5, rfl, _, _, _⟩ := HO.own.has
      have hrk : rows.length = k := by omega
      rw [hrk] at HO ⊢
      clear hrl
      have HRK := Lib.hid hrk
      clear hrk
      have HOH := Lib.hid HO
      by_cases hlt : k < zs.length
      · obtain ⟨b, off, rfl, hb, hcs⟩ := HH.out.at_str hlt
        have hcc := (hbl.cell (p := ⟨b, off + k, none⟩) hb).trans hcs
        have HNO := fun q => Lib.hid (newG_none (acc := l) hlt q)
        have HTW := fun (p : Pat) q => Lib.hid (fun (i : Nat) hi he => newG_twice (acc := l) (p := p) (i := i) hlt q hi he)
        have HNX := fun (p : Pat) q => Lib.hid (fun hn => newG_next (acc := l) (p := p) hlt q hn)
        have hsz := HZ.out _ (List.getElem_mem hlt)
        obtain ⟨s, hs⟩ : ∃ s, zs[k] = s := ⟨_, rfl⟩
        rw [hs] at hcc hsz
        simp only [hs] at HNO HTW HNX
        have cp := rparse_ok s wr hsz
        clear hs hcs hb hsz
        obtain ⟨P, hP⟩ : ∃ P, patS s = P := ⟨_, rfl⟩
        rw [hP] at cp HNO
        cases P with
        | none =>
          have HN := Lib.hid ((HNO rfl).out.symm.trans HG.out)
          clear HNO HTW HNX hP HO
          go_wp2_with (go_at_call 10; refine cp.mono ?_; rintro e w3 ⟨rfl, hb3⟩)
          go_ret3
          rw [← HN.out]
          exact ⟨_, rfl, readsP_nil _, below_trans hbl hb3 hB⟩
        | some p =>
          have HT := HTW p hP
          have HX := HNX p hP
          have hpo := patS_ok hP
          have hpl := mayB_len hpo
          have HPO := Lib.hid hpo
          clear HNO HTW HNX hP hpo HO
          go_wp2_with (go_at_call 10; refine cp.mono ?_; rintro e w3 ⟨v7, v8, rfl, hs7, hs8⟩; have hb3 := hs7.choose_spec.choose_spec.2.2.2; obtain ⟨A7, c7, rfl, hf7, hl7, hh7⟩ := sliceV_lt hs7 hpl.1; obtain ⟨A8, c8, rfl, hf8, hl8, hh8⟩ := sliceV_lt hs8 hpl.2.2.1; clear hs7 hs8 cp)
          have HO3 := HOH.out.up hb3 hB
          have hr3 : RowP.reads w3 ⟨A7, p.1.length, c7, A8, p.2.length, c8⟩ p := ⟨rfl, rfl, hh7, hh8, hl7, hl8⟩
          have HFR : Hid (RowP.far ⟨A7, p.1.length, c7, A8, p.2.length, c8⟩ (.slice A5 k c5)) := Lib.hid ⟨fun a ha e => by have := HOH.out.own.own_lt _ e; have := hf7 a ha; omega, fun a ha e => by have := HOH.out.own.own_lt _ e; have := hf8 a ha; omega⟩
          clear hf7 hl7 hh7 hf8 hl8 hh8 hcc
          go_loopw [10] (fun j W => ∃ q : Nat, q ≤ k ∧ j = .int .i64 q ∧ OwnP w.heap.size w W (.slice A5 k c5) rows l ∧ RowP.reads W ⟨A7, p.1.length, c7, A8, p.2.length, c8⟩ p ∧ Hid (∀ (i : Nat) (hi : i < l.length), i < q → l[i].1 ≠ p.1)) (fun j _ => k - (intOf j).toNat)
          case atStart => exact ⟨0, by omega, rfl, HO3, hr3, Lib.hid (fun i hi h => absurd h (by omega))⟩
          case round =>
            obtain ⟨q, hq, rfl, HOq, hrq, HQ⟩ := hrel
            by_cases hqk : q < k
            · have hql : q < l.length := by omega
              obtain ⟨g, r', hA5, hr', hc0, _⟩ := HOq.at_ hql
              have hp2 := mayB_len (HP.out _ (List.getElem_mem hql))
              have HTq := Lib.hid (fun he => HT.out q hql he)
              have HQ2 := fun (hne : l[q].1 ≠ p.1) => Lib.hid (show ∀ (i : Nat) (hi : i < l.length), i < q + 1 → l[i].1 ≠ p.1 from fun i hi hiq => by
                rcases Nat.lt_or_ge i q with h1 | h1
                · exact HQ.out i hi h1
                · have : i = q := by omega
                  subst this
                  exact hne)
              obtain ⟨p2, hp2e⟩ : ∃ p2, l[q] = p2 := ⟨_, rfl⟩
              rw [hp2e] at hr' hp2
              simp only [hp2e] at HTq HQ2
              clear hp2e
              have cs := sames_ok r'.A A7 r'.c c7 p2.1 p.1 _ (by omega) (by omega) hr'.one hrq.one
              rw [hr'.n] at hc0
              have hbq := HOq.bel
              have HOQ := Lib.hid HOq
              have HRQ := Lib.hid hrq
              have hBq := hbq.size
              clear HOq hrq hr' hr3 HO3
              subst hA5
              by_cases he : p2.1 = p.1
              · have HN := Lib.hid ((HTq.out he).symm.trans HG.out)
                rw [decide_eq_true he] at cs
                clear HTq HQ2 he
                go_wp2_with (go_at_call 11; refine cs.mono ?_; rintro e w5 ⟨rfl, hb5⟩)
                go_ret3
                rw [← HN.out]
                exact ⟨_, rfl, readsP_nil _, below_trans hbq hb5 hBq⟩
              · have HQ3 := HQ2 he
                rw [decide_eq_false he] at cs
                clear HTq HQ2 he
                go_wp2_with (go_at_call 11; refine cs.mono ?_; rintro e w5 ⟨rfl, hb5⟩)
                go_roundw
                case rel => exact ⟨q + 1, by omega, by go_num, HOQ.out.up hb5 hBq, HRQ.out.carry hb5, HQ3⟩
                case measure => simp [intOf]; omega
            · obtain rfl : q = k := by omega
              have HG2 := Lib.hid ((HX.out (fun i hi => HQ.out i hi (by omega))).symm.trans HG.out)
              have hown := HOq.own
              have hBq := HOq.bel.size
              have hbq := HOq.bel
              have HOQ := Lib.hid HOq
              have HRQ := Lib.hid hrq
              clear HOq hrq hr3 HO3 HT HX HG
              go_wp2_with (at_builtin; refine wpList_pushN (R := LP) rfl _ _ 39 rfl _ Tryd.underlying39 infoP rfl (by decide) (by decide) w.heap.size _ rows ⟨A7, p.1.length, c7, A8, p.2.length, c8⟩ _ _ rfl hown rfl rfl hBq (by have := HRK.out; omega) ?_; intro v' w5 hM5 hb5 hf5)
              go_roundw
              case rel => exact ⟨q + 1, _, l ++ [p], by omega, by simp; omega, by go_num, HOQ.out.push HRQ.out HFR.out hM5 hb5 hf5, HG2, Lib.hid (fun x hx => by
                rcases List.mem_append.1 hx with h1 | h1
                · exact HP.out x h1
                · rw [List.mem_singleton.1 h1]; exact HPO.out)⟩
              case measure => simp [intOf]; omega
      · obtain rfl : k = zs.length := by omega
        have HN := Lib.hid ((newG_end zs.length l zs).symm.trans HG.out)
        go_wp2
        go_ret3
        rw [← HN.out]
        exact ⟨_, rfl, HOH.out.readsP, hbl⟩
theorem newG_ok : ∀ (zs : List ByteArray) (k : Nat) (acc : List Pat), (∀ p ∈ acc, OkP p.1 p.2) → (∀ p ∈ (newG k acc zs).1, OkP p.1 p.2) ∧ (newG k acc zs).1.length ≤ acc.length + zs.length
  | [], k, acc, h => ⟨h, by simp [newG]⟩
  | s :: r, k, acc, h => by
    rw [newG]
    cases e : patS s with
    | none => exact ⟨by simp, by simp⟩
    | some p =>
      simp only
      split
      · exact ⟨by simp, by simp⟩
      · have ih := newG_ok r (k + 1) (acc ++ [p]) (fun q hq => by
          rcases List.mem_append.1 hq with h1 | h1
          · exact h q h1
          · rw [List.mem_singleton.1 h1]; exact patS_ok e)
        refine ⟨ih.1, ?_⟩
        have := ih.2
        simp only [List.length_append, List.length_cons, List.length_nil] at this ⊢
        omega
theorem newS_ok (zs : List ByteArray) : (∀ p ∈ (newS zs).1, OkP p.1 p.2) ∧ (newS zs).1.length ≤ zs.length := by
  unfold newS
  split
  · exact ⟨by simp, by simp⟩
  · have := newG_ok zs 0 [] (by simp)
    simpa using this
theorem ReadsP.form {w : World} {v : Value} {l : List Pat} (h : ReadsP w v l) : ∃ A c, v = .slice A l.length c := let ⟨A, c, _, e, _⟩ := h; ⟨A, c, e⟩
end Go.Proofs.YtekjejbcdnghjaaDoor
