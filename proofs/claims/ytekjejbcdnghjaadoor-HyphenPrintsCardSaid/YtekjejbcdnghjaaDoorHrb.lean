/-
  Contract of the document's Parse. Condition: a text of at most a million bytes.
-/
import Derived.Test.YtekjejbcdnghjaaDoorHra
import Derived.Test.YtekjejbcdnghjaaDoorHtw
import Derived.Test.YtekjejbcdnghjaaDoorUtl
import Derived.Test.YtekjejbcdnghjaaDoorStr
set_option linter.unusedVariables false
set_option linter.unusedSimpArgs false
namespace Go.Proofs.YtekjejbcdnghjaaDoor
open Go.ChangeShapes Go.WideShapes Go.ChangeAt Go.RowKit

/-- the pattern of a text -/
def patS (s : ByteArray) : Option (List Int × List Int) := if (decP (bytesS s)).2.2 = 0 then parseS (decP (bytesS s)).1 else none
/-- what Parse hands back -/
def ParseOf (w w' : World) (e : Ending) (x : Option (List Int × List Int)) : Prop :=
  match x with
  | none => e = .returned (.tuple #[.slice none 0 0, .slice none 0 0, .bool false]) ∧ Below w.heap.size w w'
  | some z => ∃ v u, e = .returned (.tuple #[v, u, .bool true]) ∧ SliceV .i32 w w' v z.1 ∧ SliceV .i64 w w' u z.2

theorem byteZ_of (s : ByteArray) : ByteZ (bytesS s) := bytesS_range s
theorem anyP_snoc (d : List Int) (x : Int) : anyP (d ++ [x]) = (anyP d || decide (0 < x)) := by simp [anyP]
/-- the reading, from a place on -/
def RestZ (t l d : List Int) (N : Int) (S : Bool) (k : Nat) : Prop := pz 0 false t = (pz N S (t.drop k)).map fun z => (l ++ z.1, d ++ z.2)
theorem rest_start (t : List Int) : RestZ t [] [] 0 false 0 := by
  unfold RestZ
  rw [List.drop_zero]
  cases pz 0 false t <;> simp
theorem rest_digit {t l d : List Int} {N : Int} {k : Nat} (h : RestZ t l d N false k) (hk : k < t.length) (hd : isD t[k]) : RestZ t l d (t[k] - 48) true (k + 1) := by
  unfold RestZ at h ⊢
  rw [List.drop_eq_getElem_cons hk, pz_digit hd] at h
  exact h
theorem rest_twice {t l d : List Int} {N : Int} {k : Nat} (h : RestZ t l d N true k) (hk : k < t.length) (hd : isD t[k]) : parseS t = none := by
  unfold RestZ at h
  rw [List.drop_eq_getElem_cons hk, pz_twice hd] at h
  unfold parseS
  rw [h]; rfl
theorem rest_letter {t l d : List Int} {N : Int} {S : Bool} {k : Nat} (h : RestZ t l d N S k) (hk : k < t.length) (hd : ¬ isD t[k]) : RestZ t (l ++ [t[k]]) (d ++ [N]) 0 false (k + 1) := by
  unfold RestZ at h ⊢
  rw [List.drop_eq_getElem_cons hk, pz_letter hd] at h
  rw [h, Option.map_map]
  congr 1
  funext z
  simp
theorem rest_end {t l d : List Int} {N : Int} {S : Bool} (h : RestZ t l d N S t.length) : parseS t = if anyP (d ++ [N]) && mayB l then some (l, d ++ [N]) else none := by
  unfold RestZ at h
  rw [List.drop_length] at h
  unfold parseS
  rw [h]
  simp [pz]

theorem infoI64 : (Tryd.prog.info? 3).map (fun i => (i.zero, i.size, i.bytes)) = some (some (.int .i64 0), 1, 8) := by kernel_rfl

set_option maxRecDepth 20000 in
set_option maxHeartbeats 4000000 in
theorem rparse_ok (s : ByteArray) (w : World) (hn : s.size ≤ 1000000) : Calls Tryd.prog 10 #[.string s] w fun e w' => ParseOf w w' e (patS s) := by
  obtain ⟨V, hV⟩ : ∃ V, patS s = V := ⟨_, rfl⟩
  rw [hV]
  have HV := Lib.hid hV
  clear hV
  have hbl : (bytesS s).length ≤ 1000000 := by rw [bytesS_length]; exact hn
  have hlen := decP_len (bytesS s)
  have cd := fun (c : Nat) (W : World) (hc : (bytesS s).length ≤ c) (hh : Has W W.heap.size (some ⟨w.heap.size, 0, none⟩) ((bytesS s).map (Value.int .u8))) => refDecode_ok (some ⟨w.heap.size, 0, none⟩) c (bytesS s) W hbl hc (byteZ_of s) hh
  unfold patS at HV
  have hbs := bytesS_length s
  obtain ⟨T, hT⟩ : ∃ T, decP (bytesS s) = T := ⟨_, rfl⟩
  obtain ⟨t, p, E⟩ := T
  simp only [hT] at HV hlen cd
  have HBL := Lib.hid hbs
  clear hT hbs
  have HT := Lib.hid (show t.length ≤ 1000000 by omega)
  clear hlen hbl
  by_cases hE : E = 0
  · subst hE
    have HP : Hid (parseS t = V) := Lib.hid (by rw [← HV.out, if_pos rfl])
    clear HV
    go_enter Tryd.func10, Tryd.ntmps10
    go_wp2_with (first
      | (refine wpList_bytes _ rfl _ 9 54 5 rfl Tryd.underlying9 Tryd.underlying54 Tryd.underlying5 s rfl ?_; intro c w1 hc hh hb1)
      | (go_at_call 31; refine (cd _ _ (by rw [HBL.out]; exact hc) hh).mono ?_; rintro e w2 ⟨v, rfl, A, c2, rfl, hc2, hh2, hb2⟩; have h0 : Below w.heap.size w w2 := below_trans hb1 hb2 hb1.size; clear cd hh hb1 hb2))
    have HH := Lib.hid (fun (W : World) (hb : Below w2.heap.size w2 W) => hh2.carry hb)
    clear hh2 hc2 hc
    go_loopw [8, 9, 10, 11, 12, 13] (fun v u n sm an i wr => ∃ (k : Nat) (l d : List Int) (N : Int) (S Y : Bool), k ≤ t.length ∧ l.length ≤ k ∧ d.length ≤ k ∧ 0 ≤ N ∧ N ≤ 9 ∧ n = .int .i64 N ∧ sm = .bool S ∧ an = .bool Y ∧ i = .int .i64 k ∧ TwoM .i32 .i64 21 3 w2.heap.size w2 wr v u l d ∧ Hid (RestZ t l d N S k) ∧ Hid (Y = (anyP d || decide (0 < N))) ∧ Hid (S = false → N = 0)) (fun _ _ _ _ _ i _ => t.length - (intOf i).toNat)
    case atStart => exact ⟨0, [], [], 0, false, false, by omega, by simp, by simp, by omega, by omega, rfl, rfl, rfl, rfl, TwoM.nil_ _ _ _ _ _ _, Lib.hid (rest_start t), Lib.hid rfl, Lib.hid (fun _ => rfl)⟩
    case round =>
      obtain ⟨k, l, d, N, S, Y, hk, hl, hd, hN0, hN9, rfl, rfl, rfl, rfl, HM, HR, HY, HS⟩ := hrel
      have hT1 := HT.out
      by_cases hlt : k < t.length
      · obtain ⟨b, off, rfl, hb, hcc⟩ := (HH.out _ HM.bel).at_int hlt
        have h1 := HM.one
        have h2 := HM.two
        have hB := HM.bel.size
        have HM1 := Lib.hid HM
        obtain ⟨X, hX⟩ : ∃ X, t[k] = X := ⟨_, rfl⟩
        rw [hX] at hcc
        have HX := Lib.hid hX
        have cg := fun w => rdigit_ok X w
        clear hX
        by_cases hdg : isD X
        · simp only [hdg, decide_true] at cg
          have hdr := hdg
          unfold isD at hdr
          cases S
          · have HR2 : Hid (RestZ t l d (X - 48) true (k + 1)) := Lib.hid (by have := rest_digit HR.out hlt (by rw [HX.out]; exact hdg); rwa [HX.out] at this)
            have HN : Hid (N = 0) := Lib.hid (HS.out rfl)
            clear hdg HS HR HM h1 h2 hB
            cases Y
            · have HY2 : Hid (decide (0 < X - 48) = (anyP d || decide (0 < X - 48))) := Lib.hid (by
                have := HY.out
                have e : anyP d = false := by
                  cases h : anyP d
                  · rfl
                  · rw [h] at this; cases this
                rw [e]; rfl)
              have HY3 : Hid (decide (48 < X) = (anyP d || decide (0 < X - 48))) := Lib.hid (by rw [← HY2.out]; exact decide_eq_decide.2 (by omega))
              go_wp2_with (go_at_call 32; refine (cg _).mono ?_; rintro e w3 ⟨rfl, rfl⟩)
              go_roundw
              case rel => exact ⟨k + 1, l, d, X - 48, true, decide (48 < X), by omega, by omega, by omega, by omega, by omega, by go_num, rfl, rfl, by go_num, HM1.out, HR2, HY3, Lib.hid (fun h => by cases h)⟩
              case measure => simp [intOf]; omega
            · have HY2 : Hid (true = (anyP d || decide (0 < X - 48))) := Lib.hid (by
                have := HY.out
                rw [HN.out] at this
                rw [show anyP d = true by simpa using this.symm]; rfl)
              go_wp2_with (go_at_call 32; refine (cg _).mono ?_; rintro e w3 ⟨rfl, rfl⟩)
              go_roundw
              case rel => exact ⟨k + 1, l, d, X - 48, true, true, by omega, by omega, by omega, by omega, by omega, by go_num, rfl, rfl, by go_num, HM1.out, HR2, HY2, Lib.hid (fun h => by cases h)⟩
              case measure => simp [intOf]; omega
          · have HN : Hid (none = V) := Lib.hid (by rw [← HP.out]; exact (rest_twice HR.out hlt (by rw [HX.out]; exact hdg)).symm)
            have hbe := below_trans h0 HM.bel h0.size
            clear hdg HS HR HM h1 h2 hB
            go_wp2_with (go_at_call 32; refine (cg _).mono ?_; rintro e w3 ⟨rfl, rfl⟩)
            go_ret3
            rw [← HN.out]
            exact ⟨rfl, hbe⟩
        · simp only [hdg, decide_false] at cg
          have HR2 : Hid (RestZ t (l ++ [X]) (d ++ [N]) 0 false (k + 1)) := Lib.hid (by have := rest_letter HR.out hlt (by rw [HX.out]; exact hdg); rwa [HX.out] at this)
          have HY2 : Hid (Y = (anyP (d ++ [N]) || decide ((0 : Int) < 0))) := Lib.hid (by rw [anyP_snoc, ← HY.out]; simp)
          clear hdg HS HR HM HY
          go_wp2_with (first
            | (go_at_call 32; refine (cg _).mono ?_; rintro e w3 ⟨rfl, rfl⟩)
            | (at_builtin; refine wpList_push_far rfl _ _ 22 rfl Tryd.underlying22 infoI32 (by omega) w2.heap.size _ _ X _ h1 rfl rfl hB (by omega) ?_; intro v' w3 hM3 hb3 hf3; have HM2 := HM1.out.push1 hM3 hb3 hf3; have h22 := HM2.two; have hB2 := HM2.bel.size; have HM2 := Lib.hid HM2; clear hM3 hb3 hf3 h1 h2 hB)
            | (at_builtin; refine wpList_push_far rfl _ _ 23 rfl Tryd.underlying23 infoI64 (by omega) w2.heap.size _ _ N _ h22 rfl rfl hB2 (by omega) ?_; intro u' w4 hM4 hb4 hf4; have HM3 := Lib.hid (HM2.out.push2 hM4 hb4 hf4); clear hM4 hb4 hf4 h22 hB2))
          go_roundw
          case rel => exact ⟨k + 1, l ++ [X], d ++ [N], 0, false, Y, by omega, by simp; omega, by simp; omega, by omega, by omega, rfl, rfl, rfl, by go_num, HM3.out, HR2, HY2, Lib.hid (fun _ => rfl)⟩
          case measure => simp [intOf]; omega
      · obtain rfl : k = t.length := by omega
        have HE : Hid (V = if Y && mayB l then some (l, d ++ [N]) else none) := Lib.hid (by rw [← HP.out, rest_end HR.out, anyP_snoc, ← HY.out])
        obtain ⟨A', c', rfl, hc', _, hh'⟩ := HM.one.size
        have cm := rmay_ok A' c' l wr (by omega) hh'
        have h2 := HM.two
        have hB := HM.bel.size
        have hbe := below_trans h0 HM.bel h0.size
        have HM1 := Lib.hid HM
        clear HM HR HY HS hh' hc'
        cases Y
        · have HN : Hid (none = V) := Lib.hid (by rw [HE.out]; rfl)
          clear HE
          go_wp2
          go_ret3
          rw [← HN.out]
          exact ⟨rfl, hbe⟩
        · obtain ⟨M, hM⟩ : ∃ M, mayB l = M := ⟨_, rfl⟩
          rw [hM] at cm
          have HE2 : Hid (V = if M then some (l, d ++ [N]) else none) := Lib.hid (by rw [HE.out, hM, Bool.true_and])
          clear HE hM
          cases M
          · have HN : Hid (none = V) := Lib.hid (by rw [HE2.out]; rfl)
            clear HE2
            go_wp2_with (go_at_call 33; refine cm.mono ?_; rintro e w3 ⟨rfl, rfl⟩)
            go_ret3
            rw [← HN.out]
            exact ⟨rfl, hbe⟩
          · have HN : Hid (some (l, d ++ [N]) = V) := Lib.hid (by rw [HE2.out]; rfl)
            clear HE2
            go_wp2_with (first
              | (go_at_call 33; refine cm.mono ?_; rintro e w3 ⟨rfl, rfl⟩)
              | (at_builtin; refine wpList_push_far rfl _ _ 23 rfl Tryd.underlying23 infoI64 (by omega) w2.heap.size _ _ N _ h2 rfl rfl hB (by omega) ?_; intro u' w4 hM4 hb4 hf4; have HM3 := Lib.hid (HM1.out.push2 hM4 hb4 hf4); clear hM4 hb4 hf4 h2 hB))
            go_ret3
            rw [← HN.out]
            exact ⟨_, _, rfl, HM3.out.one.give h0 HM3.out.bel, HM3.out.two.give h0 HM3.out.bel⟩
  · have HN : Hid (none = V) := Lib.hid (by rw [← HV.out, if_neg hE])
    clear HV
    go_enter Tryd.func10, Tryd.ntmps10
    go_wp2_with (first
      | (refine wpList_bytes _ rfl _ 9 54 5 rfl Tryd.underlying9 Tryd.underlying54 Tryd.underlying5 s rfl ?_; intro c w1 hc hh hb1)
      | (go_at_call 31; refine (cd _ _ (by rw [HBL.out]; exact hc) hh).mono ?_; rintro e w2 ⟨v, rfl, A, c2, rfl, hc2, hh2, hb2⟩; have h0 : Below w.heap.size w w2 := below_trans hb1 hb2 hb1.size; clear cd hh hb1 hb2))
    go_ret3
    rw [← HN.out]
    exact ⟨rfl, h0⟩
end Go.Proofs.YtekjejbcdnghjaaDoor
