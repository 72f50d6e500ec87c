/-
  Contract of the document's Paras. Condition: at most 1000 code points.
-/
import Derived.Test.YtneiifjihgbacaaPas
set_option linter.unusedVariables false
set_option linter.unusedSimpArgs false
namespace Go.Proofs.Ytneiifjihgbacaa
open Go.ChangeShapes Go.WideShapes Go.ChangeAt Go.RowKit

theorem bdP_get {t : List Int} {k : Nat} (h : k < t.length) : (bdP t)[k]'(by rw [bd_len]; exact h) = (ofP t[k]).bidi := by unfold bdP; simp
set_option maxRecDepth 20000 in
set_option maxHeartbeats 8000000 in
theorem rparas_ok (A : Option Addr) (n c : Nat) (t : List Int) (w : World) (hn : n = t.length) (hmax : n ≤ 1000) (h : Has w w.heap.size A (t.map (Value.int .i32))) :
    Calls Try.prog 11 #[.slice A n c] w fun e w' => CutsOf w w' e (parL t) := by
  have HN := Lib.hid hn
  have HB0 := rbidi_ok A c t w (by omega) h
  rw [← hn] at HB0
  have HB := Lib.hid HB0
  clear HB0 hn
  go_enter Try.func11, Try.ntmps11
  go_wp2_with (go_at_call 20; (with_reducible refine HB.out.mono ?_); rintro e u ⟨v, rfl, A4, c4, rfl, hc4, hh4, hbu⟩)
  have hl4 : (bdP t).length = n := by rw [bd_len, HN.out]
  rw [hl4] at hc4 ⊢
  have hht := (h.below hbu).more hbu.size
  have HH := Lib.hid (fun (W : World) (hb : Below u.heap.size u W) => (⟨hht.carry hb, hh4.carry hb⟩ : _ ∧ _))
  clear hht hh4 h HB
  have HBU := Lib.hid hbu
  clear hbu
  go_loopw [3, 5, 6] (fun v3 v5 v6 wr => ∃ k f : Nat, k ≤ n ∧ f ≤ k ∧ v6 = .int .i64 k ∧ v5 = .int .i64 f ∧ Hid ((parS t k).frm = f) ∧ MineC wr u.heap.size v3 (parS t k).out ∧ Below u.heap.size u wr) (fun _ _ v6 _ => n - (intOf v6).toNat)
  case atStart => exact ⟨0, 0, by omega, by omega, rfl, rfl, Lib.hid rfl, MineC.nil_ _ _, Below.refl _ _⟩
  case round =>
    obtain ⟨k, f, hkn, hfk, rfl, rfl, HF, hM, hb⟩ := hrel
    have hlen := par_len t k
    by_cases hlt : k < n
    · obtain ⟨ht, h4⟩ := HH.out _ hb
      have hk0 : k < t.length := by have := HN.out; omega
      obtain ⟨b, off, rfl, hbb, hc0⟩ := ht.at_int hk0
      obtain ⟨b4, off4, rfl, hbb4, hcB⟩ := h4.at_int (k := k) (by rw [hl4]; omega)
      rw [bdP_get hk0] at hcB
      have HNX : Hid (k + 1 < n → wr.cell? ⟨b, off + (k + 1), none⟩ = some (.int .i32 (t.getD (k + 1) 0))) := Lib.hid (fun hk1 => by
        have hk2 : k + 1 < t.length := by have := HN.out; omega
        obtain ⟨b', off', hA, _, hc1⟩ := ht.at_int hk2
        injection hA with hA
        injection hA with e1 e2
        subst e1; subst e2
        rw [getDI hk2]; exact hc1)
      have b0 := fun h1 : k + 1 = n => brk_end (t := t) (k := k) (by rw [h1, HN.out])
      have b1 := fun h1 : k + 1 < n => brk_crlf (t := t) (k := k) (by rw [← HN.out]; exact h1)
      have b2 := fun h1 : k + 1 < n => brk_cr (t := t) (k := k) (by rw [← HN.out]; exact h1)
      have b3 := fun h1 : k + 1 < n => brk_not (t := t) (k := k) (by rw [← HN.out]; exact h1)
      unfold bdC at b2 b3
      rw [getDI hk0] at b1 b2 b3
      have hyes := par_yes (t := t) (k := k)
      have hno := par_no (t := t) (k := k)
      generalize t[k] = X at *
      generalize t.getD (k + 1) 0 = Y at *
      generalize (ofP X).bidi = P at *
      generalize brkP t k = V at *
      generalize hO : (parS t k).out = O3 at *
      have c1 : ((k : Int) + 1).toNat = k + 1 := by omega
      clear hk0 ht h4
      by_cases hk1 : k + 1 = n
      · have HY : Hid (parS t (k + 1) = ⟨O3 ++ [(f, k + 1)], k + 1⟩) := Lib.hid (by rw [hyes (b0 hk1), HF.out])
        have d1 : decide ((k : Int) + 1 < (n : Int)) = false := decide_eq_false (by omega)
        have d2 : ((k : Int) + 1 == (n : Int)) = true := by simp; omega
        have hk1' := Lib.hid hk1
        clear b0 b1 b2 b3 hyes hno hk1
        have hcs : (P == 11) = false ∨ ((P == 11) = true ∧ ((X == 13) = false ∨ (X == 13) = true)) := by
          rcases h1 : (P == 11) with _ | _
          · exact .inl rfl
          · rcases h2 : (X == 13) with _ | _
            · exact .inr ⟨rfl, .inl rfl⟩
            · exact .inr ⟨rfl, .inr rfl⟩
        rcases hcs with p1 | ⟨p1, x1 | x1⟩
        all_goals
          go_wp2_with (at_builtin; refine wpList_pushC rfl _ _ 24 rfl _ Try.underlying24 fullC rfl (by omega) u.heap.size _ O3 (f, k + 1) u _ _ (by simp [row]) hM rfl rfl hb hb.size (by omega) ?_; intro v2 w2 hM2 hb3)
          go_roundw
          case rel => exact ⟨k + 1, k + 1, by omega, by omega, by go_num, by go_num, Lib.hid (by rw [HY.out]), by rw [HY.out]; exact hM2, hb3⟩
          case measure => simp [intOf] <;> omega
      · have hk2 : k + 1 < n := by omega
        have hcY := HNX.out hk2
        have d1 : decide ((k : Int) + 1 < (n : Int)) = true := decide_eq_true (by omega)
        have d2 : ((k : Int) + 1 == (n : Int)) = false := by simp; omega
        replace b1 := b1 hk2
        replace b2 := b2 hk2
        replace b3 := b3 hk2
        clear b0 HNX hk1
        by_cases hP : P = 11
        · by_cases hX : X = 13
          · by_cases hY : Y = 10
            · have HY : Hid (parS t (k + 1) = parS t k) := Lib.hid (hno (b1 hX hY))
              subst hP; subst hX; subst hY
              clear b1 b2 b3 hyes hno
              go_wp2
              go_roundw
              case rel => exact ⟨k + 1, f, by omega, by omega, by go_num, rfl, Lib.hid (by rw [HY.out]; exact HF.out), by rw [HY.out, hO]; exact hM, hb⟩
              case measure => simp [intOf] <;> omega
            · have HY : Hid (parS t (k + 1) = ⟨O3 ++ [(f, k + 1)], k + 1⟩) := Lib.hid (by rw [hyes (by rw [b2 hY, hP]; rfl), HF.out])
              have y1 : (Y == 10) = false := by simpa using hY
              subst hP; subst hX
              clear b1 b2 b3 hyes hno hY
              go_wp2_with (at_builtin; refine wpList_pushC rfl _ _ 24 rfl _ Try.underlying24 fullC rfl (by omega) u.heap.size _ O3 (f, k + 1) u _ _ (by simp [row]) hM rfl rfl hb hb.size (by omega) ?_; intro v2 w2 hM2 hb3)
              go_roundw
              case rel => exact ⟨k + 1, k + 1, by omega, by omega, by go_num, by go_num, Lib.hid (by rw [HY.out]), by rw [HY.out]; exact hM2, hb3⟩
              case measure => simp [intOf] <;> omega
          · have HY : Hid (parS t (k + 1) = ⟨O3 ++ [(f, k + 1)], k + 1⟩) := Lib.hid (by rw [hyes (by rw [b3 hX, hP]; rfl), HF.out])
            have x1 : (X == 13) = false := by simpa using hX
            subst hP
            clear b1 b2 b3 hyes hno hX
            go_wp2_with (at_builtin; refine wpList_pushC rfl _ _ 24 rfl _ Try.underlying24 fullC rfl (by omega) u.heap.size _ O3 (f, k + 1) u _ _ (by simp [row]) hM rfl rfl hb hb.size (by omega) ?_; intro v2 w2 hM2 hb3)
            go_roundw
            case rel => exact ⟨k + 1, k + 1, by omega, by omega, by go_num, by go_num, Lib.hid (by rw [HY.out]), by rw [HY.out]; exact hM2, hb3⟩
            case measure => simp [intOf] <;> omega
        · have p1 : (P == 11) = false := by simpa using hP
          have HY : Hid (parS t (k + 1) = parS t k) := Lib.hid (hno (by
            by_cases hX : X = 13
            · by_cases hY : Y = 10
              · exact b1 hX hY
              · rw [b2 hY, p1]
            · rw [b3 hX, p1]))
          clear b1 b2 b3 hyes hno hP
          go_wp2
          go_roundw
          case rel => exact ⟨k + 1, f, by omega, by omega, by go_num, rfl, Lib.hid (by rw [HY.out]; exact HF.out), by rw [HY.out, hO]; exact hM, hb⟩
          case measure => simp [intOf] <;> omega
    · obtain rfl : k = n := by omega
      have hE : parL t = (parS t k).out := by unfold parL; rw [← HN.out]
      have hM2 := hM.cutsV hb
      go_wp2
      go_ret
      obtain ⟨A5, c5, h5, h6, h7, h8⟩ := hM2
      exact ⟨_, rfl, by rw [hE]; exact ⟨A5, c5, h5, ⟨h6.1, fun a ha => Nat.le_trans HBU.out.size (h6.2 a ha)⟩, h7, below_trans HBU.out h8 HBU.out.size⟩⟩
end Go.Proofs.Ytneiifjihgbacaa
