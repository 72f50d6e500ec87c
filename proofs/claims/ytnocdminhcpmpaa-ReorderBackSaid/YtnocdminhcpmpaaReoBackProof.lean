/-
  For every []int the statement ReorderBack returns true: Visual gives each place once, Is tells so of it and of Logical, and Logical leads back. No condition.
-/
import Derived.Test.YtnocdminhcpmpaaHas
import Derived.Test.YtnocdminhcpmpaaRol
set_option linter.unusedVariables false
namespace Go.Proofs.Ytnocdminhcpmpaa.reorderBack
open Go.ChangeShapes Go.WideShapes Go.ChangeAt Go.RowKit Go.Proofs.Ytnocdminhcpmpaa
theorem own : ownKnob Try.prog.godebug = none := by kernel_rfl
theorem laidOut : laidOutB Try.prog = true := by kernel_rfl

theorem isP_put (lv : Nat → Nat) (n : Nat) : isP (putK n (ordX lv n) n) = true := by
  rw [isP_true, put_len]
  intro i hi
  exact List.mem_of_getElem? (put_get n (ordX lv n) (fun x hx => ord_lt lv n hx) (ord_nodup lv n) n i hi (by rw [ord_len]; exact Nat.le_refl _))
theorem walk (A0 : Option Addr) (c0 : Nat) (z0 : List Int) (w : World) (n0 : z0.length ≤ 9223372036854775807) (m0 : z0.length ≤ c0) (w0 : ∀ z ∈ z0, (Lit.int .i64 z).wf = true) (h0 : Has w w.heap.size A0 (z0.map (Value.int .i64))) :
    Calls Try.prog 6 #[.slice A0 z0.length c0] w fun e w' => e = .returned (.bool true) ∧ Below w.heap.size w w' := by
  have HLG := Lib.hid (fun W => long_ok A0 z0.length c0 W)
  by_cases hl : 30 < z0.length
  · rw [decide_eq_true hl] at HLG
    clear w0 m0 h0
    go_enter Try.func6, Try.ntmps6
    go_wp2_with (go_at_call 9; (with_reducible refine (HLG.out _).mono ?_); rintro e u ⟨rfl, rfl⟩)
    go_ret
    exact ⟨rfl, Below.refl _ _⟩
  · rw [decide_eq_false hl] at HLG
    have H1 := Lib.hid (visual_ok A0 z0.length c0 z0 w rfl (by omega) h0)
    have H3 := Lib.hid (fun (W : World) (hb : Below w.heap.size w W) => logical_ok A0 z0.length c0 z0 W rfl (by omega) (h0.carry hb))
    have HOL := Lib.hid (ord_len (lvX z0) z0.length)
    have HPL := Lib.hid (put_len z0.length (ordX (lvX z0) z0.length) z0.length)
    have hp1 := isP_ord (lvX z0) z0.length
    have hp2 := isP_put (lvX z0) z0.length
    have HG := Lib.hid (fun k h => ord_get (lvX z0) z0.length k h)
    have HLT := Lib.hid (fun k h => ord_getlt (lvX z0) z0.length k h)
    have HPG := Lib.hid (fun i hi => put_get z0.length (ordX (lvX z0) z0.length) (fun x hx => ord_lt (lvX z0) z0.length hx) (ord_nodup (lvX z0) z0.length) z0.length i hi (by rw [ord_len]; exact Nat.le_refl _))
    generalize putK z0.length (ordX (lvX z0) z0.length) z0.length = P at *
    generalize ordX (lvX z0) z0.length = O at *
    have hn2 : z0.length ≤ 30 := by omega
    obtain ⟨n, hn⟩ : ∃ n, z0.length = n := ⟨_, rfl⟩
    rw [hn] at HLG H1 H3 HOL HPL hn2 HG HLT HPG
    rw [hn]
    have HOI : Hid ((inN O).length = n) := Lib.hid (by rw [inN_len]; exact HOL.out)
    have HI1 := Lib.hid (fun A c W h => is_ok A n c (inN O) W HOI.out.symm (by omega) h)
    have HI2 := Lib.hid (fun A c W h => is_ok A n c P W HPL.out.symm (by omega) h)
    rw [hp1] at HI1
    rw [hp2] at HI2
    clear w0 m0 h0 hn hl n0 hp1 hp2
    go_enter Try.func6, Try.ntmps6
    go_wp2_with (first
      | (go_at_call 9; (with_reducible refine (HLG.out _).mono ?_); rintro e u ⟨rfl, rfl⟩)
      | (go_at_call 11; (with_reducible refine H1.out.mono ?_); rintro e z1 ⟨v, rfl, m1, b1⟩; obtain ⟨A1, c1, rfl, _, _, s1⟩ := m1.size; rw [HOI.out])
      | (go_at_call 13; (with_reducible refine (H3.out _ b1).mono ?_); rintro e z2 ⟨v, rfl, m2, b2⟩; obtain ⟨A2, c2, rfl, _, _, s2⟩ := m2.size; rw [HPL.out]; have s1' := s1.carry b2; have b12 := below_trans b1 b2 b1.size)
      | (go_at_call 20; (with_reducible refine (HI1.out A1 c1 _ s1').mono ?_); rintro e z3 ⟨rfl, b3⟩; have s1'' := s1'.carry b3; have s2' := s2.carry b3; have b13 := below_trans b12 b3 b12.size)
      | (go_at_call 20; (with_reducible refine (HI2.out A2 c2 _ s2').mono ?_); rintro e z4 ⟨rfl, b4⟩; have s1x := s1''.carry b4; have s2x := s2'.carry b4; have b14 := below_trans b13 b4 b13.size))
    have HS := Lib.hid (And.intro s1x s2x)
    clear m1 m2 s1 s2 s1' s1'' s2' s1x s2x H1 H3 HI1 HI2 HLG b3 b4 b2 b12 b13
    have HB := Lib.hid b14
    clear b14
    go_loopw [5] (fun v wr => ∃ k : Nat, k ≤ n ∧ v = .int .i64 k ∧ wr = z4) (fun v _ => n - (intOf v).toNat)
    case atStart => exact ⟨0, by omega, rfl, rfl⟩
    case round =>
      obtain ⟨k, hkn, rfl, rfl⟩ := hrel
      by_cases hlt : k < n
      · have hx := HG.out k hlt
        have hxn := HLT.out k hlt
        have hp := HPG.out k hlt
        generalize O.getD k 0 = x at *
        obtain ⟨b1', o1, rfl, _, hc1⟩ := HS.out.1.at_int (k := k) (by rw [HOI.out]; exact hlt)
        have e1 : (inN O)[k]'(by rw [HOI.out]; exact hlt) = (x : Int) := by
          have := inN_get O k x hx
          rw [List.getElem?_eq_getElem (by rw [HOI.out]; exact hlt)] at this
          injection this
        rw [e1] at hc1
        obtain ⟨b2', o2, rfl, _, hc2⟩ := HS.out.2.at_int (k := x) (by rw [HPL.out]; exact hxn)
        have e2 : P[x]'(by rw [HPL.out]; exact hxn) = (k : Int) := by
          rw [List.getElem?_eq_getElem (by rw [HPL.out]; exact hxn)] at hp
          injection hp
        rw [e2] at hc2
        have hx0 : ¬ ((x : Int) < 0) := by omega
        have hxn2 : ¬ ((n : Int) ≤ (x : Int)) := by omega
        clear e1 e2 hx hp HS
        go_wp2
        go_roundw
        case rel => exact ⟨k + 1, by omega, by go_num, by trivial⟩
        case measure => simp [intOf] <;> omega
      · obtain rfl : k = n := by omega
        go_wp2
        go_ret
        exact ⟨rfl, HB.out⟩

set_option maxRecDepth 100000 in
theorem lifted (os : Os) (started : os.Started) (H : Type) (enc : TypeId × Value → H) :
    ReturnsInHanded {} Try.checked os 6 .any (Rows.reorderBackSpec.pre6 enc Try.prog Try.f6 Rows.reorderBackRow.domain false) (Rows.reorderBackSpec.post enc Try.prog Try.f6 false true false false) := by
  refine returnsInHanded_of_change (C := Try.checked) own started (by kernel_rfl) Try.func6
    (ChangeSpec.witness6 (enc := enc) (C := Try.checked) false ⟨#[], #[.slice none 0 0], []⟩ 8 (by kernel_rfl) (by kernel_rfl) (by kernel_rfl) (by kernel_rfl)) ?_
  intro W base args ds gs before hval0 hW hcnd _
  have hval : ∀ (j : Nat) t v, Try.f6.params[j]? = some t → args[j]? = some v → Value.okWide Try.prog W .any base t v := hval0
  have hW' := hW
  obtain ⟨p, q, hA0, hV, rfl, hfz, hnd⟩ := hW
  have hA : DataW.TrodAll enc Try.prog W 0 (fun _ => true) true Try.f6.params.toList args.toList ds p := hA0
  rw [Try.params6] at hA hval
  obtain ⟨v0, vs0, d0, ds0, p0, q0, hargs, rfl, rfl, h0, r0⟩ := trodAll_cons hA
  obtain ⟨rfl, rfl, rfl⟩ := trodAll_nil r0
  obtain rfl : args = #[v0] := by cases args; simp_all
  obtain ⟨rfl, rfl⟩ := trodVars_none hV
  clear hA0 hval0
  have hlt : ∀ x ∈ p0 ++ [], x.block < W.heap.size := fun x hx => by simpa using hW'.lt x (List.mem_append_left _ hx)
  have k0 := h0
  obtain ⟨A0, l0, c0, rfl⟩ := okWide_slice Try.underlying22 (hval 0 22 v0 rfl rfl)
  obtain ⟨z0, rfl, n0, m0, w0, hh0⟩ := has_ints Try.underlying22 Try.underlying3 (by kernel_rfl) h0 (fun x hx => hlt x (List.mem_append_left _ hx))
  refine (walk A0 c0 z0 W n0 m0 w0 hh0).mono fun e W' ⟨he, hb⟩ => ?_
  subst he
  exact ⟨_, rfl, _, _, _, [], _, [], hW', (trodAll_cons_mk (shut_bool Try.underlying4 _) trodAll_mk0), (trodAll_cons_mk (Below.trod laidOut (by kernel_rfl) (of_decide_eq_true (by kernel_rfl)) k0 hb (fun x hx => hlt x (List.mem_append_left _ hx))) trodAll_mk0), rfl, hb.frame _, fun h => by cases h⟩

theorem over : Rows.reorderBackRow.holds Try.pinned (OpenSpec.ofChange Rows.reorderBackSpec) :=
  OpenClaim.holds_of_wide 6 Try.f6 rfl rfl rfl rfl rfl rfl rfl ⟨rfl, rfl, rfl, rfl, rfl⟩ rfl rfl rfl rfl rfl (by kernel_rfl) Try.func6 (by kernel_rfl)
    (of_decide_eq_true (by kernel_rfl)) (by unfold Func.isWrapper; first | (rw [if_pos (by decide +kernel)]; kernel_rfl) | (rw [if_neg (by decide +kernel)]; exact ⟨rfl, rfl⟩))
    (fun os started H enc _ => lifted os started H enc)

/-- the statement -/
theorem proved : Rows.ReorderBackSaid :=
  over
#print axioms proved
end Go.Proofs.Ytnocdminhcpmpaa.reorderBack
