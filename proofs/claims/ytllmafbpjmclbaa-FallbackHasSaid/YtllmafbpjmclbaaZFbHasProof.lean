/-
  Whether a font has a cluster: the program's answer is the document's, for every font of at most 100 mappings and every cluster of at most 20 code points (of others it says nothing); the arguments stay as they were.
-/
import Derived.Test.YtllmafbpjmclbaaHas
import Derived.Test.YtllmafbpjmclbaaFont
import Derived.Test.YtllmafbpjmclbaaZFbq
import Derived.Deep.RegionHeld3
set_option linter.unusedVariables false
namespace Go.Proofs.Ytllmafbpjmclbaa.fallbackHas
open Go.ChangeShapes Go.WideShapes Go.ChangeAt Go.RowKit Go.Proofs.Ytllmafbpjmclbaa
theorem own : ownKnob Try.prog.godebug = none := by kernel_rfl
theorem laidOut : laidOutB Try.prog = true := by kernel_rfl

open Go.Sort
theorem walk (x0 : Shp.Dat fontS) (A1 : Option Addr) (c1 : Nat) (z1 : List Int) (w : World) (h0 : Lies w w.heap.size fontS x0) (n1 : z1.length ≤ 9223372036854775807) (m1 : z1.length ≤ c1) (w1 : ∀ z ∈ z1, (Lit.int .i32 z).wf = true) (h1 : Has w w.heap.size A1 (z1.map (Value.int .i32))) (e1 : A1 = none → c1 = 0) :
    Calls Try.prog 4 #[.agg (Shp.row fontS x0).toArray, .slice A1 z1.length c1] w fun e w' => e = .returned (.bool true) ∧ Below w.heap.size w w' := by
  have mixed : Try.prog.follows .mixedOrders = true := by kernel_rfl
  obtain ⟨v0, v1, v3, v4, v5, A, c, hrow, ⟨g0, g1, g3, g4, g5⟩, hM, hl⟩ := font_row h0
  have hx : Value.agg (Shp.row fontS x0).toArray = .agg #[v0, v1, .slice A (mapsOf x0).length c, v3, v4, v5] := by rw [hrow]
  rw [hx]
  clear hx
  have HPX := Lib.hid (fun (h100 : (mapsOf x0).length ≤ 1000000) (d m : Nat) (hml : m = z1.length) (hm : m ≤ 1000000) (hwf : ∀ z ∈ z1, (Lit.int .i32 z).wf = true) W (hb : Below w.heap.size w W) => phas_ok x0 v0 v1 v3 v4 v5 A A1 c (mapsOf x0).length d m z1 W hrow h100 hml hm hwf (h0.carry hb) (h1.carry hb) g0 g1 g3 g4 g5)
  clear hrow h0
  have HWF : Hid (∀ z ∈ z1, (Lit.int .i32 z).wf = true) := Lib.hid w1
  generalize mapsOf x0 = M at *
  have hnl : M.length = M.length := rfl
  generalize hn : M.length = n at hl HPX ⊢
  generalize hm : z1.length = m at *
  have hn' := hn.symm
  have hm' := hm.symm
  clear hnl
  by_cases hb : 100 < n
  · clear hn hm hn' hm' hM h1 e1 w1
    go_enter Try.func4, Try.ntmps4
    go_wp2
    go_ret
    exact ⟨rfl, ((Up.refl w).alloc _).1⟩
  · by_cases hb2 : 20 < m
    · clear hn hm hn' hm' hM h1 e1 w1
      go_enter Try.func4, Try.ntmps4
      go_wp2
      go_ret
      exact ⟨rfl, ((Up.refl w).alloc _).1⟩
    · have HP := Lib.hid (fun W (hb : Below w.heap.size w W) => HPX.out (by omega) c1 m rfl (by omega) HWF.out W hb)
      have HR := Lib.hid (fun W (hb : Below w.heap.size w W) => rhas_ok v0 v1 v3 v4 v5 A A1 c n c1 m M z1 W hn' (by omega) hm' (by omega) (hM.carry hb) (h1.carry hb) g0 g1 g3 g4 g5)
      generalize hasB M z1 = V at *
      clear hn hm hn' hm' hM h1 e1 w1 HPX HWF
      cases V
      all_goals
        go_enter Try.func4, Try.ntmps4
        go_wp2
        have hat : At (w.alloc (.cells #[v0, v1, .slice A n c, v3, v4, v5] 29)) w.heap.size 29 #[v0, v1, .slice A n c, v3, v4, v5] := at_new w _ _
        have hup : Up w (w.alloc (.cells #[v0, v1, .slice A n c, v3, v4, v5] 29)) := (Up.refl w).alloc _
        generalize w.alloc (.cells #[v0, v1, .slice A n c, v3, v4, v5] 29) = W0 at *
        have gF := hat.lt
        have b0 := hat.cell 0 _ rfl
        have b1 := hat.cell 1 _ rfl
        have b2 := hat.cell 2 _ rfl
        have b3 := hat.cell 3 _ rfl
        have b4 := hat.cell 4 _ rfl
        have b5 := hat.cell 5 _ rfl
        have hc : Below W0.heap.size W0 W0.drew := (Below.refl _ _).drew
        have HC := Lib.hid (fun W (hc : Below W0.heap.size W0 W) => (hup.1.trans (hc.mono hup.1.size) : Below w.heap.size w W))
        have HCE := Lib.hid (fun W (hc : Below W0.heap.size W0 W) => (⟨(hc.cell (p := ⟨w.heap.size, 0, none⟩) gF).trans b0, (hc.cell (p := ⟨w.heap.size, 1, none⟩) gF).trans b1, (hc.cell (p := ⟨w.heap.size, 2, none⟩) gF).trans b2, (hc.cell (p := ⟨w.heap.size, 3, none⟩) gF).trans b3, (hc.cell (p := ⟨w.heap.size, 4, none⟩) gF).trans b4, (hc.cell (p := ⟨w.heap.size, 5, none⟩) gF).trans b5⟩ :
          W.cell? ⟨w.heap.size, 0, none⟩ = some v0 ∧ W.cell? ⟨w.heap.size, 1, none⟩ = some v1 ∧ W.cell? ⟨w.heap.size, 2, none⟩ = some (.slice A n c) ∧ W.cell? ⟨w.heap.size, 3, none⟩ = some v3 ∧ W.cell? ⟨w.heap.size, 4, none⟩ = some v4 ∧ W.cell? ⟨w.heap.size, 5, none⟩ = some v5))
        clear hat hup gF
        go_region_held3 (fun w' => w'.cell? ⟨w.heap.size, 0, none⟩ = some v0 ∧ w'.cell? ⟨w.heap.size, 1, none⟩ = some v1 ∧ w'.cell? ⟨w.heap.size, 2, none⟩ = some (.slice A n c) ∧ w'.cell? ⟨w.heap.size, 3, none⟩ = some v3 ∧ w'.cell? ⟨w.heap.size, 4, none⟩ = some v4 ∧ w'.cell? ⟨w.heap.size, 5, none⟩ = some v5)
          (first | go_keep | exact HCE.out _ hc)
          (first
            | (go_at_call 8; (with_reducible refine (HP.out _ (HC.out _ hc)).mono ?_); rintro e u ⟨rfl, hu⟩; have hc := below_trans hc hu hc.size)
            | (go_at_call 9; (with_reducible refine (HR.out _ (HC.out _ hc)).mono ?_); rintro e u ⟨rfl, hu⟩; have hc := below_trans hc hu.1 hc.size))
        all_goals go_wp2
        all_goals go_ret
        all_goals exact ⟨rfl, HC.out _ hc⟩

set_option maxRecDepth 100000 in
theorem lifted (os : Os) (started : os.Started) (H : Type) (enc : TypeId × Value → H) :
    ReturnsInHanded {} Try.checked os 4 .any (Rows.fallbackHasSpec.pre6 enc Try.prog Try.f4 Rows.fallbackHasRow.domain false) (Rows.fallbackHasSpec.post enc Try.prog Try.f4 false true false false) := by
  refine returnsInHanded_of_change (C := Try.checked) own started (by kernel_rfl) Try.func4
    (ChangeSpec.witness6 (enc := enc) (C := Try.checked) false ⟨#[], #[.agg #[.int .i64 0, .slice none 0 0, .slice none 0 0, .slice none 0 0, .slice none 0 0, .slice none 0 0], .slice none 0 0], []⟩ 8 (by kernel_rfl) (by kernel_rfl) (by kernel_rfl) (by kernel_rfl)) ?_
  intro W base args ds gs before hval0 hW hcnd _
  have hval : ∀ (j : Nat) t v, Try.f4.params[j]? = some t → args[j]? = some v → Value.okWide Try.prog W .any base t v := hval0
  have hW' := hW
  obtain ⟨p, q, hA0, hV, rfl, hfz, hnd⟩ := hW
  have hA : DataW.TrodAll enc Try.prog W 0 (fun _ => true) true Try.f4.params.toList args.toList ds p := hA0
  rw [Try.params4] at hA hval
  obtain ⟨v0, vs0, d0, ds0, p0, q0, hargs, rfl, rfl, h0, r0⟩ := trodAll_cons hA
  obtain ⟨v1, vs1, d1, ds1, p1, q1, rfl, rfl, rfl, h1, r1⟩ := trodAll_cons r0
  obtain ⟨rfl, rfl, rfl⟩ := trodAll_nil r1
  obtain rfl : args = #[v0, v1] := by cases args; simp_all
  obtain ⟨rfl, rfl⟩ := trodVars_none hV
  clear hA0 hval0
  have hlt : ∀ x ∈ p0 ++ (p1 ++ []), x.block < W.heap.size := fun x hx => by simpa using hW'.lt x (List.mem_append_left _ hx)
  have k0 := h0
  have k1 := h1
  obtain ⟨x0, hv0, hh0⟩ := seen_any fontS Try.underlying29 (by kernel_rfl) (hval 0 29 v0 rfl rfl) h0 (fun x hx => hlt x (List.mem_append_left _ hx))
  subst hv0
  obtain ⟨A1, l1, c1, rfl⟩ := okWide_slice Try.underlying30 (hval 1 30 v1 rfl rfl)
  obtain ⟨z1, rfl, n1, m1, w1, hh1⟩ := has_ints Try.underlying30 Try.underlying21 (by kernel_rfl) h1 (fun x hx => hlt x (List.mem_append_right _ (List.mem_append_left _ hx)))
  have e1 := none_cap Try.underlying30 Try.underlying21 (by kernel_rfl) k1
  refine (walk x0 A1 c1 z1 W hh0 n1 m1 w1 hh1 e1).mono fun e W' ⟨he, hb⟩ => ?_
  subst he
  exact ⟨_, rfl, _, _, _, [], _, [], hW', (trodAll_cons_mk (shut_bool Try.underlying4 _) trodAll_mk0), (trodAll_cons_mk (Below.trod laidOut (by kernel_rfl) (of_decide_eq_true (by kernel_rfl)) k0 hb (fun x hx => hlt x (List.mem_append_left _ hx))) (trodAll_cons_mk (Below.trod laidOut (by kernel_rfl) (of_decide_eq_true (by kernel_rfl)) k1 hb (fun x hx => hlt x (List.mem_append_right _ (List.mem_append_left _ hx)))) trodAll_mk0)), rfl, hb.frame _, fun h => by cases h⟩

theorem over : Rows.fallbackHasRow.holds Try.pinned (OpenSpec.ofChange Rows.fallbackHasSpec) :=
  OpenClaim.holds_of_wide 4 Try.f4 rfl rfl rfl rfl rfl rfl rfl ⟨rfl, rfl, rfl, rfl, rfl⟩ rfl rfl rfl rfl rfl (by kernel_rfl) Try.func4 (by kernel_rfl)
    (of_decide_eq_true (by kernel_rfl)) (by unfold Func.isWrapper; first | (rw [if_pos (by decide +kernel)]; kernel_rfl) | (rw [if_neg (by decide +kernel)]; exact ⟨rfl, rfl⟩))
    (fun os started H enc _ => lifted os started H enc)

/-- the statement -/
theorem proved : Rows.FallbackHasSaid :=
  over
#print axioms proved
end Go.Proofs.Ytllmafbpjmclbaa.fallbackHas
