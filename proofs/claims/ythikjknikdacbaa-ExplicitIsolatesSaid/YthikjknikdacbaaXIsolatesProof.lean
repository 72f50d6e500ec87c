/-
  For all []int x, y and every Inside z the statement ExplicitIsolates returns true: what stands within an isolate does not change what is told outside. No condition.
-/
import Derived.Test.YthikjknikdacbaaHas
import Derived.Test.YthikjknikdacbaaXui
set_option linter.unusedVariables false
namespace Go.Proofs.Ythikjknikdacbaa.explicitIsolates
open Go.ChangeShapes Go.WideShapes Go.ChangeAt Go.RowKit Go.Proofs.Ythikjknikdacbaa
theorem own : ownKnob Try.prog.godebug = none := by kernel_rfl
theorem laidOut : laidOutB Try.prog = true := by kernel_rfl

open Go.Sort
theorem sizeB {a b : World} {o : Obj} (h : Below (a.heap.size + 1) (a.alloc o) b) : a.heap.size + 1 ≤ b.heap.size := by
  have := h.size
  simpa using this
set_option maxRecDepth 20000 in
set_option maxHeartbeats 8000000 in
theorem walk (A0 : Option Addr) (c0 : Nat) (z0 : List Int) (A1 : Option Addr) (c1 : Nat) (z1 : List Int) (b2 : Bool) (A2p : Option Addr) (c2p : Nat) (z2p : List Int) (A2q : Option Addr) (c2q : Nat) (z2q : List Int) (w : World) (n0 : z0.length ≤ 9223372036854775807) (m0 : z0.length ≤ c0) (w0 : ∀ z ∈ z0, (Lit.int .i64 z).wf = true) (h0 : Has w w.heap.size A0 (z0.map (Value.int .i64))) (e0 : A0 = none → c0 = 0) (n1 : z1.length ≤ 9223372036854775807) (m1 : z1.length ≤ c1) (w1 : ∀ z ∈ z1, (Lit.int .i64 z).wf = true) (h1 : Has w w.heap.size A1 (z1.map (Value.int .i64))) (e1 : A1 = none → c1 = 0) (n2p : z2p.length ≤ 9223372036854775807) (m2p : z2p.length ≤ c2p) (w2p : ∀ z ∈ z2p, (Lit.int .i64 z).wf = true) (h2p : Has w w.heap.size A2p (z2p.map (Value.int .i64))) (n2q : z2q.length ≤ 9223372036854775807) (m2q : z2q.length ≤ c2q) (w2q : ∀ z ∈ z2q, (Lit.int .i64 z).wf = true) (h2q : Has w w.heap.size A2q (z2q.map (Value.int .i64))) :
    Calls Try.prog 7 #[.slice A0 z0.length c0, .slice A1 z1.length c1, .agg #[.bool b2, .slice A2p z2p.length c2p, .slice A2q z2q.length c2q]] w fun e w' => e = .returned (.bool true) ∧ Below w.heap.size w w' := by
  have H0 := Lib.hid (fun W => long_ok A0 z0.length c0 W)
  have H1 := Lib.hid (fun W => long_ok A1 z1.length c1 W)
  have Hp := Lib.hid (fun W => long_ok A2p z2p.length c2p W)
  have Hq := Lib.hid (fun W => long_ok A2q z2q.length c2q W)
  by_cases hl : 200 < z0.length ∨ 200 < z1.length ∨ 200 < z2p.length ∨ 200 < z2q.length
  · have hcase : (200 < z0.length) ∨ (¬ 200 < z0.length ∧ 200 < z1.length) ∨ (¬ 200 < z0.length ∧ ¬ 200 < z1.length ∧ 200 < z2p.length) ∨ (¬ 200 < z0.length ∧ ¬ 200 < z1.length ∧ ¬ 200 < z2p.length ∧ 200 < z2q.length) := by omega
    clear hl w0 m0 h0 w1 m1 h1 w2p m2p h2p w2q m2q h2q e0 e1
    generalize z0.length = na at *
    generalize z1.length = nb at *
    generalize z2p.length = nu at *
    generalize z2q.length = nv at *
    rcases hcase with k0 | ⟨k0, k1⟩ | ⟨k0, k1, k2⟩ | ⟨k0, k1, k2, k3⟩
    · rw [decide_eq_true k0] at H0
      clear k0
      go_enter Try.func7, Try.ntmps7
      go_wp2_with (go_at_call 8; (with_reducible refine (H0.out _).mono ?_); rintro e u ⟨rfl, rfl⟩)
      go_ret
      exact ⟨rfl, (Below.refl _ _).alloc (Nat.le_refl _) _⟩
    · rw [decide_eq_false k0] at H0
      rw [decide_eq_true k1] at H1
      clear k0 k1
      go_enter Try.func7, Try.ntmps7
      go_wp2_with (go_at_call 8; first | (with_reducible refine (H0.out _).mono ?_; rintro e u ⟨rfl, rfl⟩; clear H0) | (with_reducible refine (H1.out _).mono ?_; rintro e u ⟨rfl, rfl⟩))
      go_ret
      exact ⟨rfl, (Below.refl _ _).alloc (Nat.le_refl _) _⟩
    · rw [decide_eq_false k0] at H0
      rw [decide_eq_false k1] at H1
      rw [decide_eq_true k2] at Hp
      clear k0 k1 k2
      go_enter Try.func7, Try.ntmps7
      go_wp2_with (go_at_call 8; first | (with_reducible refine (H0.out _).mono ?_; rintro e u ⟨rfl, rfl⟩; clear H0) | (with_reducible refine (H1.out _).mono ?_; rintro e u ⟨rfl, rfl⟩; clear H1) | (with_reducible refine (Hp.out _).mono ?_; rintro e u ⟨rfl, rfl⟩))
      go_ret
      exact ⟨rfl, (Below.refl _ _).alloc (Nat.le_refl _) _⟩
    · rw [decide_eq_false k0] at H0
      rw [decide_eq_false k1] at H1
      rw [decide_eq_false k2] at Hp
      rw [decide_eq_true k3] at Hq
      clear k0 k1 k2 k3
      go_enter Try.func7, Try.ntmps7
      go_wp2_with (go_at_call 8; first | (with_reducible refine (H0.out _).mono ?_; rintro e u ⟨rfl, rfl⟩; clear H0) | (with_reducible refine (H1.out _).mono ?_; rintro e u ⟨rfl, rfl⟩; clear H1) | (with_reducible refine (Hp.out _).mono ?_; rintro e u ⟨rfl, rfl⟩; clear Hp) | (with_reducible refine (Hq.out _).mono ?_; rintro e u ⟨rfl, rfl⟩))
      go_ret
      exact ⟨rfl, (Below.refl _ _).alloc (Nat.le_refl _) _⟩
  have k0 : ¬ 200 < z0.length := fun h => hl (.inl h)
  have k1 : ¬ 200 < z1.length := fun h => hl (.inr (.inl h))
  have k2 : ¬ 200 < z2p.length := fun h => hl (.inr (.inr (.inl h)))
  have k3 : ¬ 200 < z2q.length := fun h => hl (.inr (.inr (.inr h)))
  rw [decide_eq_false k0] at H0
  rw [decide_eq_false k1] at H1
  rw [decide_eq_false k2] at Hp
  rw [decide_eq_false k3] at Hq
  have mixed : Try.prog.follows .mixedOrders = true := by kernel_rfl
  have HPU : Hid (∀ W, Below w.heap.size w W → _) := Lib.hid (fun W hW => laid_ok A0 A2p A1 c0 c2p c1 _ _ _ z0 z2p z1 b2 W rfl rfl rfl (by omega) e0 e1 w2p (h0.carry hW) (h2p.carry hW) (h1.carry hW))
  have HPV : Hid (∀ W, Below w.heap.size w W → _) := Lib.hid (fun W hW => laid_ok A0 A2q A1 c0 c2q c1 _ _ _ z0 z2q z1 b2 W rfl rfl rfl (by omega) e0 e1 w2q (h0.carry hW) (h2q.carry hW) (h1.carry hW))
  obtain ⟨P, Q, P', Q', ⟨l1, l2, l3, l4⟩, hT⟩ := told z0 z1 b2
  obtain ⟨t1, t2, t3, t4⟩ := hT z2p
  obtain ⟨s1, s2, s3, s4⟩ := hT z2q
  have hru := lay_len z0 b2 z2p z1
  have hrv := lay_len z0 b2 z2q z1
  have HLU : Hid (∀ A c W, (layL z0 b2 z2p z1).length ≤ c → Has W W.heap.size A ((layL z0 b2 z2p z1).map (Value.int .i64)) → _) := Lib.hid (fun A c W hc hh => levels_ok A _ c 0 (layL z0 b2 z2p z1) W rfl hc (by omega) (by omega) hh)
  have HLV : Hid (∀ A c W, (layL z0 b2 z2q z1).length ≤ c → Has W W.heap.size A ((layL z0 b2 z2q z1).map (Value.int .i64)) → _) := Lib.hid (fun A c W hc hh => levels_ok A _ c 0 (layL z0 b2 z2q z1) W rfl hc (by omega) (by omega) hh)
  have q1 : (lvI 0 (layL z0 b2 z2p z1) (layL z0 b2 z2p z1).length).length = (layL z0 b2 z2p z1).length := by unfold lvI; rw [List.length_map, lvN_len 0 _ _ (Nat.le_refl _)]
  have q2 : (clN 0 (layL z0 b2 z2p z1) (layL z0 b2 z2p z1).length).length = (layL z0 b2 z2p z1).length := clN_len 0 _ _ (Nat.le_refl _)
  have q3 : (lvI 0 (layL z0 b2 z2q z1) (layL z0 b2 z2q z1).length).length = (layL z0 b2 z2q z1).length := by unfold lvI; rw [List.length_map, lvN_len 0 _ _ (Nat.le_refl _)]
  have q4 : (clN 0 (layL z0 b2 z2q z1) (layL z0 b2 z2q z1).length).length = (layL z0 b2 z2q z1).length := clN_len 0 _ _ (Nat.le_refl _)
  generalize lvI 0 (layL z0 b2 z2p z1) (layL z0 b2 z2p z1).length = LU at *
  generalize clN 0 (layL z0 b2 z2p z1) (layL z0 b2 z2p z1).length = CU at *
  generalize lvI 0 (layL z0 b2 z2q z1) (layL z0 b2 z2q z1).length = LV at *
  generalize clN 0 (layL z0 b2 z2q z1) (layL z0 b2 z2q z1).length = CV at *
  generalize layL z0 b2 z2p z1 = RU at *
  generalize layL z0 b2 z2q z1 = RV at *
  generalize z0.length = na at *
  generalize z1.length = nb at *
  generalize z2p.length = nu at *
  generalize z2q.length = nv at *
  obtain ⟨NU, hNU⟩ : ∃ NU, RU.length = NU := ⟨_, rfl⟩
  obtain ⟨NV, hNV⟩ : ∃ NV, RV.length = NV := ⟨_, rfl⟩
  rw [hNU] at HLU hru q1 q2
  rw [hNV] at HLV hrv q3 q4
  have HNU := Lib.hid hNU
  have HNV := Lib.hid hNV
  have Q1 := Lib.hid q1
  have Q2 := Lib.hid q2
  have Q3 := Lib.hid q3
  have Q4 := Lib.hid q4
  have HRU := Lib.hid hru
  have HRV := Lib.hid hrv
  have HT := Lib.hid (And.intro t1 (And.intro t2 (And.intro t3 t4)))
  have HS := Lib.hid (And.intro s1 (And.intro s2 (And.intro s3 s4)))
  have HLL := Lib.hid (And.intro l1 (And.intro l2 (And.intro l3 l4)))
  have HBOX := Lib.hid (fun u (hu : Below (w.heap.size + 1) (w.alloc (.cells #[.bool b2, .slice A2p nu c2p, .slice A2q nv c2q] 33)) u) => (by
    have h := at_new w #[.bool b2, .slice A2p nu c2p, .slice A2q nv c2q] 33
    have h2 : At u w.heap.size 33 #[.bool b2, .slice A2p nu c2p, .slice A2q nv c2q] := by unfold At; rw [hu.block _ (Nat.lt_succ_self _)]; exact h
    exact ⟨h2.cell 0 _ rfl, h2.cell 1 _ rfl, h2.cell 2 _ rfl, ((Below.refl _ _).alloc (Nat.le_refl _) _).trans (hu.mono (Nat.le_succ _))⟩ : u.cell? ⟨w.heap.size, 0, none⟩ = some (.bool b2) ∧ u.cell? ⟨w.heap.size, 1, none⟩ = some (.slice A2p nu c2p) ∧ u.cell? ⟨w.heap.size, 2, none⟩ = some (.slice A2q nv c2q) ∧ Below w.heap.size w u))
  clear hl w0 m0 h0 w1 m1 h1 w2p m2p h2p w2q m2q h2q e0 e1 l1 l2 l3 l4 hT t1 t2 t3 t4 s1 s2 s3 s4 hru hrv q1 q2 q3 q4 hNU hNV
  go_enter Try.func7, Try.ntmps7
  go_wp2_with (first
    | (go_at_call 8; first | (with_reducible refine (H0.out _).mono ?_; rintro e u ⟨rfl, rfl⟩; clear H0) | (with_reducible refine (H1.out _).mono ?_; rintro e u ⟨rfl, rfl⟩; clear H1) | (with_reducible refine (Hp.out _).mono ?_; rintro e u ⟨rfl, rfl⟩; clear Hp) | (with_reducible refine (Hq.out _).mono ?_; rintro e u ⟨rfl, rfl⟩))
    | (go_at_call 17; first
        | (refine (HPU.out _ ((Below.refl _ _).alloc (Nat.le_refl _) _)).mono ?_; rintro e u1 ⟨v, rfl, hM, hb1⟩; have hc1 := (by simpa using hb1 : Below (w.heap.size + 1) (w.alloc (.cells #[.bool b2, .slice A2p nu c2p, .slice A2q nv c2q] 33)) u1); obtain ⟨d0, d1, d2, hw1⟩ := HBOX.out u1 hc1; obtain ⟨A5, c5, rfl, hc5, _, g5⟩ := hM.size; rw [HNU.out] at hc5 ⊢; clear HPU)
        | (refine (HPV.out u2 hw2).mono ?_; rintro e u3 ⟨v, rfl, hM, hb3⟩; have hc3 := hc2.trans (hb3.mono (sizeB hc2)); obtain ⟨d0, d1, d2, hw3⟩ := HBOX.out u3 hc3; obtain ⟨A6, c6, rfl, hc6, _, g6⟩ := hM.size; rw [HNV.out] at hc6 ⊢))
    | (go_at_call 9; first
        | (refine (HLU.out A5 c5 u1 hc5 g5).mono ?_; rintro e u2 ⟨va, vb, rfl, ha, hb, hb2⟩; have hc2 := hc1.trans (hb2.mono (sizeB hc1)); obtain ⟨d0, d1, d2, hw2⟩ := HBOX.out u2 hc2; obtain ⟨Aa, ca, rfl, hca, _, ga⟩ := ha.size; obtain ⟨Ab, cb, rfl, hcb, _, gb⟩ := hb.size; rw [Q1.out, Q2.out]; rw [Q1.out] at hca; rw [Q2.out] at hcb; clear HLU)
        | (refine (HLV.out A6 c6 u3 hc6 g6).mono ?_; rintro e u4 ⟨vc, vd, rfl, hc, hd, hb4⟩; have hc4 := hc3.trans (hb4.mono (sizeB hc3)); obtain ⟨d0, d1, d2, hw4⟩ := HBOX.out u4 hc4; obtain ⟨Ac, cc, rfl, hcc, _, gc⟩ := hc.size; obtain ⟨Ad, cd, rfl, hcd, _, gd⟩ := hd.size; rw [Q3.out, Q4.out]; rw [Q3.out] at hcc; rw [Q4.out] at hcd)))
  have ga4 := (ga.carry hb3).carry hb4
  have gb4 := (gb.carry hb3).carry hb4
  clear hM ha hb hc hd g5 g6 ga gb hb1 hb2 hb3 hb4 hc1 hc2 hc3 hc4 hw1 hw2 hw3
  go_quiet (fail)
  obtain ⟨W6, hW6⟩ : ∃ W6, u4.drewN nq = W6 := ⟨_, rfl⟩
  have hu6 : Up u4 W6 := by rw [← hW6]; exact (Up.refl u4).drewN nq
  rw [hW6]
  clear hW6 d0 d1 d2
  have ga6 := ga4.carry hu6.1
  have gb6 := gb4.carry hu6.1
  have gc6 := gc.carry hu6.1
  have gd6 := gd.carry hu6.1
  have hw6 := hw4.trans (hu6.1.mono hw4.size)
  clear ga4 gb4 gc gd hu6 hw4
  obtain ⟨K, hK⟩ : ∃ K, na + 1 = K := ⟨_, rfl⟩
  obtain ⟨I, hI⟩ : ∃ I, na + 1 + nu = I := ⟨_, rfl⟩
  obtain ⟨J, hJ⟩ : ∃ J, na + 1 + nv = J := ⟨_, rfl⟩
  have eI : (na : Int) + 1 + (nu : Int) = (I : Int) := by omega
  have eJ : (na : Int) + 1 + (nv : Int) = (J : Int) := by omega
  have eK : (na : Int) + 1 = (K : Int) := by omega
  rw [eI, eJ, eK]
  have hNU := HRU.out
  have hNV := HRV.out
  obtain ⟨t1, t2, t3, t4⟩ := HT.out
  obtain ⟨s1, s2, s3, s4⟩ := HS.out
  obtain ⟨l1, l2, l3, l4⟩ := HLL.out
  rw [hI] at t2 t4
  rw [hK] at t1 t3 l1 l2
  rw [hJ] at s2 s4
  rw [hK] at s1 s3
  have c1 : ((NU : Int) != (I : Int) + 1 + (nb : Int)) = false := by simp; omega
  have c2 : ((NV : Int) != (J : Int) + 1 + (nb : Int)) = false := by simp; omega
  have b1 : I ≤ 401 ∧ J ≤ 401 ∧ K ≤ 201 ∧ nb ≤ 200 ∧ K ≤ NU ∧ K ≤ NV ∧ I < NU ∧ J < NV := by omega
  have n1 : NU - I = nb + 1 := by omega
  have n2 : NV - J = nb + 1 := by omega
  obtain ⟨ba, oa, rfl, y1, y2⟩ := ga6.at_int (k := 0) (by rw [Q1.out]; omega)
  clear y1 y2
  obtain ⟨bb, ob, rfl, y1, y2⟩ := gb6.at_int (k := 0) (by rw [Q2.out]; omega)
  clear y1 y2
  obtain ⟨bc, oc, rfl, y1, y2⟩ := gc6.at_int (k := 0) (by rw [Q3.out]; omega)
  clear y1 y2
  obtain ⟨bd, od, rfl, y1, y2⟩ := gd6.at_int (k := 0) (by rw [Q4.out]; omega)
  clear y1 y2
  have HE1 : Hid (∀ n os, Calls Try.prog 11 #[.slice (some ⟨ba, oa, none⟩) K ca, .slice (some ⟨bc, oc, none⟩) K cc] (grow (W6.drewN n) os) fun e w' => e = .returned (.bool true) ∧ ∃ q os', w' = grow ((grow (W6.drewN n) os).drewN q) os') := Lib.hid fun n os => by
    have f1 := (ga6.carry (Up.of_grow W6 n os).1).front K
    have f2 := (gc6.carry (Up.of_grow W6 n os).1).front K
    rw [← List.map_take, t1] at f1
    rw [← List.map_take, s1] at f2
    exact (eqs_up _ _ ca cc K P _ l1.symm (by omega) f1 f2).mono fun _ _ ⟨he, hu⟩ => ⟨he, hu.grow⟩
  have HE2 : Hid (∀ n os, Calls Try.prog 11 #[.slice (some ⟨bb, ob, none⟩) K cb, .slice (some ⟨bd, od, none⟩) K cd] (grow (W6.drewN n) os) fun e w' => e = .returned (.bool true) ∧ ∃ q os', w' = grow ((grow (W6.drewN n) os).drewN q) os') := Lib.hid fun n os => by
    have f1 := (gb6.carry (Up.of_grow W6 n os).1).front K
    have f2 := (gd6.carry (Up.of_grow W6 n os).1).front K
    rw [← List.map_take, t3] at f1
    rw [← List.map_take, s3] at f2
    exact (eqs_up _ _ cb cd K P' _ l2.symm (by omega) f1 f2).mono fun _ _ ⟨he, hu⟩ => ⟨he, hu.grow⟩
  have HE3 : Hid (∀ n os, Calls Try.prog 11 #[.slice (some ⟨ba, oa + I, none⟩) (NU - I) (ca - I), .slice (some ⟨bc, oc + J, none⟩) (NV - J) (cc - J)] (grow (W6.drewN n) os) fun e w' => e = .returned (.bool true) ∧ ∃ q os', w' = grow ((grow (W6.drewN n) os).drewN q) os') := Lib.hid fun n os => by
    have f1 := (ga6.carry (Up.of_grow W6 n os).1).drop I
    have f2 := (gc6.carry (Up.of_grow W6 n os).1).drop J
    rw [← List.map_drop, t2] at f1
    rw [← List.map_drop, s2] at f2
    rw [n1, n2]
    exact (eqs_up _ _ _ _ (nb + 1) Q _ l3.symm (by omega) f1 f2).mono fun _ _ ⟨he, hu⟩ => ⟨he, hu.grow⟩
  have HE4 : Hid (∀ n os, Calls Try.prog 11 #[.slice (some ⟨bb, ob + I, none⟩) (NU - I) (cb - I), .slice (some ⟨bd, od + J, none⟩) (NV - J) (cd - J)] (grow (W6.drewN n) os) fun e w' => e = .returned (.bool true) ∧ ∃ q os', w' = grow ((grow (W6.drewN n) os).drewN q) os') := Lib.hid fun n os => by
    have f1 := (gb6.carry (Up.of_grow W6 n os).1).drop I
    have f2 := (gd6.carry (Up.of_grow W6 n os).1).drop J
    rw [← List.map_drop, t4] at f1
    rw [← List.map_drop, s4] at f2
    rw [n1, n2]
    exact (eqs_up _ _ _ _ (nb + 1) Q' _ l4.symm (by omega) f1 f2).mono fun _ _ ⟨he, hu⟩ => ⟨he, hu.grow⟩
  obtain ⟨b1, b2', b3, b4, b5, b6, b7, b8⟩ := b1
  have i0 : (0 : Int) ≤ (K : Int) := by omega
  have i1 : (K : Int) ≤ (ca : Int) := by omega
  have i2 : (K : Int) ≤ (cb : Int) := by omega
  have i3 : (K : Int) ≤ (cc : Int) := by omega
  have i4 : (K : Int) ≤ (cd : Int) := by omega
  have j0 : (0 : Int) ≤ (I : Int) := by omega
  have j1 : (0 : Int) ≤ (J : Int) := by omega
  have j2 : (I : Int) ≤ (NU : Int) := by omega
  have j3 : (J : Int) ≤ (NV : Int) := by omega
  have j4 : ¬ ca = I := by omega
  have j5 : ¬ cb = I := by omega
  have j6 : ¬ cc = J := by omega
  have j7 : ¬ cd = J := by omega
  have j8 : NU ≤ ca := hca
  have HUP := Lib.hid (fun n os => hw6.trans ((Up.of_grow W6 n os).1.mono hw6.size))
  have m1 : NU ≤ 602 := by omega
  have m2 : NV ≤ 602 := by omega
  clear hK hI hJ eI eJ eK hNU hNV t1 t2 t3 t4 s1 s2 s3 s4 l1 l2 l3 l4 n1 n2 ga6 gb6 gc6 gd6 hw6
  go_wp2
  refine wp_region_quiet_grown mixed (by kernel_rfl) ?_
  repeat (go_big_quiet_step (first | (go_at_call 11; first | with_reducible exact Calls.grown_of (HE1.out _ _) | with_reducible exact Calls.grown_of (HE2.out _ _) | with_reducible exact Calls.grown_of (HE3.out _ _) | with_reducible exact Calls.grown_of (HE4.out _ _))))
  refine wpQuiet_nil ?_
  intro _ hw'
  obtain ⟨⟨nr, osr⟩, hw''⟩ := hw'
  subst hw''
  go_wp2
  go_ret
  exact ⟨rfl, HUP.out _ _⟩

set_option maxRecDepth 100000 in
theorem lifted (os : Os) (started : os.Started) (H : Type) (enc : TypeId × Value → H) :
    ReturnsInHanded {} Try.checked os 7 .any (Rows.explicitIsolatesSpec.pre6 enc Try.prog Try.f7 Rows.explicitIsolatesRow.domain false) (Rows.explicitIsolatesSpec.post enc Try.prog Try.f7 false true false false) := by
  refine returnsInHanded_of_change (C := Try.checked) own started (by kernel_rfl) Try.func7
    (ChangeSpec.witness6 (enc := enc) (C := Try.checked) false ⟨#[], #[.slice none 0 0, .slice none 0 0, .agg #[.bool false, .slice none 0 0, .slice none 0 0]], []⟩ 8 (by kernel_rfl) (by kernel_rfl) (by kernel_rfl) (by kernel_rfl)) ?_
  intro W base args ds gs before hval0 hW hcnd _
  have hval : ∀ (j : Nat) t v, Try.f7.params[j]? = some t → args[j]? = some v → Value.okWide Try.prog W .any base t v := hval0
  have hW' := hW
  obtain ⟨p, q, hA0, hV, rfl, hfz, hnd⟩ := hW
  have hA : DataW.TrodAll enc Try.prog W 0 (fun _ => true) true Try.f7.params.toList args.toList ds p := hA0
  rw [Try.params7] at hA hval
  obtain ⟨v0, vs0, d0, ds0, p0, q0, hargs, rfl, rfl, h0, r0⟩ := trodAll_cons hA
  obtain ⟨v1, vs1, d1, ds1, p1, q1, rfl, rfl, rfl, h1, r1⟩ := trodAll_cons r0
  obtain ⟨v2, vs2, d2, ds2, p2, q2, rfl, rfl, rfl, h2, r2⟩ := trodAll_cons r1
  obtain ⟨rfl, rfl, rfl⟩ := trodAll_nil r2
  obtain rfl : args = #[v0, v1, v2] := by cases args; simp_all
  obtain ⟨rfl, rfl⟩ := trodVars_none hV
  clear hA0 hval0
  have hlt : ∀ x ∈ p0 ++ (p1 ++ (p2 ++ [])), x.block < W.heap.size := fun x hx => by simpa using hW'.lt x (List.mem_append_left _ hx)
  have k0 := h0
  have k1 := h1
  have k2 := h2
  obtain ⟨A0, l0, c0, rfl⟩ := okWide_slice Try.underlying22 (hval 0 22 v0 rfl rfl)
  obtain ⟨z0, rfl, n0, m0, w0, hh0⟩ := has_ints Try.underlying22 Try.underlying3 (by kernel_rfl) h0 (fun x hx => hlt x (List.mem_append_left _ hx))
  have e0 := none_cap Try.underlying22 Try.underlying3 (by kernel_rfl) k0
  obtain ⟨A1, l1, c1, rfl⟩ := okWide_slice Try.underlying22 (hval 1 22 v1 rfl rfl)
  obtain ⟨z1, rfl, n1, m1, w1, hh1⟩ := has_ints Try.underlying22 Try.underlying3 (by kernel_rfl) h1 (fun x hx => hlt x (List.mem_append_right _ (List.mem_append_left _ hx)))
  have e1 := none_cap Try.underlying22 Try.underlying3 (by kernel_rfl) k1
  obtain ⟨b2, A2p, c2p, z2p, A2q, c2q, z2q, hv2, ⟨n2p, m2p, w2p, hh2p⟩, ⟨n2q, m2q, w2q, hh2q⟩⟩ := seen_inside (hval 2 33 v2 rfl rfl) h2 (fun x hx => hlt x (List.mem_append_right _ (List.mem_append_right _ (List.mem_append_left _ hx))))
  subst hv2
  refine (walk A0 c0 z0 A1 c1 z1 b2 A2p c2p z2p A2q c2q z2q W n0 m0 w0 hh0 e0 n1 m1 w1 hh1 e1 n2p m2p w2p hh2p n2q m2q w2q hh2q).mono fun e W' ⟨he, hb⟩ => ?_
  subst he
  exact ⟨_, rfl, _, _, _, [], _, [], hW', (trodAll_cons_mk (shut_bool Try.underlying4 _) trodAll_mk0), (trodAll_cons_mk (Below.trod laidOut (by kernel_rfl) (of_decide_eq_true (by kernel_rfl)) k0 hb (fun x hx => hlt x (List.mem_append_left _ hx))) (trodAll_cons_mk (Below.trod laidOut (by kernel_rfl) (of_decide_eq_true (by kernel_rfl)) k1 hb (fun x hx => hlt x (List.mem_append_right _ (List.mem_append_left _ hx)))) (trodAll_cons_mk (Below.trod laidOut (by kernel_rfl) (of_decide_eq_true (by kernel_rfl)) k2 hb (fun x hx => hlt x (List.mem_append_right _ (List.mem_append_right _ (List.mem_append_left _ hx))))) trodAll_mk0))), rfl, hb.frame _, fun h => by cases h⟩

theorem over : Rows.explicitIsolatesRow.holds Try.pinned (OpenSpec.ofChange Rows.explicitIsolatesSpec) :=
  OpenClaim.holds_of_wide 7 Try.f7 rfl rfl rfl rfl rfl rfl rfl ⟨rfl, rfl, rfl, rfl, rfl⟩ rfl rfl rfl rfl rfl (by kernel_rfl) Try.func7 (by kernel_rfl)
    (of_decide_eq_true (by kernel_rfl)) (by unfold Func.isWrapper; first | (rw [if_pos (by decide +kernel)]; kernel_rfl) | (rw [if_neg (by decide +kernel)]; exact ⟨rfl, rfl⟩))
    (fun os started H enc _ => lifted os started H enc)

/-- the statement -/
theorem proved : Rows.ExplicitIsolatesSaid :=
  over
#print axioms proved
end Go.Proofs.Ythikjknikdacbaa.explicitIsolates
