/-
  Contracts of the document's embed and isolate. Condition: at most 1000 entries, counters of at most 1000.
-/
import Derived.Test.YtjdkpnmejkbkiaaXrb
import Derived.Test.YtjdkpnmejkbkiaaXsc
set_option linter.unusedVariables false
set_option linter.unusedSimpArgs false
namespace Go.Proofs.Ytjdkpnmejkbkiaa
open Go.ChangeShapes Go.WideShapes Go.ChangeAt Go.RowKit Go.Sort

/-- the whole struct into a block of the call's own, where the count of draws is not known -/
theorem wpList_store_bel {P : Program} {ops : Array Oper} {rest : List Oper} {o : Oper} {a : Act} {w : World} {Q : Exit → Act → World → Prop} (hgd : o.guard = none) (ty : TypeId) (x y : Operand) (ho : o.op = .store ty x y)
    (g : Nat) (cells : Array Value) (hx : a.eval x = .pointer (some ⟨g, 0, none⟩)) (hy : a.eval y = .agg cells) (t : TypeId) (old : Array Value) (hg : At w g t old) (hi : (P.info? ty).map (·.size) = some cells.size)
    (hold : old.size = cells.size) (h1 : cells.all (·.oneCell') = true) (B : Nat) (W0 : World) (hb : Below B W0 w) (hB : B ≤ g)
    (h : ∀ w', At w' g t cells → (∀ k, k ≠ g → w'.heap[k]? = w.heap[k]?) → w'.heap.size = w.heap.size → Below B W0 w' → wpList P ops Q rest (a.put o.dst undef) w') : wpList P ops Q (o :: rest) a w :=
  wpList_plain hgd fun _ hK => wp_store_row ty x y ho g cells hx hy t old hg hi hold h1
    (hK _ _ (h _ (setRow_heap _ _ _ _ _ _ hg) (fun k hk => setRow_other _ _ _ _ hk) (by simp)
      (hb.trans ⟨rfl, rfl, rfl, by simp, fun k hk => setRow_other _ _ _ _ (by omega)⟩)))
theorem HasN.stays {α : Type} {R : Lay α} {w w' : World} {A : Option Addr} {l : List α} (h : HasN R w w.heap.size A l) (hs : w.heap.size ≤ w'.heap.size) (hk : ∀ a, A = some a → a.block < w.heap.size → w'.heap[a.block]? = w.heap[a.block]?) : HasN R w' w'.heap.size A l := fun hne => by
  obtain ⟨b, off, e, hl, hc⟩ := h hne
  exact ⟨b, off, e, by omega, fun i x hx q u hu => (World.cell?_of_block (a := ⟨b, off + i * R.C + q, none⟩) (hk ⟨b, off, none⟩ e hl)).trans (hc i x hx q u hu)⟩

/-- what a callee of the document's finds: the state in a box, and a box for what it hands back -/
theorem two_boxes (w : World) (c0 c1 c2 c3 z0 z1 z2 z3 : Value) (t : TypeId) (u : World) (hu : Below (((w.alloc (.cells #[c0, c1, c2, c3] t)).alloc (.cells #[z0, z1, z2, z3] t))).heap.size ((w.alloc (.cells #[c0, c1, c2, c3] t)).alloc (.cells #[z0, z1, z2, z3] t)) u) :
    At u w.heap.size t #[c0, c1, c2, c3] ∧ At u (w.heap.size + 1) t #[z0, z1, z2, z3] ∧ Below w.heap.size w u ∧ w.heap.size + 2 ≤ u.heap.size := by
  have h1 : At ((w.alloc (.cells #[c0, c1, c2, c3] t)).alloc (.cells #[z0, z1, z2, z3] t)) w.heap.size t #[c0, c1, c2, c3] := (at_new _ _ _).alloc _
  have h2 : At ((w.alloc (.cells #[c0, c1, c2, c3] t)).alloc (.cells #[z0, z1, z2, z3] t)) (w.heap.size + 1) t #[z0, z1, z2, z3] := by
    have := at_new (w.alloc (.cells #[c0, c1, c2, c3] t)) #[z0, z1, z2, z3] t
    rwa [World.size_alloc] at this
  refine ⟨?_, ?_, ?_, by have := hu.size; simpa using this⟩
  · unfold At; rw [hu.block _ h1.lt]; exact h1
  · unfold At; rw [hu.block _ h2.lt]; exact h2
  · exact (((Below.refl _ _).alloc (Nat.le_refl _) _).alloc (by simp) _).trans (hu.mono (by simp; omega))

set_option maxRecDepth 20000 in
set_option maxHeartbeats 8000000 in
theorem rembed_ok (v : Value) (s : Xs) (c : Int) (w : World) (hc : c = 15 ∨ c = 17 ∨ c = 16 ∨ c = 18) (hs : RSt w v s) (hl : 0 < s.l.length ∧ s.l.length ≤ 1000) (hv : (lastE s.l).lv ≤ 125) (hm : s.embs ≤ 1000) :
    Calls Try.prog 23 #[v, .int .i64 c] w fun e w' => ∃ v', e = .returned v' ∧ RSt w' v' (embedX s c) ∧ Below w.heap.size w w' ∧ Far w v v' := by
  have HL : Hid (∀ W, Up w W → Calls Try.prog 20 #[v] W fun e w' => e = .returned (entV (lastE s.l)) ∧ Up W w') := Lib.hid fun W hW => rlast_ok v s W (hs.carry hW.1) hl
  have HM : Hid (∀ (n : Nat) (W : World), Up w W → Calls Try.prog 41 #[v, .int .i64 (n : Int)] W fun e w' => e = .returned (.bool (roomX s n)) ∧ Up W w') := Lib.hid fun n W hW => rroom_ok v s n W (hs.carry hW.1)
  have HX := Lib.hid (fun odd W => rnext_ok (lastE s.l).lv odd W hv)
  have HF := Lib.hid (fun W => field0_50 (lastE s.l) W)
  have HS := Lib.hid hs
  obtain ⟨A, cc, rfl, hcc, hh⟩ := hs
  have HAD : Hid (∀ x W, Below w.heap.size w W → Calls Try.prog 42 #[.slice A s.l.length cc, entV x] W fun e w' => ∃ A2 c2, e = .returned (.slice A2 (s.l.length + 1) c2) ∧ s.l.length + 1 ≤ c2 ∧ Fresh W.heap.size A2 ∧ HasN LE w' w'.heap.size A2 (s.l ++ [x]) ∧ Below W.heap.size W w') :=
    Lib.hid fun x W hW => radd_ok A s.l.length cc s.l x W rfl hl.2 (hh.carry hW)
  have HHH : Hid (∀ W, Below w.heap.size w W → HasN LE W W.heap.size A s.l) := Lib.hid fun W hW => hh.carry hW
  have HB := Lib.hid (fun u hu => two_boxes w (.slice A s.l.length cc) (.int .i64 (s.isos : Int)) (.int .i64 (s.embs : Int)) (.int .i64 (s.vals : Int)) (.slice none 0 0) (.int .i64 0) (.int .i64 0) (.int .i64 0) 46 u hu)
  unfold entV at HL HAD HF
  have HE : Hid (∃ odd ov, ((c = 15 ∧ odd = false ∧ ov = 0) ∨ (c = 17 ∧ odd = true ∧ ov = 0) ∨ (c = 16 ∧ odd = false ∧ ov = 1) ∨ (c = 18 ∧ odd = true ∧ ov = 2)) ∧ embedX s c = openX s odd ov) := Lib.hid (by
    rcases hc with rfl | rfl | rfl | rfl
    · exact ⟨false, 0, .inl ⟨rfl, rfl, rfl⟩, rfl⟩
    · exact ⟨true, 0, .inr (.inl ⟨rfl, rfl, rfl⟩), rfl⟩
    · exact ⟨false, 1, .inr (.inr (.inl ⟨rfl, rfl, rfl⟩)), rfl⟩
    · exact ⟨true, 2, .inr (.inr (.inr ⟨rfl, rfl, rfl⟩)), rfl⟩)
  obtain ⟨odd, ov, hcase, hE⟩ := HE.out
  rw [hE]
  have HR : Hid (openX s odd ov = if roomX s (nextL (lastE s.l).lv odd) = true then ⟨s.l ++ [⟨nextL (lastE s.l).lv odd, ov, false⟩], s.isos, s.embs, s.vals⟩ else if s.isos = 0 then ⟨s.l, s.isos, s.embs + 1, s.vals⟩ else s) := Lib.hid rfl
  have HX1 := Lib.hid (HX.out odd)
  generalize lastE s.l = E at *
  obtain ⟨lv, ov0, iso0⟩ := E
  simp only at HL HF HX1 HR hv HAD
  have hf := HF.out
  generalize nextL lv odd = N at *
  generalize openX s odd ov = R at *
  have HM1 := Lib.hid (HM.out N)
  clear hh HF HE hE hc HX HM
  cases hr : roomX s N with
  | true =>
    rw [hr] at HM1 HR
    simp only [if_true] at HR
    have HA2 := Lib.hid (HAD.out ⟨N, ov, false⟩)
    clear HAD
    rcases hcase with ⟨rfl, rfl, rfl⟩ | ⟨rfl, rfl, rfl⟩ | ⟨rfl, rfl, rfl⟩ | ⟨rfl, rfl, rfl⟩
    all_goals
      go_enter Try.func23, Try.ntmps23
      go_wp2_with (first
        | (go_at_call 20; refine (HL.out _ (((Up.refl w).alloc _).alloc _)).mono ?_; rintro e u1 ⟨rfl, hu1⟩; obtain ⟨b1, b2, b3, b4⟩ := HB.out u1 hu1.1; obtain ⟨d0, d1, d2, d3⟩ := b1.four; have hu1w := (((Up.refl w).alloc _).alloc _).trans hu1)
        | (go_at_call 40; refine (HX1.out _).mono ?_; rintro e u1b ⟨rfl, rfl⟩)
        | (go_at_call 41; refine (HM1.out _ hu1w).mono ?_; rintro e u2 ⟨rfl, hu2⟩; obtain ⟨b1, b2, b3, b4⟩ := HB.out u2 (hu1.trans hu2).1; obtain ⟨d0, d1, d2, d3⟩ := b1.four)
        | (go_at_call 42; refine (HA2.out _ b3).mono ?_; rintro e u3 ⟨A3, c3, rfl, hc3, hf3, hh3, hb3⟩; obtain ⟨b1, b2, b5, b6⟩ := HB.out u3 ((hu1.trans hu2).1.trans (hb3.mono (hu1.trans hu2).1.size)); obtain ⟨d0, d1, d2, d3⟩ := b1.four; have f0 := b1.free 0)
        | (refine wpList_store_bel rfl 46 _ _ rfl (w.heap.size + 1) _ rfl rfl 46 _ (b2.other ⟨w.heap.size, 0, none⟩ (.slice A3 (s.l.length + 1) c3) (by simp)) (by exact Try.info46) (by rfl) (by simp [Value.oneCell']) w.heap.size w (b5.setCell (Nat.le_refl _) _) (Nat.le_succ _) ?_; intro w5 hat hk hsz hb5))
      refine bodyPost_ret (results_cell_at Try.results23 _ _ (w.heap.size + 1) 46 _ _ (by rfl) hat Try.underlying46 rfl (by exact Try.info46)) rfl ⟨_, rfl, ?_, hb5, far_new fun a ha => Nat.le_trans (by have := b4; first | omega | (simp; omega)) (hf3 a ha)⟩
      rw [HR.out]
      refine ⟨A3, c3, by simp, by simpa using hc3, hh3.stays (by rw [hsz]; simp) fun a ha hlt => ?_⟩
      have h1 := hf3 a ha
      rw [hk _ (by omega), Below.heap_setCell _ _ _ _ (by show a.block ≠ w.heap.size; omega)]
  | false =>
    rw [hr] at HM1 HR
    simp only [if_false, Bool.false_eq_true, reduceCtorEq] at HR
    clear HAD
    by_cases h0 : s.isos = 0
    · have HR2 : Hid (R = ⟨s.l, s.isos, s.embs + 1, s.vals⟩) := Lib.hid (by rw [HR.out, if_pos h0])
      have hi : ((s.isos : Int) == 0) = true := by simp [h0]
      rcases hcase with ⟨rfl, rfl, rfl⟩ | ⟨rfl, rfl, rfl⟩ | ⟨rfl, rfl, rfl⟩ | ⟨rfl, rfl, rfl⟩
      all_goals
        clear h0
        go_enter Try.func23, Try.ntmps23
        go_wp2_with (first
          | (go_at_call 20; refine (HL.out _ (((Up.refl w).alloc _).alloc _)).mono ?_; rintro e u1 ⟨rfl, hu1⟩; obtain ⟨b1, b2, b3, b4⟩ := HB.out u1 hu1.1; obtain ⟨d0, d1, d2, d3⟩ := b1.four; have hu1w := (((Up.refl w).alloc _).alloc _).trans hu1)
          | (go_at_call 40; refine (HX1.out _).mono ?_; rintro e u1b ⟨rfl, rfl⟩)
          | (go_at_call 41; refine (HM1.out _ hu1w).mono ?_; rintro e u2 ⟨rfl, hu2⟩; obtain ⟨b1, b2, b3, b4⟩ := HB.out u2 (hu1.trans hu2).1; obtain ⟨d0, d1, d2, d3⟩ := b1.four; have f0 := b1.free 2)
          | (refine wpList_store_bel rfl 46 _ _ rfl (w.heap.size + 1) _ rfl rfl 46 _ (b2.other ⟨w.heap.size, 2, none⟩ (.int .i64 ((s.embs : Int) + 1)) (by simp)) (by exact Try.info46) (by rfl) (by simp [Value.oneCell']) w.heap.size w (b3.setCell (Nat.le_refl _) _) (Nat.le_succ _) ?_; intro w5 hat hk hsz hb5))
        refine bodyPost_ret (results_cell_at Try.results23 _ _ (w.heap.size + 1) 46 _ _ (by rfl) hat Try.underlying46 rfl (by exact Try.info46)) rfl ⟨_, rfl, ?_, hb5, far_same⟩
        rw [HR2.out]
        exact ⟨A, cc, rfl, hcc, HHH.out _ hb5⟩
    · have HR2 : Hid (R = s) := Lib.hid (by rw [HR.out, if_neg h0])
      have hi : ((s.isos : Int) == 0) = false := beq_eq_false_iff_ne.2 (by omega)
      rcases hcase with ⟨rfl, rfl, rfl⟩ | ⟨rfl, rfl, rfl⟩ | ⟨rfl, rfl, rfl⟩ | ⟨rfl, rfl, rfl⟩
      all_goals
        go_enter Try.func23, Try.ntmps23
        go_wp2_with (first
          | (go_at_call 20; refine (HL.out _ (((Up.refl w).alloc _).alloc _)).mono ?_; rintro e u1 ⟨rfl, hu1⟩; obtain ⟨b1, b2, b3, b4⟩ := HB.out u1 hu1.1; obtain ⟨d0, d1, d2, d3⟩ := b1.four; have hu1w := (((Up.refl w).alloc _).alloc _).trans hu1)
          | (go_at_call 40; refine (HX1.out _).mono ?_; rintro e u1b ⟨rfl, rfl⟩)
          | (go_at_call 41; refine (HM1.out _ hu1w).mono ?_; rintro e u2 ⟨rfl, hu2⟩; obtain ⟨b1, b2, b3, b4⟩ := HB.out u2 (hu1.trans hu2).1; obtain ⟨d0, d1, d2, d3⟩ := b1.four)
          | (refine wpList_store_bel rfl 46 _ _ rfl (w.heap.size + 1) _ rfl rfl 46 _ b2 (by exact Try.info46) (by rfl) (by simp [Value.oneCell']) w.heap.size w b3 (Nat.le_succ _) ?_; intro w5 hat hk hsz hb5))
        refine bodyPost_ret (results_cell_at Try.results23 _ _ (w.heap.size + 1) 46 _ _ (by rfl) hat Try.underlying46 rfl (by exact Try.info46)) rfl ⟨_, rfl, ?_, hb5, far_same⟩
        rw [HR2.out]
        exact HS.out.carry hb5
end Go.Proofs.Ytjdkpnmejkbkiaa
