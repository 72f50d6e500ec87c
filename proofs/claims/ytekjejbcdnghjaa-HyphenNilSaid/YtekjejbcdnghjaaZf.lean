/-
  What is contributed so far, pattern by pattern, place by place; a slice of weights that is written into; storing one number as the last operation of a region. No condition.
-/
import Derived.Test.YtekjejbcdnghjaaZe
import Derived.Test.YtekjejbcdnghjaaZLast
import Derived.BigQuiet
import Derived.Deep.OwnRows
import Derived.Deep.QuietTactic
set_option linter.unusedVariables false
set_option linter.unusedSimpArgs false
namespace Go.Proofs.Ytekjejbcdnghjaa
open Go.ChangeShapes Go.WideShapes Go.ChangeAt Go.RowKit Go.Sort

/-- the patterns ahead of k, and pattern k at the places ahead of a -/
def ContrG (x : List Pat) (t : List Int) (k a : Nat) (j : Nat) (c : Int) : Prop :=
  Contr (x.take k) t j c ∨ ∃ p, x[k]? = some p ∧ ∃ a' i, a' < a ∧ a' < t.length ∧ p.1 <+: t.drop a' ∧ p.2[i]? = some c ∧ j = a' + i
theorem contrG_zero (x : List Pat) (t : List Int) (k j : Nat) (c : Int) : Contr (x.take k) t j c ↔ ContrG x t k 0 j c := by
  constructor
  · exact Or.inl
  · rintro (h | ⟨p, _, a', i, h, _⟩)
    · exact h
    · omega
theorem contrG_skip {x : List Pat} {t : List Int} {k a : Nat} {p : Pat} (hk : x[k]? = some p) (hn : p.1.isPrefixOf (t.drop a) = false) (j : Nat) (c : Int) : ContrG x t k a j c ↔ ContrG x t k (a + 1) j c := by
  constructor
  · rintro (h | ⟨q, hq, a', i, h1, h2⟩)
    · exact Or.inl h
    · exact Or.inr ⟨q, hq, a', i, by omega, h2⟩
  · rintro (h | ⟨q, hq, a', i, h1, h2, h3, h4⟩)
    · exact Or.inl h
    · rcases Nat.lt_or_ge a' a with e | e
      · exact Or.inr ⟨q, hq, a', i, e, h2, h3, h4⟩
      · have : a' = a := by omega
        subst this
        rw [hk] at hq
        injection hq with hq
        subst hq
        rw [← List.isPrefixOf_iff_prefix, hn] at h3
        cases h3
theorem contrG_step {x : List Pat} {t : List Int} {k a : Nat} {p : Pat} (hk : x[k]? = some p) (ha : a < t.length) (hn : p.1.isPrefixOf (t.drop a) = true) (j : Nat) (c : Int) :
    (ContrG x t k a j c ∨ ∃ i, i < p.2.length ∧ j = a + i ∧ p.2[i]? = some c) ↔ ContrG x t k (a + 1) j c := by
  constructor
  · rintro ((h | ⟨q, hq, a', i, h1, h2⟩) | ⟨i, h1, h2, h3⟩)
    · exact Or.inl h
    · exact Or.inr ⟨q, hq, a', i, by omega, h2⟩
    · exact Or.inr ⟨p, hk, a, i, by omega, ha, List.isPrefixOf_iff_prefix.1 hn, h3, h2⟩
  · rintro (h | ⟨q, hq, a', i, h1, h2, h3, h4, h5⟩)
    · exact Or.inl (Or.inl h)
    · rcases Nat.lt_or_ge a' a with e | e
      · exact Or.inl (Or.inr ⟨q, hq, a', i, e, h2, h3, h4, h5⟩)
      · have : a' = a := by omega
        subst this
        rw [hk] at hq
        injection hq with hq
        subst hq
        exact Or.inr ⟨i, (List.getElem?_eq_some_iff.1 h4).1, h5, h4⟩
theorem contrG_end {x : List Pat} {t : List Int} {k : Nat} {p : Pat} (hk : x[k]? = some p) (j : Nat) (c : Int) : ContrG x t k t.length j c ↔ Contr (x.take (k + 1)) t j c := by
  have e : x.take (k + 1) = x.take k ++ [p] := by rw [List.take_add_one, hk]; rfl
  rw [e]
  constructor
  · rintro (⟨q, hq, r⟩ | ⟨q, hq, a', i, h1, h2, h3, h4, h5⟩)
    · exact ⟨q, List.mem_append_left _ hq, r⟩
    · rw [hk] at hq
      injection hq with hq
      subst hq
      exact ⟨p, by simp, a', i, h2, h3, h4, h5⟩
  · rintro ⟨q, hq, a', i, h2, h3, h4, h5⟩
    rcases List.mem_append.1 hq with hq | hq
    · exact Or.inl ⟨q, hq, a', i, h2, h3, h4, h5⟩
    · rw [List.mem_singleton.1 hq] at h3 h4
      exact Or.inr ⟨p, hk, a', i, h2, h2, h3, h4, h5⟩
theorem contr_none (t : List Int) (j : Nat) (c : Int) : ¬ Contr [] t j c := fun ⟨p, hp, _⟩ => by cases hp

theorem mine_zeros {w : World} {n : Nat} (hn : n ≤ 1000) : Mine .i64 3 (w.alloc (.cells (madeCells #[Value.int .i64 0] n) 3)) w.heap.size (.slice (some ⟨w.heap.size, 0, none⟩) n n) (List.replicate n 0) := by
  have e : madeCells #[Value.int .i64 0] n = ((List.replicate n (0 : Int)).map (Value.int .i64)).toArray := by
    have e1 : (madeCells #[Value.int .i64 0] n).toList = (List.replicate n (0 : Int)).map (Value.int .i64) := by
      unfold madeCells
      apply List.ext_getElem?
      intro i
      simp
      rcases Nat.lt_or_ge i n with h | h
      · simp [h, Nat.mod_one]
      · simp [Nat.not_lt.2 h]
    exact congrArg List.toArray e1
  rw [e]
  refine ⟨by simp, .inr ⟨w.heap.size, n, _, by simp, Nat.le_refl _, heap_alloc_new w _, by simp, by unfold maxLen; omega, by simp, ?_⟩⟩
  rw [List.length_replicate]
  exact List.take_of_length_le (by simp)
theorem Mine.spotG {k : IntKind} {e : TypeId} {w : World} {B n c g : Nat} {xs : List Int} {i : Nat} (h : Mine k e w B (.slice (some ⟨g, 0, none⟩) n c) xs) (hi : i < xs.length) :
    B ≤ g ∧ g < w.heap.size ∧ w.cell? ⟨g, i, none⟩ = some (.int k (xs.getD i 0)) ∧ w.frozen? ⟨g, i, none⟩ = false ∧ ∀ z, Mine k e (w.setCell ⟨g, i, none⟩ (.int k z)) B (.slice (some ⟨g, 0, none⟩) n c) (xs.set i z) := by
  obtain ⟨h1, h2⟩ := h.own_lt g rfl
  refine ⟨h1, h2, ?_, h.free i, fun z => h.set i hi z⟩
  rw [h.cellAt i hi]
  simp [List.getD, List.getElem?_eq_getElem hi]

/-- weights in block G, being raised; all else that lay there when they were made stays -/
structure BeS (G m : Nat) (w W6 wr : World) (b : List Int) : Prop where
  own : Mine .i64 3 wr G (.slice (some ⟨G, 0, none⟩) m m) b
  len : b.length = m
  keep : Keeps G W6 wr
  bel : Below w.heap.size w wr
  le : w.heap.size ≤ G
section
variable {G m : Nat} {w W6 wr : World} {b : List Int}
theorem BeS.drewN (h : BeS G m w W6 wr b) (q : Nat) : BeS G m w W6 (wr.drewN q) b := ⟨h.own.drewN q, h.len, h.keep, below_drewN h.bel q, h.le⟩
theorem BeS.grown (h : BeS G m w W6 wr b) (n : Nat) (os : Array Obj) : BeS G m w W6 (grow (wr.drewN n) os) b :=
  ⟨h.own.up (Up.of_grow wr n os), h.len, h.keep.trans (Keeps.of_up (Up.of_grow wr n os)), h.bel.trans ((Up.of_grow wr n os).1.mono h.bel.size), h.le⟩
theorem BeS.store (h : BeS G m w W6 wr b) {i : Nat} (hi : i < m) (z : Int) : BeS G m w W6 (wr.setCell ⟨G, i, none⟩ (.int .i64 z)) (b.set i z) :=
  ⟨(h.own.spotG (by rw [h.len]; exact hi)).2.2.2.2 z, by rw [List.length_set]; exact h.len, h.keep.trans (Keeps.setCell wr G i _), h.bel.setCell (p := ⟨G, i, none⟩) h.le _, h.le⟩
theorem Has.keeps {B : Nat} {A : Option Addr} {xs : List Value} (h : Has W6 B A xs) (hB : B ≤ G) (hs : B ≤ W6.heap.size) (hk : Keeps G W6 wr) : Has wr wr.heap.size A xs := fun hne => by
  obtain ⟨b, off, e, hl, hc⟩ := h hne
  refine ⟨b, off, e, by have := hk.1; omega, fun j u hu => ?_⟩
  rw [← hc j u hu]
  unfold World.cell?
  rw [hk.2 b (by omega) (by omega)]
end
/-- a store of one number -/
theorem wp_store_int {P : Program} {o : Oper} {a : Act} {w : World} {K : Act → World → Prop} {Q : Exit → Act → World → Prop} (ty : TypeId) (x y : Operand) (ho : o.op = .store ty x y)
    (g j : Nat) (k : IntKind) (z : Int) (hx : a.eval x = .pointer (some ⟨g, j, none⟩)) (hy : a.eval y = .int k z) (hi : (P.info? ty).map (·.size) = some 1) (u : Value) (hc : w.cell? ⟨g, j, none⟩ = some u) (hf : w.frozen? ⟨g, j, none⟩ = false)
    (h : K (a.put o.dst undef) (w.setCell ⟨g, j, none⟩ (.int k z))) : o.wp P a w K Q := by
  have hrun : (storeVar ty ⟨g, j, none⟩ (.int k z)).run P w = .ok () (w.setCell ⟨g, j, none⟩ (.int k z)) := by
    cases hq : P.info? ty with
    | none => simp [hq] at hi
    | some i =>
      have hs : i.size = 1 := by simpa [hq] using hi
      have e0 : (⟨g, j, none⟩ : Addr).add 0 = ⟨g, j, none⟩ := by rw [add_plain]; rfl
      simp [storeVar, sizeOf, typeInfo, hq, Value.cells, hs, storeCells, run_store_int, stored, e0, hc, hf, Result.andThen]
  unfold Oper.wp execOp
  simp only [ho, hx, hy, Instr.storeAt, Instr.sureAddr, Sem.run_bind, Sem.run_pure, Result.andThen_ok, hrun]
  exact h
theorem wp_region_last_lit {P : Program} {id : Nat} {Q : Exit → Act → World → Prop} {a : Act} {w : World} (L : List Oper) (o0 : Oper) (hL : L = L.dropLast ++ [L.getLastD o0]) (hm : P.follows .mixedOrders = true) (hg : (L.getLastD o0).guard = none) (hd : (L.getLastD o0).dst = none)
    (hB : (Region.lexB .any (L.dropLast ++ [idle (L.getLastD o0)]).toArray && backB (L.dropLast ++ [L.getLastD o0]) && backB (L.dropLast ++ [idle (L.getLastD o0)]) && waitsB L.dropLast.length (L.getLastD o0)) = true)
    (h : wpQuiet P L.toArray (fun w' => ∃ p : GrownBy, w' = grow (w.drewN p.n) p.os) (fun a' => ∀ w', (∃ p : GrownBy, w' = grow (w.drewN p.n) p.os) → (L.getLastD o0).wp P a' w' (fun a'' w'' => Q .normal a'' w'') Q) L.dropLast a) : (Code.region id L.toArray true).wp P Q a w :=
  wp_region_last_grown L.dropLast (L.getLastD o0) L.toArray (by rw [← hL]) hm hg hd hB h
end Go.Proofs.Ytekjejbcdnghjaa

/-
  Contract of the document's Points. Condition: at most 1000 patterns, a word of at most a million letters.
-/
set_option linter.unusedVariables false
set_option linter.unusedSimpArgs false
namespace Go.Proofs.Ytekjejbcdnghjaa
open Go.ChangeShapes Go.WideShapes Go.ChangeAt Go.RowKit Go.Sort Go.Deep

theorem sizeI : (Try.prog.info? 3).map (·.size) = some 1 := by kernel_rfl
theorem dots_take (wd : List Int) (k : Nat) (h : k < wd.length) : (46 :: (wd.take (k + 1)).map smallZ) = (46 :: (wd.take k).map smallZ) ++ [smallZ wd[k]] := by
  rw [List.take_add_one, List.getElem?_eq_getElem h, Option.toList_some, List.map_append]; rfl
theorem dots_end (wd : List Int) : (46 :: (wd.take wd.length).map smallZ) ++ [46] = dotsW wd := by rw [List.take_length]; rfl
/-- weights within a digit's range -/
def NineL (b : List Int) : Prop := ∀ x ∈ b, 0 ≤ x ∧ x ≤ 9
theorem NineL.get {b : List Int} (h : NineL b) (i : Nat) : 0 ≤ b.getD i 0 ∧ b.getD i 0 ≤ 9 := by
  by_cases e : i < b.length
  · simp only [List.getD, List.getElem?_eq_getElem e, Option.getD_some]; exact h _ (List.getElem_mem _)
  · simp only [List.getD, List.getElem?_eq_none (show b.length ≤ i by omega), Option.getD_none]; omega

set_option maxRecDepth 20000 in
set_option maxHeartbeats 4000000 in
theorem rpoints_ok (A B : Option Addr) (c c' : Nat) (x : List Pat) (wd : List Int) (w : World) (hx : x.length ≤ 1000) (hw : wd.length ≤ 1000000) (hok : ∀ p ∈ x, OkP p.1 p.2)
    (h1 : ReadsP w (.slice A x.length c) x) (h2 : Has w w.heap.size B (wd.map (Value.int .i32))) :
    Calls Try.prog 14 #[.slice A x.length c, .slice B wd.length c'] w fun e w' => ∃ r, SliceOf .i64 w w' e r ∧ PointsS x wd r := by
  by_cases h64 : 64 < wd.length
  · have e : (wd.length : Int) > 64 := by omega
    go_enter Try.func14, Try.ntmps14
    go_wp2
    go_ret
    refine ⟨[], ⟨_, rfl, sliceV_nil _ _ _ (Below.refl _ _)⟩, ?_⟩
    unfold PointsS
    rw [if_pos h64]
  have e64 : ¬ (wd.length : Int) > 64 := by omega
  obtain ⟨m, hm⟩ : ∃ m : Nat, m = wd.length + 3 := ⟨_, rfl⟩
  have hmI : (wd.length : Int) + 3 = (m : Int) := by omega
  have hm9 : m ≤ 67 := by omega
  have HMM := Lib.hid hm
  clear hm
  have HMK := fun W => run_make_row' (P := Try.prog) 25 3 (.int .i64 0) 8 Try.underlying25 fullI rfl .i64 .i64 m (by omega) (by omega) W
  have mixed : Try.prog.follows .mixedOrders = true := by kernel_rfl
  obtain ⟨T, hT⟩ : ∃ T, dotsW wd = T := ⟨_, rfl⟩
  have hTL : T.length = wd.length + 2 := by rw [← hT]; exact dotsW_length wd
  have HTL := Lib.hid hTL
  have HTE := Lib.hid hT
  have HB := Lib.hid h2
  have H1 := Lib.hid h1
  have HOK := Lib.hid hok
  clear h1 h2 hok hTL
  go_enter Try.func14, Try.ntmps14
  go_wp2
  go_loopw [6, 7] (fun v i wr => ∃ k : Nat, k ≤ wd.length ∧ i = .int .i64 k ∧ Mine .i32 21 wr w.heap.size v (46 :: (wd.take k).map smallZ) ∧ Below w.heap.size w wr) (fun _ i _ => wd.length - (intOf i).toNat)
  case atStart => exact ⟨0, by omega, rfl, Mine.one .i32 21 w w.heap.size 46 (Nat.le_refl _), (Below.refl _ _).alloc (Nat.le_refl _) _⟩
  case round =>
    obtain ⟨k, hk, rfl, hM, hbl⟩ := hrel
    have hB := hbl.size
    have hlen : (46 :: (wd.take k).map smallZ).length ≤ 100 := by simp; omega
    by_cases hlt : k < wd.length
    · obtain ⟨b, off, rfl, hb, hca⟩ := HB.out.at_int hlt
      have hcc := (hbl.cell (p := ⟨b, off + k, none⟩) hb).trans hca
      have HT := dots_take wd k hlt
      obtain ⟨X, hX⟩ : ∃ X, wd[k] = X := ⟨_, rfl⟩
      rw [hX] at hcc HT
      have HT := Lib.hid HT
      have cg := fun w => rsmall_ok X w
      obtain ⟨Y, hY⟩ : ∃ Y, smallZ X = Y := ⟨_, rfl⟩
      rw [hY] at HT
      simp only [hY] at cg
      obtain ⟨xs, hxs⟩ : ∃ xs, 46 :: (wd.take k).map smallZ = xs := ⟨_, rfl⟩
      rw [hxs] at HT hM hlen
      clear hX hY hca hb hxs
      go_wp2_with (first
        | (go_at_call 25; refine (cg _).mono ?_; rintro e w9 ⟨rfl, rfl⟩)
        | (at_builtin; refine wpList_push rfl _ _ 22 rfl Try.underlying22 infoI32 (by omega) w.heap.size _ xs Y w _ hM rfl rfl hbl hB (by omega) ?_; intro v' w3 hM3 hb3))
      go_roundw
      case rel => exact ⟨k + 1, by omega, by go_num, by rw [HT.out]; exact hM3, hb3⟩
      case measure => simp [intOf]; omega
    · obtain rfl : k = wd.length := by omega
      have HD := dots_end wd
      rw [hT] at HD
      obtain ⟨xs, hxs⟩ : ∃ xs, 46 :: (wd.take wd.length).map smallZ = xs := ⟨_, rfl⟩
      rw [hxs] at HD hM hlen
      have HD := Lib.hid HD
      clear hxs
      go_wp2_with (at_builtin; refine wpList_push rfl _ _ 22 rfl Try.underlying22 infoI32 (by omega) w.heap.size _ xs 46 w _ hM rfl rfl hbl hB (by omega) ?_; intro v' w5 hM5 hb5; rw [HD.out] at hM5; obtain ⟨A6, c6, rfl, hc6, hf6, hh6⟩ := hM5.size; clear hM hbl hB)
      have hTl : T.length ≤ 66 := by have := HTL.out; omega
      obtain ⟨W6, hW6⟩ : ∃ W6, w5.alloc (.cells (madeCells #[Value.int .i64 0] m) 3) = W6 := ⟨_, rfl⟩
      have hbe : BeS w5.heap.size m w W6 W6 (List.replicate m 0) := by rw [← hW6]; exact ⟨mine_zeros (by omega), by simp, Keeps.refl _ _, hb5.alloc hb5.size _, hb5.size⟩
      have h66 : Has W6 w5.heap.size A6 (T.map (Value.int .i32)) := by rw [← hW6]; exact hh6.below ((Below.refl _ _).alloc (Nat.le_refl _) _)
      have hs6 : w5.heap.size ≤ W6.heap.size := by rw [← hW6]; simp
      obtain ⟨G, hG⟩ : ∃ G, w5.heap.size = G := ⟨_, rfl⟩
      rw [hG] at hbe h66 hs6
      have HT6 := Lib.hid (fun (W : World) (hk : Keeps G W6 W) => Has.keeps h66 (Nat.le_refl _) hs6 hk)
      have HBE := Lib.hid (show BeS G m w W6 W6 (List.replicate m 0) ∧ BestOf (Contr (x.take 0) T) (List.replicate m 0) ∧ NineL (List.replicate m 0) from ⟨hbe, BestOf.zeros (fun j c => contr_none T j c) m, fun y hy => by rw [List.eq_of_mem_replicate hy]; omega⟩)
      simp only [hW6, hG]
      clear hM5 hf6 hh6 hc6 hb5 hbe h66 hs6 hW6 hG HMK hmI HD
      go_loopw [9] (fun kk wr => ∃ (k : Nat) (b : List Int), k ≤ x.length ∧ kk = .int .i64 k ∧ Hid (BeS G m w W6 wr b ∧ BestOf (Contr (x.take k) T) b ∧ NineL b)) (fun kk _ => x.length - (intOf kk).toNat)
      case atStart => exact ⟨0, _, by omega, rfl, HBE⟩
      case round =>
        clear HBE
        obtain ⟨k, b, hk, rfl, HS⟩ := hrel
        by_cases hlt : k < x.length
        · have HS0 : Hid (BeS G m w W6 wr b ∧ BestOf (ContrG x T k 0) b ∧ NineL b) := Lib.hid ⟨HS.out.1, HS.out.2.1.congr (contrG_zero x T k), HS.out.2.2⟩
          have hpo := HOK.out _ (List.getElem_mem hlt)
          have hpk : x[k]? = some x[k] := List.getElem?_eq_getElem hlt
          have HAT := Lib.hid (fun (W : World) (hb : Below w.heap.size w W) => ((H1.out.carry hb).at_ hlt).2)
          obtain ⟨p, hp⟩ : ∃ p, x[k] = p := ⟨_, rfl⟩
          rw [hp] at hpo hpk
          simp only [hp] at HAT
          have hpl := mayB_len hpo
          have HPO := Lib.hid hpo
          have HPK := Lib.hid hpk
          clear hp hpo hpk HS
          go_wp2
          go_loopw [10] (fun aa wr => ∃ (a : Nat) (b : List Int), a ≤ T.length ∧ aa = .int .i64 a ∧ Hid (BeS G m w W6 wr b ∧ BestOf (ContrG x T k a) b ∧ NineL b)) (fun aa _ => T.length - (intOf aa).toNat)
          case atStart => exact ⟨0, b, by omega, rfl, HS0⟩
          case round =>
            clear HS0
            obtain ⟨a, b, ha, rfl, HS⟩ := hrel
            by_cases halt : a < T.length
            · obtain ⟨bb, off, r, rfl, hr, hc0, hc1⟩ := HAT.out wr HS.out.1.bel
              rw [Nat.add_zero] at hc0
              rw [hr.n] at hc0
              rw [hr.m] at hc1
              have cs := rstands_ok r.A A6 r.c c6 p.1 T a wr (by omega) (by omega) (by omega) hr.one (HT6.out _ HS.out.1.keep)
              have HSK := Lib.hid (fun q => contrG_skip (t := T) (a := a) HPK.out q)
              have HST := Lib.hid (fun q => contrG_step (t := T) (a := a) HPK.out halt q)
              obtain ⟨S, hS⟩ : ∃ S, p.1.isPrefixOf (T.drop a) = S := ⟨_, rfl⟩
              rw [hS] at cs
              have hpre : S = true → a + p.1.length ≤ T.length := fun e => by
                rw [e, List.isPrefixOf_iff_prefix] at hS
                have := hS.length_le
                rw [List.length_drop] at this
                omega
              simp only [hS] at HSK HST
              clear hS hr
              cases S
              · have HB2 := Lib.hid (HS.out.2.1.congr (HSK.out rfl))
                clear HST HSK hpre
                go_wp2_with (go_at_call 26; refine cs.mono ?_; rintro e w7 ⟨rfl, q, rfl⟩)
                go_roundw
                case rel => exact ⟨a + 1, b, by omega, by go_num, Lib.hid ⟨HS.out.1.drewN q, HB2.out, HS.out.2.2⟩⟩
                case measure => simp [intOf]; omega
              · have hpl2 := hpre rfl
                clear HSK hpre
                go_wp2_with (go_at_call 26; refine cs.mono ?_; rintro e w7 ⟨rfl, q, rfl⟩)
                have HS4 := Lib.hid (HS.out.1.drewN q)
                obtain ⟨W7, hW7⟩ : ∃ W7, wr.drewN q = W7 := ⟨_, rfl⟩
                rw [hW7] at HS4
                simp only [hW7]
                clear hW7 hc0 hc1
                go_loopw [11] (fun ii w4 => ∃ i : Nat, i ≤ p.2.length ∧ ii = .int .i64 i ∧ Hid (BeS G m w W6 w4 (raiseL b a p.2 i))) (fun ii _ => p.2.length - (intOf ii).toNat)
                case atStart => exact ⟨0, by omega, rfl, HS4⟩
                case round =>
                  obtain ⟨i, hi, rfl, HI⟩ := hrel
                  obtain ⟨bb2, off2, r2, eA, hr2, _, hc1⟩ := HAT.out wr HI.out.bel
                  injection eA with eA
                  injection eA with eA1 eA2
                  subst eA1; subst eA2
                  rw [hr2.m] at hc1
                  by_cases hil : i < p.2.length
                  · obtain ⟨b3, off3, hB3, _, hcd⟩ := hr2.two.at_int hil
                    have hij : a + i < m := by have := HTL.out; have := HMM.out; have := HPO.out.len; omega
                    obtain ⟨_, _, hcx, hfx, _⟩ := HI.out.own.spotG (i := a + i) (by rw [HI.out.len]; exact hij)
                    have HST4 := fun n os z => (HI.out.grown n os).store hij z
                    have hRS : raiseL b a p.2 (i + 1) = (raiseL b a p.2 i).set (a + i) (max ((raiseL b a p.2 i).getD (a + i) 0) (p.2.getD i 0)) := rfl
                    have hDD : p.2.getD i 0 = p.2[i] := by simp [List.getD, List.getElem?_eq_getElem hil]
                    obtain ⟨D, hD⟩ : ∃ D, p.2[i] = D := ⟨_, rfl⟩
                    obtain ⟨X, hX⟩ : ∃ X, (raiseL b a p.2 i).getD (a + i) 0 = X := ⟨_, rfl⟩
                    rw [hD] at hcd hDD
                    rw [hDD, hX] at hRS
                    rw [hX] at hcx
                    have HST4 := Lib.hid HST4
                    have HRS := Lib.hid hRS
                    have hu := fun n os => Up.of_grow wr n os
                    have f1 := fun n os => (hu n os).cell hc1
                    have f2 := fun n os => (hu n os).cell hcd
                    have f3 := fun n os => (hu n os).cell hcx
                    have HF3 := Lib.hid f3
                    have HF4 : Hid (∀ n os, (grow (wr.drewN n) os).frozen? ⟨G, a + i, none⟩ = false) := Lib.hid (fun n os => (HI.out.grown n os).own.free _)
                    have hkw : IntKind.i64.wrap ((a : Int) + (i : Int)) = (a : Int) + (i : Int) := IntWalk.i64_in _ (by omega)
                    have hkl : (a : Int) + (i : Int) < m := by omega
                    have hkp : 0 ≤ (a : Int) + (i : Int) := by omega
                    have hkt : ((a : Int) + (i : Int)).toNat = a + i := by omega
                    clear hcd hcx hfx hDD hRS hD hX hu hr2
                    generalize r2.B = Bx at *
                    subst hB3
                    by_cases hmx : D > X
                    · go_wp2
                      refine wp_region_last_lit _ ⟨none, .move (.const undef), 0, "", #[], none⟩ (by kernel_rfl) mixed (by rfl) (by rfl) (by kernel_rfl) ?_
                      dsimp only [List.dropLast, List.getLastD, List.getLast]
                      repeat (go_big_quiet_step (fail))
                      refine wpQuiet_nil ?_
                      intro w' hw'
                      obtain ⟨⟨n, os⟩, hw''⟩ := hw'
                      subst hw''
                      refine wp_store_int 3 _ _ rfl G (a + i) .i64 D rfl rfl sizeI _ (HF3.out n os) (HF4.out n os) ?_
                      go_wp2
                      go_roundw
                      case rel => exact ⟨i + 1, by omega, by go_num, Lib.hid (by rw [HRS.out, show max X D = D by omega]; exact HST4.out n os D)⟩
                      case measure => simp [intOf]; omega
                    · go_wp2
                      refine wp_region_last_lit _ ⟨none, .move (.const undef), 0, "", #[], none⟩ (by kernel_rfl) mixed (by rfl) (by rfl) (by kernel_rfl) ?_
                      dsimp only [List.dropLast, List.getLastD, List.getLast]
                      repeat (go_big_quiet_step (fail))
                      refine wpQuiet_nil ?_
                      intro w' hw'
                      obtain ⟨⟨n, os⟩, hw''⟩ := hw'
                      subst hw''
                      refine wp_store_int 3 _ _ rfl G (a + i) .i64 X rfl rfl sizeI _ (HF3.out n os) (HF4.out n os) ?_
                      go_wp2
                      go_roundw
                      case rel => exact ⟨i + 1, by omega, by go_num, Lib.hid (by rw [HRS.out, show max X D = X by omega]; exact HST4.out n os X)⟩
                      case measure => simp [intOf]; omega
                  · obtain rfl : i = p.2.length := by omega
                    have HNX : Hid (BeS G m w W6 wr (raiseL b a p.2 p.2.length) ∧ BestOf (ContrG x T k (a + 1)) (raiseL b a p.2 p.2.length) ∧ NineL (raiseL b a p.2 p.2.length)) :=
                      Lib.hid ⟨HI.out, (raise_best HS.out.2.1 a (fun y hy => (HPO.out.digits y hy).1) _ (Nat.le_refl _)).congr (HST.out (by first | exact trivial | rfl)), raise_wf (by decide) HS.out.2.2 HPO.out.digits _⟩
                    clear hr2
                    go_wp2
                    go_roundw
                    case rel => exact ⟨a + 1, _, by omega, by go_num, HNX⟩
                    case measure => simp [intOf]; omega
            · obtain rfl : a = T.length := by omega
              have HNX := Lib.hid (And.intro HS.out.1 (And.intro (HS.out.2.1.congr (contrG_end HPK.out)) HS.out.2.2))
              go_wp2
              go_roundw
              case rel => exact ⟨k + 1, b, by omega, by go_num, HNX⟩
              case measure => simp [intOf]; omega
        · obtain rfl : k = x.length := by omega
          have hbest := HS.out.2.1
          rw [List.take_length] at hbest
          have hBel := HS.out.1.bel
          have HPT : Hid (PointsS x wd (pts wd.length b)) := Lib.hid (by
            unfold PointsS
            rw [if_neg h64]
            exact ⟨b, by rw [HS.out.1.len]; exact HMM.out, by rw [HTE.out]; exact hbest, rfl⟩)
          have HCE := Lib.hid (fun (W : World) (hb : Below wr.heap.size wr W) (i : Nat) (hi : i < m) => by
            obtain ⟨_, h2, h3, _, _⟩ := HS.out.1.own.spotG (i := i) (by rw [HS.out.1.len]; exact hi)
            exact (hb.cell (p := ⟨G, i, none⟩) h2).trans h3)
          have HN9 := Lib.hid (fun i => HS.out.2.2.get i)
          have HBL := Lib.hid hBel
          clear hbest hBel HS
          go_wp2
          go_loopw [12, 13] (fun v ii w8 => ∃ i : Nat, 2 ≤ i ∧ (i = 2 ∨ i + 2 ≤ wd.length) ∧ ii = .int .i64 i ∧ Mine .i64 3 w8 wr.heap.size v (ptsN b i) ∧ Below wr.heap.size wr w8) (fun _ ii _ => wd.length - (intOf ii).toNat)
          case atStart => exact ⟨2, by omega, by omega, rfl, by rw [ptsN_two]; exact Mine.nil_ _ _ _ _, Below.refl _ _⟩
          case round =>
            obtain ⟨i, hi2, hin, rfl, hM, hbl⟩ := hrel
            have hB := hbl.size
            have HBW := Lib.hid (below_trans HBL.out hbl HBL.out.size)
            have hpl : (ptsN b i).length ≤ i := by
              unfold ptsN
              rw [List.length_map]
              have := List.length_filter_le (fun i => decide (2 ≤ i) && decide (b.getD (i + 1) 0 % 2 = 1)) (List.range i)
              rwa [List.length_range] at this
            by_cases hle : i + 3 ≤ wd.length
            · have hle' : (i : Int) ≤ (wd.length : Int) - 3 := by omega
              have him : i + 1 < m := by have := HMM.out; omega
              have hcx := HCE.out _ hbl (i + 1) him
              have hx9 := HN9.out (i + 1)
              have HPS := ptsN_succ b hi2
              obtain ⟨X, hX⟩ : ∃ X, b.getD (i + 1) 0 = X := ⟨_, rfl⟩
              rw [hX] at hcx hx9 HPS
              have HPS := Lib.hid HPS
              have htm : X.tmod 2 = X % 2 := Int.tmod_eq_emod_of_nonneg hx9.1
              obtain ⟨R, hR⟩ : ∃ R, X % 2 = R := ⟨_, rfl⟩
              rw [hR] at htm HPS
              have hR2 : 0 ≤ R ∧ R ≤ 1 := by omega
              clear hX hR
              by_cases hr1 : R = 1
              · subst hr1
                rw [if_pos rfl] at HPS
                go_wp2_with (at_builtin; refine wpList_push rfl _ _ 25 rfl Try.underlying25 infoI64 (by omega) _ _ _ (i : Int) _ _ hM rfl rfl hbl hB (by omega) ?_; intro v' w9 hM9 hb9)
                go_roundw
                case rel => exact ⟨i + 1, by omega, by omega, by go_num, by rw [HPS.out]; exact hM9, hb9⟩
                case measure => simp [intOf]; omega
              · have hr0 : R = 0 := by omega
                subst hr0
                rw [if_neg (by decide), List.append_nil] at HPS
                go_wp2
                go_roundw
                case rel => exact ⟨i + 1, by omega, by omega, by go_num, by rw [HPS.out]; exact hM, hbl⟩
                case measure => simp [intOf]; omega
            · have hle' : ¬ (i : Int) ≤ (wd.length : Int) - 3 := by omega
              have HE : Hid (ptsN b i = pts wd.length b) := Lib.hid (by
                rw [pts_is]
                rcases hin with rfl | h2
                · rw [ptsN_two, ptsN_small b (by omega)]
                · rw [show wd.length - 2 = i by omega])
              go_wp2
              go_ret
              refine ⟨_, ⟨_, rfl, ?_⟩, HPT.out⟩
              rw [← HE.out]
              exact hM.give HBL.out hbl
end Go.Proofs.Ytekjejbcdnghjaa
