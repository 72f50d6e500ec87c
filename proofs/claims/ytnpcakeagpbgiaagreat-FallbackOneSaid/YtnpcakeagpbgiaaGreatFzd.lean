/-
  DERIVED: THE SHELF's CONTRACTS AT THIS DUMP, IN PLAIN WORDS (tools/lay-plain.mjs out of 'TryShelf.lean', which tools/lay-shelf.mjs wrote): THE SAME DECLARATIONS UNDER THE SAME NAMES: 'import', 'namespace', 'open', 'def', 'theorem' AND NOTHING ELSE: no command of the shelf's: FOR A HAND-IN. Each laying: the table of numbers ('.._ren') and one theorem, a field a fact of the dump's own or the kernel's comparison; each contract: ONE APPLICATION.
-/
import Derived.Shelf.Small.Bits
import Derived.Test.YtnpcakeagpbgiaaGreatProg
import Derived.Test.YtnpcakeagpbgiaaGreatFzc
import Derived.Sort.Walk7a
import Derived.Sort.WalkA14
import Derived.Laws.Bits64b
import Derived.Deep.CutBlock
import Derived.Deep.DeepCutAuto
import Derived.Deep.LoopGhost
namespace Go.Proofs
open Go.Shelf
def Tryz.lays125_ren : Go.Shelf.Ren := ⟨fun | 125 => 69 | 128 => 98 | 129 => 99 | n => n, fun | 46 => 97 | 3 => 3 | 51 => 120 | 53 => 122 | 4 => 4 | 5 => 5 | 9 => 9 | n => n, fun | n => n⟩
theorem Tryz.lays125 : Go.Proofs.Lays.n125 Tryz.prog Tryz.lays125_ren := {
  mixed := by kernel_rfl
  f125 := Tryz.func69.trans (congrArg some (by kernel_rfl))
  f128 := Tryz.func98.trans (congrArg some (by kernel_rfl))
  f129 := Tryz.func99.trans (congrArg some (by kernel_rfl))
  t3 := Tryz.underlying3
  a3 := Tryz.isAgg3
  z3 := Tryz.sizeOf3
  v3 := Tryz.zeroValue3
  t4 := Tryz.underlying4
  a4 := Tryz.isAgg4
  z4 := Tryz.sizeOf4
  v4 := Tryz.zeroValue4
  t5 := Tryz.underlying5
  a5 := Tryz.isAgg5
  z5 := Tryz.sizeOf5
  v5 := Tryz.zeroValue5
  t9 := Tryz.underlying9
  a9 := Tryz.isAgg9
  z9 := Tryz.sizeOf9
  v9 := Tryz.zeroValue9
  t46 := Tryz.underlying97
  a46 := Tryz.isAgg97
  z46 := Tryz.sizeOf97
  v46 := Tryz.zeroValue97
  t51 := Tryz.underlying120
  a51 := Tryz.isAgg120
  z51 := Tryz.sizeOf120
  v51 := Tryz.zeroValue120
  t53 := Tryz.underlying122
  a53 := Tryz.isAgg122
  z53 := Tryz.sizeOf122
  v53 := Tryz.zeroValue122 }
/-- bits.Len: it returns the number of bits; the world is as it was -/
theorem Tryz.bits_Len (x : Int) (w : World) (h0 : 0 ≤ x) (h1 : x ≤ 18446744073709551615) :
    Calls Tryz.prog 69 #[.int .u64 x] w fun e w' => e = .returned (.int .i64 (Lib.bitLen x.toNat)) ∧ w' = w := Any.bits_Len Tryz.lays125 x w h0 h1
end Go.Proofs

/-
  What the library's sort shuffles with: a power of two, a row of numbers, breakPatterns at code points in a slice of the call's own (it leaves the elements that there were). Condition: at most 1000000 elements.
-/
set_option linter.unusedVariables false
set_option linter.unusedSimpArgs false
namespace Go.Proofs.YtnpcakeagpbgiaaGreat
open Go.ChangeShapes Go.WideShapes Go.ChangeAt Go.RowKit Go.Sort

theorem nextPow_ok (L : Nat) (h0 : 0 < L) (hL : L ≤ 1000000) (w : World) : Calls Tryz.prog 119 #[.int .i64 L] w fun e w' => ∃ M : Nat, e = .returned (.int .u64 M) ∧ (1 ≤ M ∧ M ≤ 2 * L) ∧ w = w' := by
  obtain ⟨k, hk⟩ : ∃ k, bitsLen L = k := ⟨_, rfl⟩
  have hLen := Lib.hid (fun W => Tryz.bits_Len (L : Int) W (by omega) (by omega))
  rw [Int.toNat_natCast, bitLen_eq _ (by omega), hk] at hLen
  have hk1 : k ≤ 62 := by rw [← hk]; exact (bitsLen_le_iff L 62).2 (by omega)
  have hpow := wrap_two_pow k hk1
  have hM1 : 1 ≤ 1 <<< k := by rw [Nat.one_shiftLeft]; exact Nat.two_pow_pos _
  have hM2 : 1 <<< k ≤ 2 * L := by rw [Nat.one_shiftLeft, ← hk]; exact two_pow_bitsLen_le h0
  obtain ⟨M, hM⟩ : ∃ M, 1 <<< k = M := ⟨_, rfl⟩
  rw [hM] at hpow hM1 hM2
  have hLw : IntKind.u64.wrap (L : Int) = (L : Int) := by simp [IntKind.wrap, IntKind.bits, IntKind.signed]; omega
  clear hk hM
  go_enter Tryz.func119, Tryz.ntmps119
  go_wp2_with (go_at_call 69; (refine (hLen.out _).mono ?_); rintro e u ⟨rfl, rfl⟩)
  go_ret
  exact ⟨M, rfl, ⟨hM1, hM2⟩, rfl⟩
theorem xor_some (a b : Nat) (ha : a < 18446744073709551616) (hb : b < 18446744073709551616) : ∃ c : Nat, c < 18446744073709551616 ∧ bits .xor .u64 (a : Int) (b : Int) = (c : Int) :=
  ⟨a ^^^ b, Nat.xor_lt_two_pow (n := 64) ha hb, bits_xor_u64_nat a b ha hb⟩
theorem and_some (a b : Nat) (ha : a < 18446744073709551616) (hb : b < 18446744073709551616) : ∃ c : Nat, c ≤ b ∧ bits .and .u64 (a : Int) (b : Int) = (c : Int) :=
  ⟨a &&& b, Nat.and_le_right, bits_and_u64_nat a b ha hb⟩
set_option maxRecDepth 20000 in
set_option maxHeartbeats 4000000 in
theorem nextX_ok (gr X : Nat) (hX : X < 18446744073709551616) (w : World) (hc : w.cell? ⟨gr, 0, none⟩ = some (.int .u64 X)) (hf : w.frozen? ⟨gr, 0, none⟩ = false) :
    Calls Tryz.prog 120 #[.pointer (some ⟨gr, 0, none⟩)] w fun e w' => ∃ Z : Nat, e = .returned (.int .u64 Z) ∧ Z < 18446744073709551616 ∧ w' = (w.setCell ⟨gr, 0, none⟩ (.int .u64 Z)).drewN 3 := by
  obtain ⟨A, hA, e1⟩ := xor_some X (X * 8192 % 18446744073709551616) hX (by omega)
  obtain ⟨C, hC, e2⟩ := xor_some A (A / 128) hA (by omega)
  obtain ⟨D, hD, e3⟩ := xor_some C (C * 131072 % 18446744073709551616) hC (by omega)
  have f1 : IntKind.u64.wrap ((X : Int) * 8192) = ((X * 8192 % 18446744073709551616 : Nat) : Int) := by rw [IntKind.wrap_u64]; omega
  have f2 : (A : Int) / 128 = ((A / 128 : Nat) : Int) := by omega
  have f3 : IntKind.u64.wrap ((C : Int) * 131072) = ((C * 131072 % 18446744073709551616 : Nat) : Int) := by rw [IntKind.wrap_u64]; omega
  rw [← f1] at e1
  rw [← f2] at e2
  rw [← f3] at e3
  clear f1 f2 f3
  have hss : ∀ v v', (w.setCell ⟨gr, 0, none⟩ v).setCell ⟨gr, 0, none⟩ v' = w.setCell ⟨gr, 0, none⟩ v' := setCell_setCell w gr 0
  go_enter Tryz.func120, Tryz.ntmps120
  go_wp2
  go_region
  all_goals go_wp2
  all_goals go_region
  all_goals go_wp2
  all_goals go_region
  all_goals go_wp2
  go_ret
  exact ⟨D, rfl, hD, rfl⟩

theorem at_free {w : World} {g j : Nat} {t : TypeId} {cs : Array Value} (h : At w g t cs) : w.frozen? ⟨g, j, none⟩ = false := by
  unfold At at h
  simp [World.frozen?, h]
theorem box_cell {w : World} {g i gr : Nat} {v : Value} (hne : gr ≠ g) (hc : w.cell? ⟨gr, 0, none⟩ = some v) (u : Value) : (w.setCell ⟨g, i, none⟩ u).cell? ⟨gr, 0, none⟩ = some v := by
  rw [← hc]
  exact World.cell?_of_block (a := ⟨gr, 0, none⟩) (Below.heap_setCell _ _ _ _ hne)
theorem box_free {w : World} {g i gr : Nat} (hne : gr ≠ g) (hf : w.frozen? ⟨gr, 0, none⟩ = false) (u : Value) : (w.setCell ⟨g, i, none⟩ u).frozen? ⟨gr, 0, none⟩ = false := by
  simp only [World.frozen?] at hf ⊢
  rw [Below.heap_setCell _ _ _ _ hne]
  exact hf
set_option maxRecDepth 20000 in
set_option maxHeartbeats 4000000 in
theorem break_ok (D : List Int) (w0 : World) (B g n c a b : Nat) (w : World) (h : PS D w0 B g n c w) (hmax : n ≤ 1000000) (hab : a + 8 ≤ b) (hb : b ≤ n) :
    Calls Tryz.prog 91 #[.slice (some ⟨g, 0, none⟩) n c, .int .i64 a, .int .i64 b] w fun e w' => e = .returned (.tuple #[]) ∧ PS D w0 B g n c w' := by
  obtain ⟨m, hm⟩ : ∃ m, b - a = m := ⟨_, rfl⟩
  have hmI : (b : Int) - (a : Int) = (m : Int) := by omega
  have hm8 : 8 ≤ m := by omega
  have ham : a + m ≤ n := by omega
  obtain ⟨d, hd⟩ : ∃ d, a + m / 4 * 2 = d := ⟨_, rfl⟩
  have hdI : (a : Int) + (m : Int) / 4 * 2 = (d : Int) := by omega
  have hd1 : a + 4 ≤ d := by omega
  have hd2 : d + 4 ≤ a + m := by omega
  obtain ⟨d1, hd3⟩ : ∃ d1, d - 1 = d1 := ⟨_, rfl⟩
  have hd1I : (d : Int) - 1 = (d1 : Int) := by omega
  obtain ⟨d2, hd4⟩ : ∃ d2, d + 1 = d2 := ⟨_, rfl⟩
  have hd2I : (d : Int) + 1 = (d2 : Int) := by omega
  have HD := Lib.hid (And.intro hd3 hd4)
  have HNP := Lib.hid (fun W => nextPow_ok m (by omega) (by omega) W)
  have hmw : IntKind.u64.wrap (m : Int) = (m : Int) := by simp [IntKind.wrap, IntKind.bits, IntKind.signed]; omega
  have HW := Lib.hid h
  have hne : w.heap.size ≠ g := by have := h.lt; omega
  have hle : w0.heap.size ≤ w.heap.size := by obtain ⟨L, _, _, _, ho⟩ := h; exact ho.size
  obtain ⟨gr, hgr⟩ : ∃ gr, w.heap.size = gr := ⟨_, rfl⟩
  clear h hm hd hd3 hd4
  go_enter Tryz.func91, Tryz.ntmps91
  go_wp2_with (go_at_call 119; (refine (HNP.out _).mono ?_); rintro e u ⟨M, rfl, ⟨hM1, hM2⟩, rfl⟩)
  have hup : Up w (w.alloc (.cells #[.int .u64 m] 134)) := (Up.refl _).alloc _
  have HB : Hid (PS D w0 B g n c (w.alloc (.cells #[.int .u64 m] 134)) ∧ (w.alloc (.cells #[.int .u64 m] 134)).cell? ⟨gr, 0, none⟩ = some (.int .u64 m) ∧ (w.alloc (.cells #[.int .u64 m] 134)).frozen? ⟨gr, 0, none⟩ = false) :=
    Lib.hid ⟨HW.out.up hup, by rw [← hgr]; exact (at_new w _ _).cell 0 _ rfl, by rw [← hgr]; exact at_free (at_new w _ _)⟩
  rw [hgr] at hne hle
  generalize w.alloc (.cells #[.int .u64 m] 134) = W1 at *
  clear hup HW hgr HNP
  go_loopw [9] (fun v wr => ∃ i X : Nat, (d1 ≤ i ∧ i ≤ d + 2) ∧ X < 18446744073709551616 ∧ v = .int .i64 i ∧ Hid (PS D w0 B g n c wr ∧ wr.cell? ⟨gr, 0, none⟩ = some (.int .u64 X) ∧ wr.frozen? ⟨gr, 0, none⟩ = false)) (fun v _ => d + 2 - (intOf v).toNat)
  case atStart => exact ⟨d1, m, by have := HD.out; omega, by omega, rfl, HB⟩
  case round =>
    clear HB
    obtain ⟨i, X, ⟨hi1, hi2⟩, hX, rfl, HM⟩ := hrel
    by_cases hlt : i ≤ d2
    · have hin : i < n := by have := HD.out; omega
      obtain ⟨M1, hM3⟩ : ∃ M1, M - 1 = M1 := ⟨_, rfl⟩
      have hM1I : (M : Int) - 1 = (M1 : Int) := by omega
      have HNX := Lib.hid (nextX_ok gr X hX wr HM.out.2.1 HM.out.2.2)
      have HP := Lib.hid (fun (v : Value) => ((HM.out.1.other (p := ⟨gr, 0, none⟩) hle hne v).drewN 3))
      have HF := Lib.hid (fun (v : Value) => (show ((wr.setCell ⟨gr, 0, none⟩ v).drewN 3).cell? ⟨gr, 0, none⟩ = some v from by rw [World.cell?_drewN]; exact World.cell?_setCell_same _ _ _ HM.out.2.1))
      have HG := Lib.hid (fun (v : Value) => (show ((wr.setCell ⟨gr, 0, none⟩ v).drewN 3).frozen? ⟨gr, 0, none⟩ = false from by rw [World.frozen?_drewN]; simpa using HM.out.2.2))
      have HMM := Lib.hid hM3
      have hM1m : M1 + 1 ≤ 2 * m := by omega
      clear HM hM3
      go_wp2_with (go_at_call 120; (with_reducible refine HNX.out.mono ?_); rintro e u ⟨Z, rfl, hZl, rfl⟩; (obtain ⟨O, hO, eO⟩ := and_some Z M1 hZl (by omega)))
      · obtain ⟨o, ho⟩ : ∃ o, O - m = o := ⟨_, rfl⟩
        have hoI : (O : Int) - (m : Int) = (o : Int) := by omega
        obtain ⟨q, hq⟩ : ∃ q, a + o = q := ⟨_, rfl⟩
        have hqI : (a : Int) + (o : Int) = (q : Int) := by omega
        have hqn : q < n := by omega
        have how : IntKind.i64.wrap (o : Int) = (o : Int) := IntWalk.i64_in _ (by omega)
        have hqw : IntKind.i64.wrap (q : Int) = (q : Int) := IntWalk.i64_in _ (by omega)
        clear ho
        have hP := HP.out (.int .u64 Z)
        have hcz := HF.out (.int .u64 Z)
        have hfz := HG.out (.int .u64 Z)
        generalize (wr.setCell ⟨gr, 0, none⟩ (.int .u64 Z)).drewN 3 = u at *
        obtain ⟨x, y, ⟨c1, c2⟩, ⟨f1, f2⟩, ⟨c3, f3⟩, hZ⟩ := hP.exch hin hqn
        have HZ : Hid (PS D w0 B g n c ((u.setCell ⟨g, i, none⟩ (.int .i32 y)).setCell ⟨g, q, none⟩ (.int .i32 x)).drew ∧ ((u.setCell ⟨g, i, none⟩ (.int .i32 y)).setCell ⟨g, q, none⟩ (.int .i32 x)).drew.cell? ⟨gr, 0, none⟩ = some (.int .u64 Z) ∧ ((u.setCell ⟨g, i, none⟩ (.int .i32 y)).setCell ⟨g, q, none⟩ (.int .i32 x)).drew.frozen? ⟨gr, 0, none⟩ = false) := Lib.hid ⟨hZ, box_cell hne (box_cell hne hcz _) _, box_free hne (box_free hne hfz _) _⟩
        by_cases hiq : i = q
        · subst hiq
          obtain rfl : x = y := by
            rw [c1] at c2
            injection c2 with c2
            injection c2 with _ c2
          clear hP hZ hq hcz hfz
          go_wp2_with fail
          go_region
          go_wp2
          go_roundw
          case rel => exact ⟨i + 1, Z, by have := HD.out; omega, hZl, by go_num, HZ⟩
          case measure => simp [intOf] <;> omega
        · clear hP hZ hq hcz hfz
          go_wp2_with fail
          go_region
          go_wp2
          go_roundw
          case rel => exact ⟨i + 1, Z, by have := HD.out; omega, hZl, by go_num, HZ⟩
          case measure => simp [intOf] <;> omega
      · obtain ⟨q, hq⟩ : ∃ q, a + O = q := ⟨_, rfl⟩
        have hqI : (a : Int) + (O : Int) = (q : Int) := by omega
        have hqn : q < n := by omega
        have hqw : IntKind.i64.wrap (q : Int) = (q : Int) := IntWalk.i64_in _ (by omega)
        have hP := HP.out (.int .u64 Z)
        have hcz := HF.out (.int .u64 Z)
        have hfz := HG.out (.int .u64 Z)
        generalize (wr.setCell ⟨gr, 0, none⟩ (.int .u64 Z)).drewN 3 = u at *
        obtain ⟨x, y, ⟨c1, c2⟩, ⟨f1, f2⟩, ⟨c3, f3⟩, hZ⟩ := hP.exch hin hqn
        have HZ : Hid (PS D w0 B g n c ((u.setCell ⟨g, i, none⟩ (.int .i32 y)).setCell ⟨g, q, none⟩ (.int .i32 x)).drew ∧ ((u.setCell ⟨g, i, none⟩ (.int .i32 y)).setCell ⟨g, q, none⟩ (.int .i32 x)).drew.cell? ⟨gr, 0, none⟩ = some (.int .u64 Z) ∧ ((u.setCell ⟨g, i, none⟩ (.int .i32 y)).setCell ⟨g, q, none⟩ (.int .i32 x)).drew.frozen? ⟨gr, 0, none⟩ = false) := Lib.hid ⟨hZ, box_cell hne (box_cell hne hcz _) _, box_free hne (box_free hne hfz _) _⟩
        by_cases hiq : i = q
        · subst hiq
          obtain rfl : x = y := by
            rw [c1] at c2
            injection c2 with c2
            injection c2 with _ c2
          clear hP hZ hq hcz hfz
          go_wp2_with fail
          go_region
          go_wp2
          go_roundw
          case rel => exact ⟨i + 1, Z, by have := HD.out; omega, hZl, by go_num, HZ⟩
          case measure => simp [intOf] <;> omega
        · clear hP hZ hq hcz hfz
          go_wp2_with fail
          go_region
          go_wp2
          go_roundw
          case rel => exact ⟨i + 1, Z, by have := HD.out; omega, hZl, by go_num, HZ⟩
          case measure => simp [intOf] <;> omega
    · go_wp2
      go_end0
      exact ⟨rfl, HM.out.1⟩
end Go.Proofs.YtnpcakeagpbgiaaGreat

/-
  The library's choice of a pivot at code points in a slice of the call's own: a place of the stretch. Condition: at most 1000000 elements.
-/
set_option linter.unusedVariables false
set_option linter.unusedSimpArgs false
namespace Go.Proofs.YtnpcakeagpbgiaaGreat
open Go.ChangeShapes Go.WideShapes Go.ChangeAt Go.RowKit Go.Sort

/-- beside the elements a number in a block of its own: how often places were exchanged, at most z -/
def PN (D : List Int) (w0 : World) (B g n c gs z : Nat) (W : World) : Prop := PS D w0 B g n c W ∧ (gs ≠ g ∧ w0.heap.size ≤ gs) ∧ (∃ k : Nat, k ≤ z ∧ W.cell? ⟨gs, 0, none⟩ = some (.int .i64 k)) ∧ W.frozen? ⟨gs, 0, none⟩ = false
theorem PN.drew {D : List Int} {w0 : World} {B g n c gs z : Nat} {W : World} (h : PN D w0 B g n c gs z W) : PN D w0 B g n c gs z W.drew := ⟨h.1.drew, h.2⟩
theorem PN.mono {D : List Int} {w0 : World} {B g n c gs z z' : Nat} {W : World} (h : PN D w0 B g n c gs z W) (hz : z ≤ z') : PN D w0 B g n c gs z' W := by
  obtain ⟨h1, h2, ⟨k, h3, h4⟩, h5⟩ := h
  exact ⟨h1, h2, ⟨k, by omega, h4⟩, h5⟩
set_option maxRecDepth 20000 in
set_option maxHeartbeats 4000000 in
theorem order2_ok (D : List Int) (w0 : World) (B g n c gs z a b : Nat) (w : World) (h : PN D w0 B g n c gs z w) (hmax : n ≤ 1000000) (hz : z ≤ 1000) (ha : a < n) (hb : b < n) :
    Calls Tryz.prog 149 #[.slice (some ⟨g, 0, none⟩) n c, .int .i64 a, .int .i64 b, .pointer (some ⟨gs, 0, none⟩)] w fun e w' => ∃ p q : Nat, e = .returned (.tuple #[.int .i64 p, .int .i64 q]) ∧ ((p = a ∧ q = b) ∨ (p = b ∧ q = a)) ∧ PN D w0 B g n c gs (z + 1) w' := by
  have H := Lib.hid h
  have HLe := Lib.hid (fun x y W => less_ok x y W)
  obtain ⟨x, c1⟩ := h.1.cell hb
  obtain ⟨y, c2⟩ := h.1.cell ha
  have HC := Lib.hid (HLe.out x y)
  have hP := h.drew
  clear h
  go_enter Tryz.func149, Tryz.ntmps149
  go_wp2
  go_region_held3 (fun W => W.cell? ⟨g, b, none⟩ = some (.int .i32 x) ∧ W.cell? ⟨g, a, none⟩ = some (.int .i32 y))
    (exact ⟨by assumption, by assumption⟩) ((go_at_call 95; refine (HC.out _).mono ?_; rintro e u ⟨⟨t, rfl⟩, rfl⟩))
  clear c1 c2 HC
  generalize w.drew = w1 at *
  have HP := Lib.hid hP
  obtain ⟨hp1, ⟨hp2, hp3⟩, ⟨k, hk, hc⟩, hf⟩ := hP
  have HZ : Hid (PN D w0 B g n c gs (z + 1) (w1.setCell ⟨gs, 0, none⟩ (.int .i64 ((k : Int) + 1)))) := Lib.hid ⟨hp1.other (p := ⟨gs, 0, none⟩) hp3 hp2 _, ⟨hp2, hp3⟩, ⟨k + 1, by omega, World.cell?_setCell_same _ _ _ hc⟩, by simpa using hf⟩
  clear hp1 hp2 hp3
  go_wp2
  · exact bodyPost_ret (results_tmp2 rfl _ _ _) rfl ⟨b, a, rfl, .inr ⟨rfl, rfl⟩, HZ.out⟩
  · exact bodyPost_ret (results_tmp2 rfl _ _ _) rfl ⟨a, b, rfl, .inl ⟨rfl, rfl⟩, HP.out.mono (by omega)⟩
set_option maxRecDepth 20000 in
set_option maxHeartbeats 4000000 in
theorem median_ok (D : List Int) (w0 : World) (B g n c gs z a b d lo hi : Nat) (w : World) (h : PN D w0 B g n c gs z w) (hmax : n ≤ 1000000) (hz : z ≤ 900) (ha : lo ≤ a ∧ a < hi) (hb : lo ≤ b ∧ b < hi) (hd : lo ≤ d ∧ d < hi) (hn : hi ≤ n) :
    Calls Tryz.prog 122 #[.slice (some ⟨g, 0, none⟩) n c, .int .i64 a, .int .i64 b, .int .i64 d, .pointer (some ⟨gs, 0, none⟩)] w fun e w' => ∃ p : Nat, e = .returned (.int .i64 p) ∧ (lo ≤ p ∧ p < hi) ∧ PN D w0 B g n c gs (z + 3) w' := by
  have H1 := Lib.hid (order2_ok D w0 B g n c gs z a b w h hmax (by omega) (by omega) (by omega))
  have H2 := Lib.hid (fun (p q : Nat) (W : World) (h : PN D w0 B g n c gs (z + 1) W) (h1 : p < n) (h2 : q < n) => order2_ok D w0 B g n c gs (z + 1) p q W h hmax (by omega) h1 h2)
  have H3 := Lib.hid (fun (p q : Nat) (W : World) (h : PN D w0 B g n c gs (z + 2) W) (h1 : p < n) (h2 : q < n) => order2_ok D w0 B g n c gs (z + 2) p q W h hmax (by omega) h1 h2)
  have HB := Lib.hid (And.intro ha (And.intro hb (And.intro hd hn)))
  clear h ha hb hd
  go_enter Tryz.func122, Tryz.ntmps122
  go_wp2_with (first
    | (go_at_call 149; (with_reducible refine H1.out.mono ?_); rintro e u1 ⟨p1, q1, rfl, hpq1, hN1⟩; clear H1)
    | (go_at_call 149; (with_reducible refine (H2.out _ _ _ hN1 (by have := HB.out; omega) (by have := HB.out; omega)).mono ?_); rintro e u2 ⟨p2, q2, rfl, hpq2, hN2⟩; clear H2)
    | (go_at_call 149; (with_reducible refine (H3.out _ _ _ hN2 (by have := HB.out; omega) (by have := HB.out; omega)).mono ?_); rintro e u3 ⟨p3, q3, rfl, hpq3, hN3⟩))
  go_ret
  exact ⟨q3, rfl, by have := HB.out; omega, hN3⟩
theorem medadj_ok (D : List Int) (w0 : World) (B g n c gs z a lo hi : Nat) (w : World) (h : PN D w0 B g n c gs z w) (hmax : n ≤ 1000000) (hz : z ≤ 900) (ha : lo < a ∧ a + 1 < hi) (hn : hi ≤ n) :
    Calls Tryz.prog 121 #[.slice (some ⟨g, 0, none⟩) n c, .int .i64 a, .pointer (some ⟨gs, 0, none⟩)] w fun e w' => ∃ p : Nat, e = .returned (.int .i64 p) ∧ (lo ≤ p ∧ p < hi) ∧ PN D w0 B g n c gs (z + 3) w' := by
  obtain ⟨a1, h1⟩ : ∃ a1, a - 1 = a1 := ⟨_, rfl⟩
  have h1I : (a : Int) - 1 = (a1 : Int) := by omega
  obtain ⟨a2, h2⟩ : ∃ a2, a + 1 = a2 := ⟨_, rfl⟩
  have h2I : (a : Int) + 1 = (a2 : Int) := by omega
  have HC := Lib.hid (median_ok D w0 B g n c gs z a1 a a2 lo hi w h hmax hz (by omega) (by omega) (by omega) hn)
  clear h h1 h2
  go_enter Tryz.func121, Tryz.ntmps121
  go_wp2_with (go_at_call 122; (with_reducible refine HC.out.mono ?_); rintro e u ⟨p, rfl, hp, hN⟩)
  go_ret
  exact ⟨p, rfl, hp, hN⟩
set_option maxRecDepth 20000 in
set_option maxHeartbeats 4000000 in
theorem pivot_ok (D : List Int) (w0 : World) (B g n c a b : Nat) (w : World) (h : PS D w0 B g n c w) (hmax : n ≤ 1000000) (hab : a + 8 ≤ b) (hb : b ≤ n) :
    Calls Tryz.prog 92 #[.slice (some ⟨g, 0, none⟩) n c, .int .i64 a, .int .i64 b] w fun e w' => ∃ (p : Nat) (t : Int), e = .returned (.tuple #[.int .i64 p, .int .i64 t]) ∧ (a ≤ p ∧ p < b) ∧ PS D w0 B g n c w' := by
  obtain ⟨m, hm⟩ : ∃ m, b - a = m := ⟨_, rfl⟩
  have hmI : (b : Int) - (a : Int) = (m : Int) := by omega
  have hm8 : 8 ≤ m := by omega
  obtain ⟨gs, hgs⟩ : ∃ gs, w.heap.size = gs := ⟨_, rfl⟩
  have hup : Up w (w.alloc (.cells #[.int .i64 0] 3)) := (Up.refl _).alloc _
  have H0 : Hid (PN D w0 B g n c gs 0 (w.alloc (.cells #[.int .i64 0] 3))) := Lib.hid ⟨h.up hup, by
    have h1 := h.lt
    obtain ⟨L, _, _, _, ho⟩ := h
    have := ho.size
    omega, ⟨0, Nat.le_refl _, by rw [← hgs]; exact (at_new w _ _).cell 0 _ rfl⟩, by rw [← hgs]; exact at_free (at_new w _ _)⟩
  obtain ⟨i, hi⟩ : ∃ i, a + m / 4 = i := ⟨_, rfl⟩
  have hiI : (a : Int) + (m : Int) / 4 = (i : Int) := by omega
  obtain ⟨j, hj⟩ : ∃ j, a + m / 4 * 2 = j := ⟨_, rfl⟩
  have hjI : (a : Int) + (m : Int) / 4 * 2 = (j : Int) := by omega
  obtain ⟨k, hk⟩ : ∃ k, a + m / 4 * 3 = k := ⟨_, rfl⟩
  have hkI : (a : Int) + (m : Int) / 4 * 3 = (k : Int) := by omega
  have HB : Hid ((a ≤ i ∧ i < b) ∧ (a ≤ j ∧ j < b) ∧ (a ≤ k ∧ k < b) ∧ (50 ≤ m → (a < i ∧ i + 1 < b) ∧ (a < j ∧ j + 1 < b) ∧ (a < k ∧ k + 1 < b))) := Lib.hid (by omega)
  have HMed := Lib.hid (fun (z x y v : Nat) (W : World) (h : PN D w0 B g n c gs z W) (hz : z ≤ 900) (hx : a ≤ x ∧ x < b) (hy : a ≤ y ∧ y < b) (hv : a ≤ v ∧ v < b) => median_ok D w0 B g n c gs z x y v a b W h hmax hz hx hy hv hb)
  have HAdj := Lib.hid (fun (z x : Nat) (W : World) (h : PN D w0 B g n c gs z W) (hz : z ≤ 900) (hx : a < x ∧ x + 1 < b) => medadj_ok D w0 B g n c gs z x a b W h hmax hz hx hb)
  clear h hup hi hj hk hm
  by_cases h50 : 50 ≤ m
  · have HI1 := Lib.hid (HAdj.out 0 i _ H0.out (by omega) (HB.out.2.2.2 h50).1)
    have HI2 := Lib.hid (fun (W : World) (h : PN D w0 B g n c gs 3 W) => HAdj.out 3 j _ h (by omega) (HB.out.2.2.2 h50).2.1)
    have HI3 := Lib.hid (fun (W : World) (h : PN D w0 B g n c gs 6 W) => HAdj.out 6 k _ h (by omega) (HB.out.2.2.2 h50).2.2)
    have HI4 := Lib.hid (fun (x y v : Nat) (W : World) (h : PN D w0 B g n c gs 9 W) (hx : a ≤ x ∧ x < b) (hy : a ≤ y ∧ y < b) (hv : a ≤ v ∧ v < b) => HMed.out 9 x y v _ h (by omega) hx hy hv)
    clear HMed HAdj H0
    go_enter Tryz.func92, Tryz.ntmps92
    go_wp2_with (first
      | (go_at_call 121; (with_reducible refine HI1.out.mono ?_); rintro e u1 ⟨p1, rfl, hp1, hN1⟩; clear HI1)
      | (go_at_call 121; (with_reducible refine (HI2.out _ hN1).mono ?_); rintro e u2 ⟨p2, rfl, hp2, hN2⟩; clear HI2)
      | (go_at_call 121; (with_reducible refine (HI3.out _ hN2).mono ?_); rintro e u3 ⟨p3, rfl, hp3, hN3⟩; clear HI3)
      | (go_at_call 122; (with_reducible refine (HI4.out _ _ _ _ hN3 hp1 hp2 hp3).mono ?_); rintro e u4 ⟨p4, rfl, hp4, hN4⟩; obtain ⟨q1, q2, ⟨k4, hk4, hc4⟩, hf4⟩ := hN4))
    all_goals exact bodyPost_ret (results_tmp2 rfl _ _ _) rfl ⟨p4, _, rfl, hp4, q1⟩
  · have HI4 := Lib.hid (HMed.out 0 i j k _ H0.out (by omega) HB.out.1 HB.out.2.1 HB.out.2.2.1)
    clear HMed HAdj H0
    go_enter Tryz.func92, Tryz.ntmps92
    go_wp2_with (first
      | (go_at_call 122; (with_reducible refine HI4.out.mono ?_); rintro e u4 ⟨p4, rfl, hp4, hN4⟩; obtain ⟨q1, q2, ⟨k4, hk4, hc4⟩, hf4⟩ := hN4))
    all_goals exact bodyPost_ret (results_tmp2 rfl _ _ _) rfl ⟨p4, _, rfl, hp4, q1⟩
end Go.Proofs.YtnpcakeagpbgiaaGreat

/-
  The library's partitionEqual at code points in a slice of the call's own: it leaves the elements that there were. Condition: at most 1000000 elements.
-/
set_option linter.unusedVariables false
set_option linter.unusedSimpArgs false
namespace Go.Proofs.YtnpcakeagpbgiaaGreat
open Go.ChangeShapes Go.WideShapes Go.ChangeAt Go.RowKit Go.Sort

set_option maxRecDepth 20000 in
set_option maxHeartbeats 8000000 in
theorem parteq_ok (D : List Int) (w0 : World) (B g n c a b p : Nat) (w : World) (h : PS D w0 B g n c w) (hmax : n ≤ 1000000) (hap : a ≤ p) (hpb : p < b) (hb : b ≤ n) :
    Calls Tryz.prog 96 #[.slice (some ⟨g, 0, none⟩) n c, .int .i64 a, .int .i64 b, .int .i64 p] w fun e w' => ∃ q : Nat, e = .returned (.int .i64 q) ∧ (a < q ∧ q ≤ b) ∧ PS D w0 B g n c w' := by
  have HLe := Lib.hid (fun x y W => less_ok x y W)
  have han : a < n := by omega
  have hpn : p < n := by omega
  obtain ⟨x, y, ⟨c1, c2⟩, ⟨f1, f2⟩, ⟨c3, f3⟩, hZ⟩ := h.exch han hpn
  have HZ := Lib.hid hZ
  clear hZ h
  go_enter Tryz.func96, Tryz.ntmps96
  go_wp2_with fail
  go_region
  clear c1 c2 f1 f2 c3 f3
  generalize ((w.setCell ⟨g, a, none⟩ (.int .i32 y)).setCell ⟨g, p, none⟩ (.int .i32 x)).drew = w2 at *
  obtain ⟨i0, hi0⟩ : ∃ i0, a + 1 = i0 := ⟨_, rfl⟩
  have hi0I : (a : Int) + 1 = (i0 : Int) := by omega
  obtain ⟨j0, hj0⟩ : ∃ j0, b - 1 = j0 := ⟨_, rfl⟩
  have hj0I : (b : Int) - 1 = (j0 : Int) := by omega
  have HIJ := Lib.hid (And.intro hi0 hj0)
  clear hi0 hj0
  go_wp2_with fail
  go_loopg [9, 10] (n + 2) (fun g0 u v wr => ∃ i j : Nat, (a < i ∧ i ≤ b ∧ a ≤ j ∧ j < b) ∧ j + 2 - i ≤ g0 ∧ u = .int .i64 i ∧ v = .int .i64 j ∧ Hid (PS D w0 B g n c wr))
  case atStart => exact ⟨i0, j0, by have := HIJ.out; omega, by omega, rfl, rfl, HZ⟩
  case round =>
    clear HZ
    obtain ⟨i, j, hb0, hg0, rfl, rfl, HM⟩ := hrel
    go_upto_block 2 with fail
    go_cut [9] (fun u wx => ∃ i1 : Nat, (i ≤ i1 ∧ i1 ≤ b) ∧ u = .int .i64 i1 ∧ Hid (PS D w0 B g n c wx))
    case first =>
      go_wp2_with fail
      go_loopg [9] (n - (i)) (fun g1 u wr => ∃ i1 : Nat, (i ≤ i1 ∧ i1 ≤ b) ∧ n - (i1) ≤ g1 ∧ u = .int .i64 i1 ∧ Hid (PS D w0 B g n c wr))
      case atStart => exact ⟨i, by omega, Nat.le_refl _, rfl, HM⟩
      case round =>
        clear HM
        obtain ⟨i1, hb, hg1, rfl, HM⟩ := hrel
        by_cases hc : i1 ≤ j
        · have h1n : a < n := by omega
          have h2n : i1 < n := by omega
          obtain ⟨x, c1⟩ := HM.out.cell h1n
          obtain ⟨y, c2⟩ := HM.out.cell h2n
          have HC := Lib.hid (HLe.out x y)
          have HP := Lib.hid HM.out.drew
          clear HM
          go_wp2_with fail
          go_region_held3 (fun W => W.cell? ⟨g, a, none⟩ = some (.int .i32 x) ∧ W.cell? ⟨g, i1, none⟩ = some (.int .i32 y))
            (exact ⟨by assumption, by assumption⟩) ((go_at_call 95; refine (HC.out _).mono ?_; rintro e u ⟨⟨t, rfl⟩, rfl⟩))
          clear c1 c2 HC
          generalize wr.drew = w1 at *
          go_wp2_with fail
          · go_roundg (n - (i1 + 1))
            case measure => omega
            case rel => exact ⟨i1 + 1, by omega, Nat.le_refl _, by go_num, HP⟩
          · go_meet
            case rel => exact ⟨i1, by omega, rfl, HP⟩
        · have hd : decide ((i1 : Int) ≤ (j : Int)) = false := decide_eq_false (by omega)
          have HP := Lib.hid HM.out.drew
          clear HM
          go_wp2_with fail
          go_region
          generalize wr.drew = w1 at *
          go_wp2_with fail
          go_meet
          case rel => exact ⟨i1, by omega, rfl, HP⟩
    case rest =>
      clear HM
      obtain ⟨i1, hb9, rfl, HM⟩ := hcut
      go_upto_block 4 with fail
      go_cut [10] (fun u wx => ∃ j1 : Nat, (a ≤ j1 ∧ j1 ≤ j) ∧ u = .int .i64 j1 ∧ Hid (PS D w0 B g n c wx))
      case first =>
        go_wp2_with fail
        go_loopg [10] (j) (fun g1 u wr => ∃ j1 : Nat, (a ≤ j1 ∧ j1 ≤ j) ∧ j1 ≤ g1 ∧ u = .int .i64 j1 ∧ Hid (PS D w0 B g n c wr))
        case atStart => exact ⟨j, by omega, Nat.le_refl _, rfl, HM⟩
        case round =>
          clear HM
          obtain ⟨j1, hb, hg1, rfl, HM⟩ := hrel
          by_cases hc : i1 ≤ j1
          · obtain ⟨j1', hj1'⟩ : ∃ j1', j1 - 1 = j1' := ⟨_, rfl⟩
            have hj1I : (j1 : Int) - 1 = (j1' : Int) := by omega
            have h1n : a < n := by omega
            have h2n : j1 < n := by omega
            obtain ⟨x, c1⟩ := HM.out.cell h1n
            obtain ⟨y, c2⟩ := HM.out.cell h2n
            have HC := Lib.hid (HLe.out x y)
            have HP := Lib.hid HM.out.drew
            clear HM
            go_wp2_with fail
            go_region_held3 (fun W => W.cell? ⟨g, a, none⟩ = some (.int .i32 x) ∧ W.cell? ⟨g, j1, none⟩ = some (.int .i32 y))
              (exact ⟨by assumption, by assumption⟩) ((go_at_call 95; refine (HC.out _).mono ?_; rintro e u ⟨⟨t, rfl⟩, rfl⟩))
            clear c1 c2 HC
            generalize wr.drew = w1 at *
            go_wp2_with fail
            · go_roundg (j1')
              case measure => omega
              case rel => exact ⟨j1', by omega, Nat.le_refl _, by go_num, HP⟩
            · go_meet
              case rel => exact ⟨j1, by omega, rfl, HP⟩
          · have hd : decide ((i1 : Int) ≤ (j1 : Int)) = false := decide_eq_false (by omega)
            have HP := Lib.hid HM.out.drew
            clear HM
            go_wp2_with fail
            go_region
            generalize wr.drew = w1 at *
            go_wp2_with fail
            go_meet
            case rel => exact ⟨j1, by omega, rfl, HP⟩
      case rest =>
        clear HM
        obtain ⟨j1, hb10, rfl, HM⟩ := hcut
        by_cases hij : i1 ≤ j1
        · have h1n : i1 < n := by omega
          have h2n : j1 < n := by omega
          obtain ⟨x, y, ⟨c1, c2⟩, ⟨f1, f2⟩, ⟨c3, f3⟩, hZ⟩ := HM.out.exch h1n h2n
          have HZ := Lib.hid hZ
          clear hZ HM
          go_wp2_with fail
          go_region
          generalize ((wc.setCell ⟨g, i1, none⟩ (.int .i32 y)).setCell ⟨g, j1, none⟩ (.int .i32 x)).drew = w3 at *
          obtain ⟨j2, hj2⟩ : ∃ j2, j1 - 1 = j2 := ⟨_, rfl⟩
          have hj2I : (j1 : Int) - 1 = (j2 : Int) := by omega
          go_wp2_with fail
          go_roundg (j2 + 2 - (i1 + 1))
          case measure => omega
          case rel => exact ⟨i1 + 1, j2, by omega, by omega, by go_num, by go_num, HZ⟩
        · go_wp2_with fail
          go_ret
          exact ⟨i1, rfl, by omega, HM.out⟩
end Go.Proofs.YtnpcakeagpbgiaaGreat
