/-
  The program's Needs of layer 23, and the code points of a cluster that need a glyph. Condition: at most 1000000 code points.
-/
import Derived.Test.YtnpcakeagpbgiaaGreatZFbm
import Derived.Test.YtnpcakeagpbgiaaGreatZOf
import Derived.Test.YtnpcakeagpbgiaaGreatZOwn
import Derived.Test.YtnpcakeagpbgiaaGreatZFbp
import Derived.Test.YtnpcakeagpbgiaaGreatFyd
import Derived.Test.YtnpcakeagpbgiaaGreatFze
import Derived.Test.YtnpcakeagpbgiaaGreatMpb
import Derived.StillTailTactics
set_option linter.unusedVariables false
set_option linter.unusedSimpArgs false
namespace Go.Proofs.YtnpcakeagpbgiaaGreat
open Go.ChangeShapes Go.WideShapes Go.ChangeAt Go.RowKit Go.Sort

theorem tab_bidi : tab.all (fun x => decide (x.p.bidi ≤ 23)) = true := by kernel_rfl
theorem bidi_le (r : Int) : (ofP r).bidi ≤ 23 := by
  have h : (findP r).p.bidi ≤ 23 := by
    rcases findP_in r with h | ⟨h, _⟩
    · rw [h]; decide
    · have := List.all_eq_true.1 tab_bidi _ h
      simpa using this
  by_cases hh : 44032 ≤ r ∧ r ≤ 55203 ∧ (r - 44032) % 28 = 0
  · rw [ofP_yes r hh]; exact h
  · rw [ofP_no r hh]; exact h
set_option maxHeartbeats 2000000 in
theorem pneeds_ok (r : Int) (w : World) : Calls Tryz.prog 49 #[.int .i32 r] w fun e w' => e = .returned (.bool (needsB r)) ∧ Up w w' := by
  have HO := Lib.hid (fun W => of_ok r W)
  have HV : Hid (needsB r = (!((ofP r).cl == 1 || (ofP r).cl == 2 || (ofP r).cl == 3 || (ofP r).cl == 5) && ((ofP r).bidi != 10 && decide ((ofP r).bidi < 15)))) := Lib.hid rfl
  have hle := bidi_le r
  generalize needsB r = V at *
  generalize ofP r = p at *
  obtain ⟨bidi, cl, br, sc, jn, wd, mi, pa, op⟩ := p
  simp only [Pr.v] at HO HV hle
  by_cases h1 : cl = 1 ∨ cl = 2 ∨ cl = 3 ∨ cl = 5
  · have HE : Hid (V = false) := Lib.hid (by rw [HV.out]; rcases h1 with h | h | h | h <;> subst h <;> simp)
    clear HV
    rcases h1 with rfl | rfl | rfl | rfl
    all_goals
      go_enter Tryz.func49, Tryz.ntmps49
      go_wp2_with (go_at_call 64; (refine (HO.out _).mono ?_); rintro e w' ⟨rfl, hu⟩)
      go_ret
      exact ⟨by rw [HE.out]; rfl, hu.alloc _⟩
  · have e1 : (cl == 1) = false := by simp; omega
    have e2 : (cl == 2) = false := by simp; omega
    have e3 : (cl == 3) = false := by simp; omega
    have e5 : (cl == 5) = false := by simp; omega
    rw [e1, e2, e3, e5] at HV
    have h23 : ¬ 23 < bidi := by omega
    have hd23 : decide (23 < bidi) = false := decide_eq_false h23
    clear h1 hle
    go_enter Tryz.func49, Tryz.ntmps49
    go_wp2_with (go_at_call 64; (refine (HO.out _).mono ?_); rintro e w' ⟨rfl, hu⟩)
    all_goals
      go_ret
      exact ⟨by rw [HV.out]; simp_all, hu.alloc _⟩
end Go.Proofs.YtnpcakeagpbgiaaGreat

/-
  What the program of layer 23 keeps of some fonts for a text: a slice of maps, one a font, that tell which of the text's code points the font has. Condition: at most 1000000 fonts, mappings, code points.
-/
set_option linter.unusedVariables false
set_option linter.unusedSimpArgs false
namespace Go.Proofs.YtnpcakeagpbgiaaGreat
open Go.ChangeShapes Go.WideShapes Go.ChangeAt Go.RowKit Go.Sort

/-- an element that is a map -/
def LMp : Lay (Option Nat) := ⟨fun x => [.map x], 1, fun _ => rfl, fun x u hu => by simp at hu; subst hu; rfl⟩
abbrev MineB (w : World) (B : Nat) (v : Value) (l : List (Option Nat)) : Prop := MineN LMp 62 w B v l
theorem fullB : (Tryz.prog.info? 62).map (fun i => (i.zero, i.size, i.bytes)) = some (some (.map none), 1, 8) := by kernel_rfl
theorem zeroB (w : World) : (zeroValue 4).run Tryz.prog w = .ok (.bool false) w := by kernel_rfl
theorem run_mkB (n : Nat) (hn : n ≤ 1000000) (W : World) : (Instr.makeSlice 47 (.int .i64 (n : Int)) (.int .i64 (n : Int))).run Tryz.prog W = .ok (.slice (some ⟨W.heap.size, 0, none⟩) n n) (W.alloc (.cells (madeCells #[Value.map none] n) 62)) := by
  obtain ⟨i, hi, hzz⟩ := Option.map_eq_some_iff.1 fullB
  simp only [Prod.mk.injEq] at hzz
  obtain ⟨hz, hs, hb⟩ := hzz
  have := run_make (P := Tryz.prog) W 47 62 i (.map none) Tryz.underlying47 hi hz .i64 .i64 (n : Int) (n : Int) (by omega) (by omega) (by rw [hb]; omega) (by omega)
  rw [this, hs, Nat.mul_one]
  rfl
theorem mineB_mk {w : World} {n : Nat} (hn : n ≤ 1000000) : MineB (w.alloc (.cells (madeCells #[Value.map none] n) 62)) w.heap.size (.slice (some ⟨w.heap.size, 0, none⟩) n n) (List.replicate n none) := by
  have e : (madeCells #[Value.map none] n).toList = cellsN LMp (List.replicate n none) := by
    have e2 : cellsN LMp (List.replicate n none) = List.replicate n (Value.map none) := by
      induction n with
      | zero => rfl
      | succ n ih => rw [List.replicate_succ, cellsN_cons, ih (by omega)]; rfl
    rw [e2]
    unfold madeCells
    apply List.ext_getElem?
    intro i
    simp
    rcases Nat.lt_or_ge i n with h | h
    · simp [h, Nat.mod_one]
    · simp [Nat.not_lt.2 h]
  refine ⟨length_cellsN _, .inr ⟨w.heap.size, n, _, by simp, Nat.le_refl _, heap_alloc_new w _, by simp, by unfold maxLen; omega, ?_, ?_⟩⟩
  · show _ = n * 1
    rw [← Array.length_toList, e, length_cellsN, List.length_replicate]
    rfl
  · rw [e, List.length_replicate, List.take_of_length_le (by rw [length_cellsN]; simp)]
/-- has the font of the mappings M a code point of the text? -/
def hadB (M : List mapS.Dat) (r : Int) : Bool := gF M r != 0
/-- the block g holds, font by font, a map that tells which of the code points T the font has -/
structure Stk (w : World) (g n : Nat) (F : List (List mapS.Dat)) (T : List Int) : Prop where
  len : n = F.length
  lt : g < w.heap.size
  maps : ∀ (i : Nat) (hi : i < F.length), ∃ b k f, b < w.heap.size ∧ w.cell? ⟨g, i, none⟩ = some (.map (some b)) ∧ MapB Tryz.prog 21 .i32 w b k f ∧ ∀ r ∈ T, f r = hadB F[i] r
theorem Stk.carry {w w' : World} {g n : Nat} {F : List (List mapS.Dat)} {T : List Int} (h : Stk w g n F T) (hb : Below w.heap.size w w') : Stk w' g n F T := by
  refine ⟨h.len, Nat.lt_of_lt_of_le h.lt hb.size, fun i hi => ?_⟩
  obtain ⟨b, k, f, h1, h2, h3, h4⟩ := h.maps i hi
  exact ⟨b, k, f, Nat.lt_of_lt_of_le h1 hb.size, (hb.cell (p := ⟨g, i, none⟩) h.lt).trans h2, h3.below hb h1, h4⟩
/-- the first i fonts told -/
structure StkI (w : World) (g n : Nat) (F : List (List mapS.Dat)) (T : List Int) (l : List (Option Nat)) (i : Nat) : Prop where
  len : l.length = n
  maps : ∀ (j : Nat) (hj : j < F.length), j < i → ∃ b k f, l[j]? = some (some b) ∧ MapB Tryz.prog 21 .i32 w b k f ∧ (b ≠ g) ∧ ∀ r ∈ T, f r = hadB F[j] r
/-- what the first k glyphs tell -/
def toldB (G : Int → Int) (cs : List Int) (k : Nat) (r : Int) : Bool := (cs.take k).any (fun x => x == r && G x != 0)
theorem toldB_zero (G : Int → Int) (cs : List Int) (r : Int) : toldB G cs 0 r = false := by simp [toldB]
theorem toldB_succ (G : Int → Int) (cs : List Int) (k : Nat) (hk : k < cs.length) (r : Int) : toldB G cs (k + 1) r = (toldB G cs k r || (cs[k] == r && G cs[k] != 0)) := by
  unfold toldB
  rw [List.take_add_one, List.getElem?_eq_getElem hk, List.any_append]
  simp
theorem toldB_end (G : Int → Int) (cs : List Int) (r : Int) (hr : r ∈ cs) : toldB G cs cs.length r = (G r != 0) := by
  unfold toldB
  rw [List.take_length]
  cases hg : (G r != 0)
  · rw [List.any_eq_false]
    intro x hx h
    simp only [Bool.and_eq_true, beq_iff_eq] at h
    rw [h.1] at h
    rw [h.2] at hg
    cases hg
  · rw [List.any_eq_true]
    exact ⟨r, hr, by simp [hg]⟩
theorem wf32 {t : List Int} (h : ∀ z ∈ t, (Lit.int .i32 z).wf = true) {k : Nat} (hk : k < t.length) : (Lit.int .i32 t[k]).wf = true := h _ (List.getElem_mem hk)
end Go.Proofs.YtnpcakeagpbgiaaGreat
