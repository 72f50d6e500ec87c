/-
  A tree of nodes: the child for a letter, found or made ('grown'); a pattern put in ('add'): what stays, what is new. No condition.
-/
import Derived.Test.YtekjejbcdnghjaaDoorHta
import Derived.Test.YtekjejbcdnghjaaDoorGives
import Derived.WalkSpells
set_option linter.unusedVariables false
set_option linter.unusedSimpArgs false
namespace Go.Proofs.YtekjejbcdnghjaaDoor
open Go.ChangeShapes Go.WideShapes Go.ChangeAt Go.RowKit Go.Sort

def nilS : Value := .slice none 0 0
/-- the root lies in a trie, with the count behind it; all others are nodes -/
def kN (cnt : Int) (p : Path) : TypeId × List Value := if p = [] then (62, [.int .i64 cnt]) else (60, [])
theorem kN_snoc (cnt : Int) (p : Path) (x : Int) : kN cnt (p ++ [x]) = (60, []) := if_neg (List.append_ne_nil_of_right_ne_nil p (List.cons_ne_nil x []))
/-- one letter's child: what is new, and what stays -/
structure GrR (cnt : Int) (B n : Nat) (w w' : World) (P M : Path → Option Nat) (V : Path → Value) (P' M' : Path → Option Nat) (V' : Path → Value) (p : Path) : Prop where
  tri : TrieAt (kN cnt) w' B P' M' V' n
  old : ∀ q b, P q = some b → P' q = some b
  dom : ∀ q b, P' q = some b → P q = some b ∨ (q = p ∧ P q = none ∧ V' q = nilS)
  val : ∀ q b, P q = some b → V' q = V q
  far : ∀ c, c < w.heap.size → (∀ q, P q ≠ some c) → (∀ q, M q ≠ some c) → w'.heap[c]? = w.heap[c]? ∧ (∀ q, P' q ≠ some c) ∧ (∀ q, M' q ≠ some c)
  bel : Below B w w'

section
variable {cnt : Int} {B n : Nat} {w wr w' : World} {P M P' M' P'' M'' : Path → Option Nat} {V V' V'' : Path → Value}
theorem GrR.has (h : TrieAt (kN cnt) w B P M V n) (p : Path) {n' : Nat} (hn : n ≤ n') : GrR cnt B n' w w P M V P M V p :=
  ⟨h.more hn, fun _ _ h => h, fun _ _ h => Or.inl h, fun _ _ _ => rfl, fun _ _ h1 h2 => ⟨rfl, h1, h2⟩, Below.refl B w⟩
/-- a new node at c, put into the map that is there -/
theorem GrR.put {p : Path} {x : Int} {b m c : Nat} (h : TrieAt (kN cnt) w B P M V n) (hp : P p = some b) (hm : M p = some m) (hx : P (p ++ [x]) = none) (hc : At w c 60 #[.map none, nilS]) (hcB : B ≤ c) (hnew : ∀ q, P q ≠ some c)
    (hM : MapP Tryd.prog 21 .i32 w' m (n + 1) (fun y => if y = x then some c else P (p ++ [y]))) (hg : w.grownBy w' (some m)) :
    TrieAt (kN cnt) w' B (atP P (p ++ [x]) (some c)) M (atP V (p ++ [x]) nilS) (n + 1) :=
  h.newKid hp hm hx (by rw [kN_snoc]; exact hc) hcB hnew hM hg
theorem pre_snoc {q l : Path} (hq : q <+: l) {k : Nat} (hk : k < l.length) (hl : q.length = k + 1) : q = l.take k ++ [l[k]] := by
  rw [List.prefix_iff_eq_take] at hq
  rw [hq, hl, List.take_add_one, List.getElem?_eq_getElem hk]; rfl
end

theorem eqmap (m : Option Nat) (w : World) : (binOp .eql 58 (.map m) (.map none)).run Tryd.prog w = .ok (.bool m.isNone) w := run_eql_map_nil (P := Tryd.prog) w _ _ _ m Tryd.underlying58
theorem neslice (A : Option Addr) (n c : Nat) (w : World) : (binOp .neq 23 (.slice A n c) (.slice none 0 0)).run Tryd.prog w = .ok (.bool (!A.isNone)) w := run_neq_slice_nil_any w _ _ A n c 0 0 Tryd.underlying23
set_option maxRecDepth 100000 in
theorem zeroN (w : World) : (zeroValue 97).run Tryd.prog w = .ok (.pointer none) w := by rfl

set_option maxRecDepth 20000 in
set_option maxHeartbeats 4000000 in
theorem grown_ok (cnt : Int) (B n b : Nat) (P M : Path → Option Nat) (V : Path → Value) (p : Path) (X : Int) (w : World) (hx : (Lit.int .i32 X).wf = true) (hn : n ≤ 1000000)
    (hT : TrieAt (kN cnt) w B P M V n) (hp : P p = some b) (hB : B ≤ w.heap.size) :
    Calls Tryd.prog 60 #[.pointer (some ⟨b, 0, none⟩), .int .i32 X] w fun e w' =>
      ∃ c P' M' V', e = .returned (.pointer (some ⟨c, 0, none⟩)) ∧ P' (p ++ [X]) = some c ∧ GrR cnt B (n + 1) w w' P M V P' M' V' (p ++ [X]) := by
  have eqm := eqmap
  have hmm := @run_makeMap Tryd.prog
  have HT := Lib.hid hT
  have HP := Lib.hid hp
  have hc0 := hT.cell0 hp
  have hbl := hT.lt hp
  clear hT hp
  cases hM : M p with
  | some m =>
    rw [hM] at hc0
    have hmap := (HT.out.kids p m hM).2
    cases hN : P (p ++ [X]) with
    | some c2 =>
      have HR := Lib.hid (GrR.has HT.out (p ++ [X]) (Nat.le_succ n))
      clear hmm eqm
      go_enter Tryd.func60, Tryd.ntmps60
      go_wp2_with (at_lookup; refine wpList_lookup_some _ rfl _ _ 58 rfl 21 97 .i32 Tryd.underlying21 Tryd.underlying58 (zeroN _) m _ (fun x => P (p ++ [x])) rfl hmap X rfl hx c2 hN ?_)
      go_ret
      exact ⟨c2, P, M, V, rfl, hN, HR.out⟩
    | none =>
      have hbx : Below w.heap.size w (w.alloc (.cells #[.map none, .slice none 0 0] 60)) := (Below.refl _ _).alloc (Nat.le_refl _) _
      have HT2 := Lib.hid (HT.out.below hbx)
      have hc2 := HT2.out.cell0 HP.out
      rw [hM] at hc2
      have hmap2 := (HT2.out.kids p m hM).2
      have HNEW := Lib.hid (at_new w #[.map none, .slice none 0 0] 60)
      have HBX := Lib.hid hbx
      clear hmm hbx
      go_enter Tryd.func60, Tryd.ntmps60
      go_wp2_with (first
        | (at_lookup; refine wpList_lookup_none _ rfl _ _ 58 rfl 21 97 .i32 Tryd.underlying21 Tryd.underlying58 (zeroN _) m _ (fun x => P (p ++ [x])) rfl hmap X rfl hx hN ?_)
        | (at_mapUpdate; refine wpList_store_ptr _ rfl _ _ _ 58 rfl 21 97 .i32 Tryd.underlying21 Tryd.underlying58 m _ _ rfl hmap2 (by unfold maxLen; omega) X rfl hx _ rfl ?_; intro w5 hM5 hg5))
      have HM5 := Lib.hid hM5
      have HG5 := Lib.hid hg5
      clear hM5 hg5 hmap hmap2
      go_ret
      refine ⟨w.heap.size, _, M, _, rfl, atP_same P _ _, GrR.put HT2.out HP.out hM hN HNEW.out hB (fun q e => by have := HT.out.lt e; omega) HM5.out HG5.out, fun q d hq => ?_, fun q d hq => ?_, fun q d hq => ?_, fun d hd h1 h2 => ⟨?_, fun q => ?_, h2⟩, ?_⟩
      · rw [atP_other _ _ (fun e => by rw [e, hN] at hq; cases hq)]; exact hq
      · by_cases e : q = p ++ [X]
        · exact Or.inr ⟨e, by rw [e]; exact hN, by rw [e]; exact atP_same _ _ _⟩
        · rw [atP_other _ _ e] at hq; exact Or.inl hq
      · rw [atP_other _ _ (fun e => by rw [e, hN] at hq; cases hq)]
      · rw [HG5.out.block d (by simp; omega) (fun e => h2 p (by rw [hM]; exact e.symm)), Below.heap_alloc _ _ _ (by omega)]
      · by_cases e : q = p ++ [X]
        · rw [e, atP_same]; intro e2; injection e2 with e2; omega
        · rw [atP_other _ _ e]; exact h1 q
      · exact ((Below.refl B w).alloc hB _).grown HG5.out (by simp; omega) fun j hj => by injection hj with hj; rw [← hj]; exact (HT.out.kids _ _ hM).1
  | none =>
    rw [hM] at hc0
    have hN := HT.out.bare p hM X
    have hbx : Below w.heap.size w (w.alloc (.cells #[.map none, .slice none 0 0] 60)) := (Below.refl _ _).alloc (Nat.le_refl _) _
    have hT1 := HT.out.below hbx
    have hc1 := hT1.cell0 HP.out
    rw [hM] at hc1
    have hnew := at_new w #[.map none, .slice none 0 0] 60
    have hs1 : (w.alloc (.cells #[.map none, .slice none 0 0] 60)).heap.size = w.heap.size + 1 := by simp
    obtain ⟨W1, hW1⟩ : ∃ W1, w.alloc (.cells #[.map none, .slice none 0 0] 60) = W1 := ⟨_, rfl⟩
    have hT2 := hT1.mkMap HP.out hM (by simp; omega)
    rw [hW1] at hbx hT1 hnew hs1 hc1 hT2
    have hcA : (W1.alloc (.map #[] 0)).cell? ⟨b, 0, none⟩ = some (.map none) := (((Below.refl W1.heap.size W1).alloc (Nat.le_refl _) (.map #[] 0)).cell (p := ⟨b, 0, none⟩) (hT1.lt HP.out)).trans hc1
    have hfA : (W1.alloc (.map #[] 0)).frozen? ⟨b, 0, none⟩ = false := ((hT1.node p b HP.out).2.alloc (.map #[] 0)).noFrost 0
    have hs2 : ((W1.alloc (.map #[] 0)).setCell ⟨b, 0, none⟩ (.map (some W1.heap.size))).heap.size = w.heap.size + 2 := by simp; omega
    have hold : ∀ d, d < W1.heap.size → d ≠ b → ((W1.alloc (.map #[] 0)).setCell ⟨b, 0, none⟩ (.map (some W1.heap.size))).heap[d]? = W1.heap[d]? := fun d hd hne => by
      rw [Below.heap_setCell _ _ _ _ hne, Below.heap_alloc _ _ _ hd]
    have hb2 : Below B W1 ((W1.alloc (.map #[] 0)).setCell ⟨b, 0, none⟩ (.map (some W1.heap.size))) := ((Below.refl B W1).alloc (by omega) _).setCell (p := ⟨b, 0, none⟩) (hT1.node p b HP.out).1 _
    obtain ⟨m, hm⟩ : ∃ m, W1.heap.size = m := ⟨_, rfl⟩
    have hm1 : atP M p (some W1.heap.size) p = some W1.heap.size := atP_same _ _ _
    obtain ⟨W2, hW2⟩ : ∃ W2, (W1.alloc (.map #[] 0)).setCell ⟨b, 0, none⟩ (.map (some W1.heap.size)) = W2 := ⟨_, rfl⟩
    rw [hW2] at hT2 hs2 hold hb2
    rw [hm] at hT2 hm1 hold hW2
    have hc2 := hT2.cell0 HP.out
    rw [hm1] at hc2
    have hmap2 := (hT2.kids p m hm1).2
    have hnew2 : At W2 w.heap.size 60 #[.map none, .slice none 0 0] := hnew.same (hold _ (by omega) (by omega))
    have HB := Lib.hid hb2
    have HBX := Lib.hid hbx
    have HOLD := Lib.hid hold
    have HS1 := Lib.hid hs1
    have HS2 := Lib.hid hs2
    have HNEW := Lib.hid hnew2
    have HT2 := Lib.hid hT2
    have HM := Lib.hid hm
    have HM1 := Lib.hid hm1
    have hnk : n < 9223372036854775807 := by omega
    clear hnew hnew2 hT1 hbx hs1 hs2 hm1 hb2 hold hT2
    go_enter Tryd.func60, Tryd.ntmps60
    go_wp2_with (first
      | (at_lookup; refine wpList_lookup_nil _ rfl _ _ 58 rfl 21 97 .i32 Tryd.underlying21 Tryd.underlying58 (zeroN _) rfl X rfl hx ?_)
      | (at_mapUpdate; refine wpList_store_ptr _ rfl _ _ _ 58 rfl 21 97 .i32 Tryd.underlying21 Tryd.underlying58 m _ _ rfl hmap2 (by unfold maxLen; omega) X rfl hx _ rfl ?_; intro w5 hM5 hg5))
    have HM5 := Lib.hid hM5
    have HG5 := Lib.hid hg5
    clear hM5 hg5 hmap2
    go_ret
    refine ⟨w.heap.size, _, atP M p (some m), _, rfl, atP_same P _ _, GrR.put HT2.out HP.out HM1.out hN HNEW.out hB (fun q e => by have := HT.out.lt e; omega) HM5.out HG5.out, fun q d hq => ?_, fun q d hq => ?_, fun q d hq => ?_, fun d hd h1 h2 => ⟨?_, fun q => ?_, fun q => ?_⟩, ?_⟩
    · rw [atP_other _ _ (fun e => by rw [e, hN] at hq; cases hq)]; exact hq
    · by_cases e : q = p ++ [X]
      · exact Or.inr ⟨e, by rw [e]; exact hN, by rw [e]; exact atP_same _ _ _⟩
      · rw [atP_other _ _ e] at hq; exact Or.inl hq
    · rw [atP_other _ _ (fun e => by rw [e, hN] at hq; cases hq)]
    · have g1 := HS1.out
      have g2 := HS2.out
      have g3 := HM.out
      rw [HG5.out.block d (by omega) (fun e => by injection e with e; omega), HOLD.out d (by omega) (fun e => h1 p (by rw [HP.out, e])), HBX.out.block d hd]
    · by_cases e : q = p ++ [X]
      · rw [e, atP_same]; intro e2; injection e2 with e2; omega
      · rw [atP_other _ _ e]; exact h1 q
    · have g1 := HS1.out
      have g3 := HM.out
      by_cases e : q = p
      · rw [e, atP_same]; intro e2; injection e2 with e2; omega
      · rw [atP_other _ _ e]; exact h2 q
    · have g1 := HS1.out
      have g2 := HS2.out
      have g3 := HM.out
      exact ((HBX.out.mono hB).trans HB.out).grown HG5.out (by omega) fun j hj => by injection hj with hj; omega
end Go.Proofs.YtekjejbcdnghjaaDoor
