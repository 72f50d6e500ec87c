/-
  A tree of nodes in memory whose children lie in maps: 'TrieAt': which path leads to which block, where each node's map lies, what value each node bears. What steps make of it: a map made, a child put in, a value stored. (A node's first two cells are its map and its value; what follows them, and the block's type, K tells: the root may lie in a greater struct.) No condition.
-/
import Derived.Test.YtekjejbcdnghjaaDoorZMpt
import Derived.Test.YtekjejbcdnghjaaDoorZBase
import Derived.Test.YtekjejbcdnghjaaDoorZOwn
import Derived.Test.YtekjejbcdnghjaaDoorZa
import Derived.WalkSpells
set_option linter.unusedVariables false
set_option linter.unusedSimpArgs false
namespace Go.Proofs.YtekjejbcdnghjaaDoor
open Go.ChangeShapes Go.WideShapes Go.ChangeAt Go.RowKit Go.Sort

theorem At.setOf {w : World} {g : Nat} {t : TypeId} {cs : Array Value} (h : At w g t cs) (j : Nat) (v : Value) : At (w.setCell ⟨g, j, none⟩ v) g t (cs.setIfInBounds j v) := by
  have hlt := h.lt
  unfold At at *
  have h' : w.heap[g] = .cells cs t (0, 0) := by simpa [Array.getElem?_eq_getElem hlt] using h
  show (w.heap.modify g _)[g]? = _
  rw [Array.getElem?_eq_getElem (by simpa using hlt), Array.getElem_modify_self, h']
  rfl
theorem At.elsewhere {w : World} {g : Nat} {t : TypeId} {cs : Array Value} (h : At w g t cs) (p : Addr) (v : Value) (hp : g ≠ p.block) : At (w.setCell p v) g t cs := by
  unfold At
  rw [Below.heap_setCell _ _ _ _ hp]; exact h
theorem At.noFrost {w : World} {g : Nat} {t : TypeId} {cs : Array Value} (h : At w g t cs) (j : Nat) : w.frozen? ⟨g, j, none⟩ = false := by
  unfold At at h
  simp [World.frozen?, h]
theorem At.same {w w' : World} {g : Nat} {t : TypeId} {cs : Array Value} (h : At w g t cs) (e : w'.heap[g]? = w.heap[g]?) : At w' g t cs := e.trans h

abbrev Path := List Int
/-- which path leads to which block (P), where each node's map lies (M), what value each node bears (V); n bounds the maps' entries -/
structure TrieAt (K : Path → TypeId × List Value) (w : World) (B : Nat) (P M : Path → Option Nat) (V : Path → Value) (n : Nat) : Prop where
  node : ∀ p b, P p = some b → B ≤ b ∧ At w b (K p).1 ⟨.map (M p) :: V p :: (K p).2⟩
  kids : ∀ p m, M p = some m → B ≤ m ∧ MapP Tryd.prog 21 .i32 w m n (fun x => P (p ++ [x]))
  bare : ∀ p, M p = none → ∀ x, P (p ++ [x]) = none
  inj : ∀ p q b, P p = some b → P q = some b → p = q
  minj : ∀ p q m, M p = some m → M q = some m → p = q
  lone : ∀ p, P p = none → M p = none
section
variable {K : Path → TypeId × List Value} {w w' : World} {B n : Nat} {P M : Path → Option Nat} {V : Path → Value}
theorem TrieAt.lt (h : TrieAt K w B P M V n) {p : Path} {b : Nat} (hp : P p = some b) : b < w.heap.size := (h.node p b hp).2.lt
theorem TrieAt.mlt (h : TrieAt K w B P M V n) {p : Path} {m : Nat} (hp : M p = some m) : m < w.heap.size := (h.kids p m hp).2.lt
theorem TrieAt.apart (h : TrieAt K w B P M V n) {p q : Path} {b m : Nat} (hp : P p = some b) (hq : M q = some m) : b ≠ m := fun e => by
  subst e
  obtain ⟨es, clock, h1⟩ := (h.kids q b hq).2.is_map
  have h2 := (h.node p b hp).2
  unfold At at h2
  rw [h1] at h2
  cases h2
/-- its blocks stay as they are -/
theorem TrieAt.stays (h : TrieAt K w B P M V n) (hk : ∀ b, b < w.heap.size → B ≤ b → w'.heap[b]? = w.heap[b]?) : TrieAt K w' B P M V n :=
  ⟨fun p b hp => ⟨(h.node p b hp).1, (h.node p b hp).2.same (hk b (h.lt hp) (h.node p b hp).1)⟩, fun p m hp => ⟨(h.kids p m hp).1, (h.kids p m hp).2.block (hk m (h.mlt hp) (h.kids p m hp).1)⟩, h.bare, h.inj, h.minj, h.lone⟩
theorem TrieAt.stays' (h : TrieAt K w B P M V n) {X : Nat} (hs : w.heap.size ≤ w'.heap.size) (hk : ∀ b, b < w.heap.size → b ≠ X → w'.heap[b]? = w.heap[b]?) (h1 : ∀ q, P q ≠ some X) (h2 : ∀ q, M q ≠ some X) : TrieAt K w' B P M V n :=
  ⟨fun p b hp => ⟨(h.node p b hp).1, (h.node p b hp).2.same (hk b (h.lt hp) fun e => h1 p (by rw [hp, e]))⟩, fun p m hp => ⟨(h.kids p m hp).1, (h.kids p m hp).2.block (hk m (h.mlt hp) fun e => h2 p (by rw [hp, e]))⟩, h.bare, h.inj, h.minj, h.lone⟩
theorem TrieAt.below (h : TrieAt K w B P M V n) (hb : Below w.heap.size w w') : TrieAt K w' B P M V n := h.stays fun b hb' _ => hb.block b hb'
theorem TrieAt.more (h : TrieAt K w B P M V n) {n' : Nat} (hn : n ≤ n') : TrieAt K w B P M V n' := ⟨h.node, fun p m hp => ⟨(h.kids p m hp).1, (h.kids p m hp).2.mono hn⟩, h.bare, h.inj, h.minj, h.lone⟩
theorem TrieAt.cell0 (h : TrieAt K w B P M V n) {p : Path} {b : Nat} (hp : P p = some b) : w.cell? ⟨b, 0, none⟩ = some (.map (M p)) := (h.node p b hp).2.cell 0 _ rfl
theorem TrieAt.cell1 (h : TrieAt K w B P M V n) {p : Path} {b : Nat} (hp : P p = some b) : w.cell? ⟨b, 1, none⟩ = some (V p) := (h.node p b hp).2.cell 1 _ rfl

/-- one value of a function of paths, replaced -/
def atP {α : Type} (f : Path → α) (p : Path) (v : α) : Path → α := fun q => if q = p then v else f q
theorem atP_same {α : Type} (f : Path → α) (p : Path) (v : α) : atP f p v p = v := if_pos rfl
theorem atP_other {α : Type} (f : Path → α) {p q : Path} (v : α) (h : q ≠ p) : atP f p v q = f q := if_neg h
theorem path_ne (p : Path) (x : Int) : p ++ [x] ≠ p := fun e => by have := congrArg List.length e; simp at this
theorem path_inj {p q : Path} {x y : Int} (h : p ++ [x] = q ++ [y]) : p = q ∧ x = y := by
  have := List.append_inj' h rfl
  exact ⟨this.1, by simpa using this.2⟩

/-- a node without a map gets one, empty, which lies in a block behind all others -/
theorem TrieAt.mkMap (h : TrieAt K w B P M V n) {p : Path} {b : Nat} (hp : P p = some b) (hm : M p = none) (hB : B ≤ w.heap.size) :
    TrieAt K ((w.alloc (.map #[] 0)).setCell ⟨b, 0, none⟩ (.map (some w.heap.size))) B P (atP M p (some w.heap.size)) V n := by
  have hold : ∀ c, c < w.heap.size → c ≠ b → ((w.alloc (.map #[] 0)).setCell ⟨b, 0, none⟩ (.map (some w.heap.size))).heap[c]? = w.heap[c]? := fun c hc hne => by
    rw [Below.heap_setCell _ _ _ _ hne, Below.heap_alloc _ _ _ hc]
  have hb := h.lt hp
  refine ⟨fun q c hq => ?_, fun q m hq => ?_, fun q hq x => ?_, h.inj, fun q r m hq hr => ?_, fun q hq => ?_⟩
  · obtain ⟨h1, h2⟩ := h.node q c hq
    refine ⟨h1, ?_⟩
    by_cases e : q = p
    · subst e
      rw [hp] at hq
      injection hq with hq
      subst hq
      rw [atP_same]
      exact (h2.alloc _).setOf 0 _
    · rw [atP_other _ _ e]
      refine h2.same (hold c h2.lt fun e2 => e (h.inj q p b (by rw [← e2]; exact hq) hp))
  · by_cases e : q = p
    · subst e
      rw [atP_same] at hq
      injection hq with hq
      subst hq
      refine ⟨hB, ?_⟩
      have h0 : MapP Tryd.prog 21 .i32 (w.alloc (.map #[] 0)) w.heap.size 0 (fun _ => none) := MapP.made w _ _ _
      have h1 := (h0.block (w' := (w.alloc (.map #[] 0)).setCell ⟨b, 0, none⟩ (.map (some w.heap.size))) (Below.heap_setCell _ _ _ _ (by show w.heap.size ≠ b; omega))).mono (Nat.zero_le n)
      have e2 : (fun x => P (q ++ [x])) = fun _ => none := funext fun x => h.bare q hm x
      rw [e2]
      exact h1
    · rw [atP_other _ _ e] at hq
      obtain ⟨h1, h2⟩ := h.kids q m hq
      exact ⟨h1, h2.block (hold m h2.lt (fun e2 => h.apart hp hq e2.symm))⟩
  · by_cases e : q = p
    · subst e; rw [atP_same] at hq; cases hq
    · rw [atP_other _ _ e] at hq; exact h.bare q hq x
  · by_cases e : q = p
    · by_cases e2 : r = p
      · rw [e, e2]
      · rw [e, atP_same] at hq
        rw [atP_other _ _ e2] at hr
        injection hq with hq
        subst hq
        exact absurd (h.mlt hr) (by omega)
    · rw [atP_other _ _ e] at hq
      by_cases e2 : r = p
      · rw [e2, atP_same] at hr
        injection hr with hr
        subst hr
        exact absurd (h.mlt hq) (by omega)
      · rw [atP_other _ _ e2] at hr
        exact h.minj q r m hq hr
  · by_cases e : q = p
    · subst e; rw [hp] at hq; cases hq
    · rw [atP_other _ _ e]; exact h.lone q hq

/-- a new node is put into a node's map -/
theorem TrieAt.newKid (h : TrieAt K w B P M V n) {p : Path} {b m c : Nat} {x : Int} {v : Value} (hp : P p = some b) (hm : M p = some m) (hx : P (p ++ [x]) = none) (hc : At w c (K (p ++ [x])).1 ⟨.map none :: v :: (K (p ++ [x])).2⟩) (hcB : B ≤ c) (hnew : ∀ q, P q ≠ some c)
    (hM : MapP Tryd.prog 21 .i32 w' m (n + 1) (fun y => if y = x then some c else P (p ++ [y]))) (hg : w.grownBy w' (some m)) :
    TrieAt K w' B (atP P (p ++ [x]) (some c)) M (atP V (p ++ [x]) v) (n + 1) := by
  have hold : ∀ d, d < w.heap.size → d ≠ m → w'.heap[d]? = w.heap[d]? := fun d hd hne => hg.block d hd (fun e => hne (by injection e))
  have hcm : c ≠ m := fun e => by
    subst e
    obtain ⟨es, clock, h1⟩ := (h.kids p c hm).2.is_map
    unfold At at hc
    rw [h1] at hc
    cases hc
  have hnone : M (p ++ [x]) = none := h.lone _ hx
  refine ⟨fun q d hq => ?_, fun q k hq => ?_, fun q hq y => ?_, fun q r d hq hr => ?_, h.minj, fun q hq => ?_⟩
  · by_cases e : q = p ++ [x]
    · subst e
      rw [atP_same] at hq
      injection hq with hq
      subst hq
      rw [atP_same, hnone]
      exact ⟨hcB, hc.same (hold c hc.lt hcm)⟩
    · rw [atP_other _ _ e] at hq
      rw [atP_other _ _ e]
      obtain ⟨h1, h2⟩ := h.node q d hq
      exact ⟨h1, h2.same (hold d h2.lt (h.apart hq hm))⟩
  · by_cases e : k = m
    · subst e
      obtain rfl : q = p := h.minj q p k hq hm
      refine ⟨(h.kids q k hm).1, ?_⟩
      have e2 : (fun y => atP P (q ++ [x]) (some c) (q ++ [y])) = fun y => if y = x then some c else P (q ++ [y]) := funext fun y => by
        by_cases e3 : y = x
        · subst e3; rw [atP_same, if_pos rfl]
        · rw [atP_other _ _ (fun e4 => e3 (path_inj e4).2), if_neg e3]
      rw [e2]
      exact hM
    · obtain ⟨h1, h2⟩ := h.kids q k hq
      refine ⟨h1, ?_⟩
      have e2 : (fun y => atP P (p ++ [x]) (some c) (q ++ [y])) = fun y => P (q ++ [y]) := funext fun y => by
        rw [atP_other]
        intro e4
        obtain ⟨rfl, _⟩ := path_inj e4
        rw [hq] at hm
        injection hm with hm
        exact e hm
      rw [e2]
      exact (h2.block (hold k h2.lt e)).mono (Nat.le_succ n)
  · rw [atP_other]
    · exact h.bare q hq y
    · intro e
      obtain ⟨rfl, _⟩ := path_inj e
      rw [hq] at hm
      cases hm
  · by_cases e : q = p ++ [x]
    · by_cases e2 : r = p ++ [x]
      · rw [e, e2]
      · rw [e, atP_same] at hq
        rw [atP_other _ _ e2] at hr
        injection hq with hq
        subst hq
        exact absurd hr (hnew r)
    · rw [atP_other _ _ e] at hq
      by_cases e2 : r = p ++ [x]
      · rw [e2, atP_same] at hr
        injection hr with hr
        subst hr
        exact absurd hq (hnew q)
      · rw [atP_other _ _ e2] at hr
        exact h.inj q r d hq hr
  · by_cases e : q = p ++ [x]
    · rw [e, atP_same] at hq; cases hq
    · rw [atP_other _ _ e] at hq; exact h.lone q hq

/-- a node's value is stored -/
theorem TrieAt.setVal (h : TrieAt K w B P M V n) {p : Path} {b : Nat} (hp : P p = some b) (v : Value) : TrieAt K (w.setCell ⟨b, 1, none⟩ v) B P M (atP V p v) n := by
  have hold : ∀ c, c ≠ b → (w.setCell ⟨b, 1, none⟩ v).heap[c]? = w.heap[c]? := fun c hne => Below.heap_setCell _ _ _ _ hne
  refine ⟨fun q c hq => ?_, fun q m hq => ⟨(h.kids q m hq).1, (h.kids q m hq).2.block (hold m fun e => h.apart hp hq e.symm)⟩, h.bare, h.inj, h.minj, h.lone⟩
  obtain ⟨h1, h2⟩ := h.node q c hq
  refine ⟨h1, ?_⟩
  by_cases e : q = p
  · subst e
    rw [hp] at hq
    injection hq with hq
    subst hq
    rw [atP_same]
    exact h2.setOf 1 v
  · rw [atP_other _ _ e]
    exact h2.same (hold c fun e2 => e (h.inj q p b (by rw [← e2]; exact hq) hp))
/-- a tree of one node -/
theorem TrieAt.root {b : Nat} {v : Value} (hb : At w b (K []).1 ⟨.map none :: v :: (K []).2⟩) (hB : B ≤ b) : TrieAt K w B (fun p => if p = [] then some b else none) (fun _ => none) (fun _ => v) 0 := by
  refine ⟨fun p c hp => ?_, fun p m hm => (by cases hm), fun p _ x => if_neg (List.append_ne_nil_of_right_ne_nil p (List.cons_ne_nil x [])), fun p q c hp hq => ?_, fun p q m hm _ => (by cases hm), fun _ _ => rfl⟩
  · replace hp : (if p = [] then some b else none) = some c := hp
    by_cases e : p = []
    · rw [if_pos e] at hp; injection hp with hp; subst hp; subst e; exact ⟨hB, hb⟩
    · rw [if_neg e] at hp; cases hp
  · replace hp : (if p = [] then some b else none) = some c := hp
    replace hq : (if q = [] then some b else none) = some c := hq
    by_cases e : p = []
    · by_cases e2 : q = []
      · rw [e, e2]
      · rw [if_neg e2] at hq; cases hq
    · rw [if_neg e] at hp; cases hp
end
end Go.Proofs.YtekjejbcdnghjaaDoor

/-
  A tree of nodes: the child for a letter, found or made ('grown'); a pattern put in ('add'): what stays, what is new. No condition.
-/
set_option linter.unusedVariables false
set_option linter.unusedSimpArgs false
namespace Go.Proofs.YtekjejbcdnghjaaDoor
open Go.ChangeShapes Go.WideShapes Go.ChangeAt Go.RowKit Go.Sort

def nilS : Value := .slice none 0 0
/-- the root lies in a trie, with the count behind it; all others are nodes -/
def kN (cnt : Int) (p : Path) : TypeId × List Value := if p = [] then (62, [.int .i64 cnt]) else (60, [])
theorem kN_snoc (cnt : Int) (p : Path) (x : Int) : kN cnt (p ++ [x]) = (60, []) := if_neg (List.append_ne_nil_of_right_ne_nil p (List.cons_ne_nil x []))
/-- one letter's child: what is new, and what stays -/
structure GrR (cnt : Int) (B n : Nat) (w w' : World) (P M : Path → Option Nat) (V : Path → Value) (P' M' : Path → Option Nat) (V' : Path → Value) (p : Path) : Prop where
  tri : TrieAt (kN cnt) w' B P' M' V' n
  old : ∀ q b, P q = some b → P' q = some b
  dom : ∀ q b, P' q = some b → P q = some b ∨ (q = p ∧ P q = none ∧ V' q = nilS)
  val : ∀ q b, P q = some b → V' q = V q
  far : ∀ c, c < w.heap.size → (∀ q, P q ≠ some c) → (∀ q, M q ≠ some c) → w'.heap[c]? = w.heap[c]? ∧ (∀ q, P' q ≠ some c) ∧ (∀ q, M' q ≠ some c)
  bel : Below B w w'

section
variable {cnt : Int} {B n : Nat} {w wr w' : World} {P M P' M' P'' M'' : Path → Option Nat} {V V' V'' : Path → Value}
theorem GrR.has (h : TrieAt (kN cnt) w B P M V n) (p : Path) {n' : Nat} (hn : n ≤ n') : GrR cnt B n' w w P M V P M V p :=
  ⟨h.more hn, fun _ _ h => h, fun _ _ h => Or.inl h, fun _ _ _ => rfl, fun _ _ h1 h2 => ⟨rfl, h1, h2⟩, Below.refl B w⟩
/-- a new node at c, put into the map that is there -/
theorem GrR.put {p : Path} {x : Int} {b m c : Nat} (h : TrieAt (kN cnt) w B P M V n) (hp : P p = some b) (hm : M p = some m) (hx : P (p ++ [x]) = none) (hc : At w c 60 #[.map none, nilS]) (hcB : B ≤ c) (hnew : ∀ q, P q ≠ some c)
    (hM : MapP Tryd.prog 21 .i32 w' m (n + 1) (fun y => if y = x then some c else P (p ++ [y]))) (hg : w.grownBy w' (some m)) :
    TrieAt (kN cnt) w' B (atP P (p ++ [x]) (some c)) M (atP V (p ++ [x]) nilS) (n + 1) :=
  h.newKid hp hm hx (by rw [kN_snoc]; exact hc) hcB hnew hM hg
theorem pre_snoc {q l : Path} (hq : q <+: l) {k : Nat} (hk : k < l.length) (hl : q.length = k + 1) : q = l.take k ++ [l[k]] := by
  rw [List.prefix_iff_eq_take] at hq
  rw [hq, hl, List.take_add_one, List.getElem?_eq_getElem hk]; rfl
end

theorem eqmap (m : Option Nat) (w : World) : (binOp .eql 58 (.map m) (.map none)).run Tryd.prog w = .ok (.bool m.isNone) w := run_eql_map_nil (P := Tryd.prog) w _ _ _ m Tryd.underlying58
theorem neslice (A : Option Addr) (n c : Nat) (w : World) : (binOp .neq 23 (.slice A n c) (.slice none 0 0)).run Tryd.prog w = .ok (.bool (!A.isNone)) w := run_neq_slice_nil_any w _ _ A n c 0 0 Tryd.underlying23
set_option maxRecDepth 100000 in
theorem zeroN (w : World) : (zeroValue 97).run Tryd.prog w = .ok (.pointer none) w := by rfl

set_option maxRecDepth 20000 in
set_option maxHeartbeats 4000000 in
theorem grown_ok (cnt : Int) (B n b : Nat) (P M : Path → Option Nat) (V : Path → Value) (p : Path) (X : Int) (w : World) (hx : (Lit.int .i32 X).wf = true) (hn : n ≤ 1000000)
    (hT : TrieAt (kN cnt) w B P M V n) (hp : P p = some b) (hB : B ≤ w.heap.size) :
    Calls Tryd.prog 60 #[.pointer (some ⟨b, 0, none⟩), .int .i32 X] w fun e w' =>
      ∃ c P' M' V', e = .returned (.pointer (some ⟨c, 0, none⟩)) ∧ P' (p ++ [X]) = some c ∧ GrR cnt B (n + 1) w w' P M V P' M' V' (p ++ [X]) := by
  have eqm := eqmap
  have hmm := @run_makeMap Tryd.prog
  have HT := Lib.hid hT
  have HP := Lib.hid hp
  have hc0 := hT.cell0 hp
  have hbl := hT.lt hp
  clear hT hp
  cases hM : M p with
  | some m =>
    rw [hM] at hc0
    have hmap := (HT.out.kids p m hM).2
    cases hN : P (p ++ [X]) with
    | some c2 =>
      have HR := Lib.hid (GrR.has HT.out (p ++ [X]) (Nat.le_succ n))
      clear hmm eqm
      go_enter Tryd.func60, Tryd.ntmps60
      go_wp2_with (at_lookup; refine wpList_lookup_some _ rfl _ _ 58 rfl 21 97 .i32 Tryd.underlying21 Tryd.underlying58 (zeroN _) m _ (fun x => P (p ++ [x])) rfl hmap X rfl hx c2 hN ?_)
      go_ret
      exact ⟨c2, P, M, V, rfl, hN, HR.out⟩
    | none =>
      have hbx : Below w.heap.size w (w.alloc (.cells #[.map none, .slice none 0 0] 60)) := (Below.refl _ _).alloc (Nat.le_refl _) _
      have HT2 := Lib.hid (HT.out.below hbx)
      have hc2 := HT2.out.cell0 HP.out
      rw [hM] at hc2
      have hmap2 := (HT2.out.kids p m hM).2
      have HNEW := Lib.hid (at_new w #[.map none, .slice none 0 0] 60)
      have HBX := Lib.hid hbx
      clear hmm hbx
      go_enter Tryd.func60, Tryd.ntmps60
      go_wp2_with (first
        | (at_lookup; refine wpList_lookup_none _ rfl _ _ 58 rfl 21 97 .i32 Tryd.underlying21 Tryd.underlying58 (zeroN _) m _ (fun x => P (p ++ [x])) rfl hmap X rfl hx hN ?_)
        | (at_mapUpdate; refine wpList_store_ptr _ rfl _ _ _ 58 rfl 21 97 .i32 Tryd.underlying21 Tryd.underlying58 m _ _ rfl hmap2 (by unfold maxLen; omega) X rfl hx _ rfl ?_; intro w5 hM5 hg5))
      have HM5 := Lib.hid hM5
      have HG5 := Lib.hid hg5
      clear hM5 hg5 hmap hmap2
      go_ret
      refine ⟨w.heap.size, _, M, _, rfl, atP_same P _ _, GrR.put HT2.out HP.out hM hN HNEW.out hB (fun q e => by have := HT.out.lt e; omega) HM5.out HG5.out, fun q d hq => ?_, fun q d hq => ?_, fun q d hq => ?_, fun d hd h1 h2 => ⟨?_, fun q => ?_, h2⟩, ?_⟩
      · rw [atP_other _ _ (fun e => by rw [e, hN] at hq; cases hq)]; exact hq
      · by_cases e : q = p ++ [X]
        · exact Or.inr ⟨e, by rw [e]; exact hN, by rw [e]; exact atP_same _ _ _⟩
        · rw [atP_other _ _ e] at hq; exact Or.inl hq
      · rw [atP_other _ _ (fun e => by rw [e, hN] at hq; cases hq)]
      · rw [HG5.out.block d (by simp; omega) (fun e => h2 p (by rw [hM]; exact e.symm)), Below.heap_alloc _ _ _ (by omega)]
      · by_cases e : q = p ++ [X]
        · rw [e, atP_same]; intro e2; injection e2 with e2; omega
        · rw [atP_other _ _ e]; exact h1 q
      · exact ((Below.refl B w).alloc hB _).grown HG5.out (by simp; omega) fun j hj => by injection hj with hj; rw [← hj]; exact (HT.out.kids _ _ hM).1
  | none =>
    rw [hM] at hc0
    have hN := HT.out.bare p hM X
    have hbx : Below w.heap.size w (w.alloc (.cells #[.map none, .slice none 0 0] 60)) := (Below.refl _ _).alloc (Nat.le_refl _) _
    have hT1 := HT.out.below hbx
    have hc1 := hT1.cell0 HP.out
    rw [hM] at hc1
    have hnew := at_new w #[.map none, .slice none 0 0] 60
    have hs1 : (w.alloc (.cells #[.map none, .slice none 0 0] 60)).heap.size = w.heap.size + 1 := by simp
    obtain ⟨W1, hW1⟩ : ∃ W1, w.alloc (.cells #[.map none, .slice none 0 0] 60) = W1 := ⟨_, rfl⟩
    have hT2 := hT1.mkMap HP.out hM (by simp; omega)
    rw [hW1] at hbx hT1 hnew hs1 hc1 hT2
    have hcA : (W1.alloc (.map #[] 0)).cell? ⟨b, 0, none⟩ = some (.map none) := (((Below.refl W1.heap.size W1).alloc (Nat.le_refl _) (.map #[] 0)).cell (p := ⟨b, 0, none⟩) (hT1.lt HP.out)).trans hc1
    have hfA : (W1.alloc (.map #[] 0)).frozen? ⟨b, 0, none⟩ = false := ((hT1.node p b HP.out).2.alloc (.map #[] 0)).noFrost 0
    have hs2 : ((W1.alloc (.map #[] 0)).setCell ⟨b, 0, none⟩ (.map (some W1.heap.size))).heap.size = w.heap.size + 2 := by simp; omega
    have hold : ∀ d, d < W1.heap.size → d ≠ b → ((W1.alloc (.map #[] 0)).setCell ⟨b, 0, none⟩ (.map (some W1.heap.size))).heap[d]? = W1.heap[d]? := fun d hd hne => by
      rw [Below.heap_setCell _ _ _ _ hne, Below.heap_alloc _ _ _ hd]
    have hb2 : Below B W1 ((W1.alloc (.map #[] 0)).setCell ⟨b, 0, none⟩ (.map (some W1.heap.size))) := ((Below.refl B W1).alloc (by omega) _).setCell (p := ⟨b, 0, none⟩) (hT1.node p b HP.out).1 _
    obtain ⟨m, hm⟩ : ∃ m, W1.heap.size = m := ⟨_, rfl⟩
    have hm1 : atP M p (some W1.heap.size) p = some W1.heap.size := atP_same _ _ _
    obtain ⟨W2, hW2⟩ : ∃ W2, (W1.alloc (.map #[] 0)).setCell ⟨b, 0, none⟩ (.map (some W1.heap.size)) = W2 := ⟨_, rfl⟩
    rw [hW2] at hT2 hs2 hold hb2
    rw [hm] at hT2 hm1 hold hW2
    have hc2 := hT2.cell0 HP.out
    rw [hm1] at hc2
    have hmap2 := (hT2.kids p m hm1).2
    have hnew2 : At W2 w.heap.size 60 #[.map none, .slice none 0 0] := hnew.same (hold _ (by omega) (by omega))
    have HB := Lib.hid hb2
    have HBX := Lib.hid hbx
    have HOLD := Lib.hid hold
    have HS1 := Lib.hid hs1
    have HS2 := Lib.hid hs2
    have HNEW := Lib.hid hnew2
    have HT2 := Lib.hid hT2
    have HM := Lib.hid hm
    have HM1 := Lib.hid hm1
    have hnk : n < 9223372036854775807 := by omega
    clear hnew hnew2 hT1 hbx hs1 hs2 hm1 hb2 hold hT2
    go_enter Tryd.func60, Tryd.ntmps60
    go_wp2_with (first
      | (at_lookup; refine wpList_lookup_nil _ rfl _ _ 58 rfl 21 97 .i32 Tryd.underlying21 Tryd.underlying58 (zeroN _) rfl X rfl hx ?_)
      | (at_mapUpdate; refine wpList_store_ptr _ rfl _ _ _ 58 rfl 21 97 .i32 Tryd.underlying21 Tryd.underlying58 m _ _ rfl hmap2 (by unfold maxLen; omega) X rfl hx _ rfl ?_; intro w5 hM5 hg5))
    have HM5 := Lib.hid hM5
    have HG5 := Lib.hid hg5
    clear hM5 hg5 hmap2
    go_ret
    refine ⟨w.heap.size, _, atP M p (some m), _, rfl, atP_same P _ _, GrR.put HT2.out HP.out HM1.out hN HNEW.out hB (fun q e => by have := HT.out.lt e; omega) HM5.out HG5.out, fun q d hq => ?_, fun q d hq => ?_, fun q d hq => ?_, fun d hd h1 h2 => ⟨?_, fun q => ?_, fun q => ?_⟩, ?_⟩
    · rw [atP_other _ _ (fun e => by rw [e, hN] at hq; cases hq)]; exact hq
    · by_cases e : q = p ++ [X]
      · exact Or.inr ⟨e, by rw [e]; exact hN, by rw [e]; exact atP_same _ _ _⟩
      · rw [atP_other _ _ e] at hq; exact Or.inl hq
    · rw [atP_other _ _ (fun e => by rw [e, hN] at hq; cases hq)]
    · have g1 := HS1.out
      have g2 := HS2.out
      have g3 := HM.out
      rw [HG5.out.block d (by omega) (fun e => by injection e with e; omega), HOLD.out d (by omega) (fun e => h1 p (by rw [HP.out, e])), HBX.out.block d hd]
    · by_cases e : q = p ++ [X]
      · rw [e, atP_same]; intro e2; injection e2 with e2; omega
      · rw [atP_other _ _ e]; exact h1 q
    · have g1 := HS1.out
      have g3 := HM.out
      by_cases e : q = p
      · rw [e, atP_same]; intro e2; injection e2 with e2; omega
      · rw [atP_other _ _ e]; exact h2 q
    · have g1 := HS1.out
      have g2 := HS2.out
      have g3 := HM.out
      exact ((HBX.out.mono hB).trans HB.out).grown HG5.out (by omega) fun j hj => by injection hj with hj; omega
end Go.Proofs.YtekjejbcdnghjaaDoor

/-
  A pattern put into the tree ('add'): what stays, what is new. No condition.
-/
set_option linter.unusedVariables false
set_option linter.unusedSimpArgs false
namespace Go.Proofs.YtekjejbcdnghjaaDoor
open Go.ChangeShapes Go.WideShapes Go.ChangeAt Go.RowKit Go.Sort

/-- what is new on the way along l's first k letters, and what stays -/
structure GrowT (cnt : Int) (B n : Nat) (w wr : World) (P M : Path → Option Nat) (V : Path → Value) (P' M' : Path → Option Nat) (V' : Path → Value) (l : Path) (k : Nat) : Prop where
  tri : TrieAt (kN cnt) wr B P' M' V' (n + k)
  old : ∀ q b, P q = some b → P' q = some b
  dom : ∀ q b, P' q = some b → P q = some b ∨ (P q = none ∧ q <+: l ∧ V' q = nilS)
  all : ∀ q, q <+: l → q.length ≤ k → (P' q).isSome
  val : ∀ q b, P q = some b → V' q = V q
  far : ∀ c, c < w.heap.size → (∀ q, P q ≠ some c) → (∀ q, M q ≠ some c) → wr.heap[c]? = w.heap[c]? ∧ (∀ q, P' q ≠ some c) ∧ (∀ q, M' q ≠ some c)
  bel : Below B w wr
section
variable {cnt : Int} {B n : Nat} {w wr w' : World} {P M P' M' P'' M'' : Path → Option Nat} {V V' V'' : Path → Value} {l : Path} {k : Nat}
theorem GrowT.start (h : TrieAt (kN cnt) w B P M V n) (l : Path) {b : Nat} (h0 : P [] = some b) : GrowT cnt B n w w P M V P M V l 0 :=
  ⟨h, fun _ _ h => h, fun _ _ h => Or.inl h, fun q _ hk => by have e : q = [] := List.eq_nil_of_length_eq_zero (by omega); rw [e, h0]; rfl, fun _ _ _ => rfl, fun _ _ h1 h2 => ⟨rfl, h1, h2⟩, Below.refl B w⟩
theorem GrowT.step (h : GrowT cnt B n w wr P M V P' M' V' l k) (hk : k < l.length) {c : Nat} (g : GrR cnt B (n + k + 1) wr w' P' M' V' P'' M'' V'' (l.take k ++ [l[k]])) (hc : P'' (l.take k ++ [l[k]]) = some c) : GrowT cnt B n w w' P M V P'' M'' V'' l (k + 1) := by
  have hpre : l.take k ++ [l[k]] <+: l := by
    have : l.take k ++ [l[k]] = l.take (k + 1) := by rw [List.take_add_one, List.getElem?_eq_getElem hk]; rfl
    rw [this]; exact List.take_prefix _ _
  have hs := h.bel.size
  refine ⟨g.tri, fun q b hq => g.old q b (h.old q b hq), fun q b hq => ?_, fun q hq hl => ?_, fun q b hq => ?_, fun c hc h1 h2 => ?_, h.bel.trans g.bel⟩
  · rcases g.dom q b hq with h1 | ⟨e, h1, h2⟩
    · rcases h.dom q b h1 with h3 | ⟨h3, h4, h5⟩
      · exact Or.inl h3
      · exact Or.inr ⟨h3, h4, by rw [g.val q b h1]; exact h5⟩
    · subst e
      refine Or.inr ⟨?_, hpre, h2⟩
      cases e2 : P (l.take k ++ [l[k]]) with
      | none => rfl
      | some b2 => rw [h.old _ _ e2] at h1; cases h1
  · rcases Nat.lt_or_ge k q.length with e | e
    · rw [pre_snoc hq hk (by omega), hc]; rfl
    · obtain ⟨b, hb⟩ := Option.isSome_iff_exists.1 (h.all q hq e)
      rw [g.old q b hb]; rfl
  · rw [g.val q b (h.old q b hq), h.val q b hq]
  · obtain ⟨g1, g2, g3⟩ := h.far c hc h1 h2
    obtain ⟨k1, k2, k3⟩ := g.far c (by omega) g2 g3
    exact ⟨k1.trans g1, k2, k3⟩
end

/-- the value that a path had -/
def hadV (P : Path → Option Nat) (V : Path → Value) (l : Path) : Value := if P l = none then nilS else V l
/-- what add makes of the tree -/
structure AddR (cnt : Int) (B n : Nat) (w w' : World) (P M : Path → Option Nat) (V : Path → Value) (P' M' : Path → Option Nat) (V' : Path → Value) (l : Path) : Prop where
  tri : TrieAt (kN cnt) w' B P' M' V' n
  ext : ∀ q b, P q = some b → P' q = some b
  dom : ∀ q, (P' q).isSome ↔ (P q).isSome ∨ q <+: l
  old : ∀ q b, P q = some b → q ≠ l → V' q = V q
  new : ∀ q b, P' q = some b → P q = none → q ≠ l → V' q = nilS
  far : ∀ c, c < w.heap.size → (∀ q, P q ≠ some c) → (∀ q, M q ≠ some c) → w'.heap[c]? = w.heap[c]? ∧ (∀ q, P' q ≠ some c) ∧ (∀ q, M' q ≠ some c)
  bel : Below B w w'

set_option maxRecDepth 20000 in
set_option maxHeartbeats 4000000 in
theorem add_ok (cnt : Int) (A : Option Addr) (c : Nat) (l : List Int) (v : Value) (B n R : Nat) (P M : Path → Option Nat) (V : Path → Value) (w : World) (hw : ∀ z ∈ l, (Lit.int .i32 z).wf = true) (hn : n + l.length ≤ 1000000) (hl : l.length ≤ 1000)
    (hT : TrieAt (kN cnt) w B P M V n) (hR : P [] = some R) (hB : B ≤ w.heap.size) (hV : ∀ q b, P q = some b → ∃ A n c, V q = .slice A n c) (hv : ∃ A n c, v = .slice A n c)
    (hL : Has w w.heap.size A (l.map (Value.int .i32))) (hLf : ∀ a, A = some a → (∀ q, P q ≠ some a.block) ∧ (∀ q, M q ≠ some a.block)) :
    Calls Tryd.prog 38 #[.pointer (some ⟨R, 0, none⟩), .slice A l.length c, v] w fun e w' =>
      ∃ P' M' V', AddR cnt B (n + l.length) w w' P M V P' M' V' l ∧ ∃ A0 n0 c0, hadV P V l = .slice A0 n0 c0 ∧ ((A0 = none ∧ e = .returned (.bool true) ∧ V' l = v) ∨ (A0 ≠ none ∧ e = .returned (.bool false) ∧ V' l = V l)) := by
  obtain ⟨vA, vn, vc, rfl⟩ := hv
  have nes := neslice
  have HT := Lib.hid hT
  have HV := Lib.hid hV
  have HW := Lib.hid hw
  have HL := Lib.hid hL
  have HLf := Lib.hid hLf
  have HR := Lib.hid hR
  clear hT hV hw hL hLf hR
  go_enter Tryd.func38, Tryd.ntmps38
  go_wp2
  go_loopw [0, 11] (fun nv i wr => ∃ (k : Nat) (P' M' : Path → Option Nat) (V' : Path → Value) (b : Nat), k ≤ l.length ∧ i = .int .i64 k ∧ nv = .pointer (some ⟨b, 0, none⟩) ∧ Hid (P' (l.take k) = some b) ∧ Hid (GrowT cnt B n w wr P M V P' M' V' l k)) (fun _ i _ => l.length - (intOf i).toNat)
  case atStart => exact ⟨0, P, M, V, R, by omega, rfl, rfl, HR, Lib.hid (GrowT.start HT.out l HR.out)⟩
  case round =>
    obtain ⟨k, P', M', V', b, hk, rfl, rfl, HP, HG⟩ := hrel
    have hsz := HG.out.bel.size
    have hBw : B ≤ wr.heap.size := by omega
    by_cases hlt : k < l.length
    · obtain ⟨ab, off, rfl, hab, hca⟩ := HL.out.at_int hlt
      have hfa := HLf.out _ rfl
      have hcc : wr.cell? ⟨ab, off + k, none⟩ = some (.int .i32 l[k]) := by
        rw [← hca]; unfold World.cell?; rw [(HG.out.far ab hab hfa.1 hfa.2).1]
      have hxw := HW.out _ (List.getElem_mem hlt)
      have HSTEP := Lib.hid (fun (w' : World) (P'' M'' : Path → Option Nat) (V'' : Path → Value) (c : Nat) g hc => HG.out.step (w' := w') (P'' := P'') (M'' := M'') (V'' := V'') hlt (c := c) g hc)
      have hTK : l.take (k + 1) = l.take k ++ [l[k]] := by rw [List.take_add_one, List.getElem?_eq_getElem hlt]; rfl
      have cg := grown_ok cnt B (n + k) b P' M' V' (l.take k) l[k] wr hxw (by omega) HG.out.tri HP.out hBw
      obtain ⟨X, hX⟩ : ∃ X, l[k] = X := ⟨_, rfl⟩
      rw [hX] at hcc hxw hTK cg
      simp only [hX] at HSTEP
      obtain ⟨p, hp⟩ : ∃ p, l.take k = p := ⟨_, rfl⟩
      rw [hp] at HP hTK cg
      simp only [hp] at HSTEP
      have HTK := Lib.hid hTK
      clear hX hp hTK hca hab hfa
      go_wp2_with (go_at_call 60; refine cg.mono ?_; rintro e w5 ⟨c5, P5, M5, V5, rfl, hc5, hg5⟩)
      have HN2 : Hid (P5 (l.take (k + 1)) = some c5) := Lib.hid (by rw [HTK.out]; exact hc5)
      have HS2 := Lib.hid (HSTEP.out w5 P5 M5 V5 c5 hg5 hc5)
      clear hg5 hc5
      go_roundw
      case rel => exact ⟨k + 1, P5, M5, V5, c5, by omega, by go_num, rfl, HN2, HS2⟩
      case measure => simp [intOf]; omega
    · obtain rfl : k = l.length := by omega
      have hP := HP.out
      rw [List.take_length] at hP
      have hc1 := HG.out.tri.cell1 hP
      have hVl : V' l = hadV P V l := by
        unfold hadV
        cases e : P l with
        | none =>
          rw [if_pos rfl]
          rcases HG.out.dom l b hP with h1 | ⟨_, _, h4⟩
          · rw [e] at h1; cases h1
          · exact h4
        | some b0 => rw [if_neg (by simp), HG.out.val l b0 e]
      have hform : ∃ A0 n0 c0, hadV P V l = .slice A0 n0 c0 := by
        unfold hadV
        cases e : P l with
        | none => exact ⟨none, 0, 0, rfl⟩
        | some b0 => rw [if_neg (by simp)]; exact HV.out l b0 e
      obtain ⟨A0, n0, c0, hF⟩ := hform
      rw [hVl, hF] at hc1
      have HF := Lib.hid hF
      have HVL := Lib.hid hVl
      have hdom : ∀ q, (P' q).isSome ↔ (P q).isSome ∨ q <+: l := fun q => by
        constructor
        · intro h
          obtain ⟨c1, hc⟩ := Option.isSome_iff_exists.1 h
          rcases HG.out.dom q c1 hc with h1 | ⟨_, h2, _⟩
          · rw [h1]; exact Or.inl rfl
          · exact Or.inr h2
        · rintro (h | h)
          · obtain ⟨c1, hc⟩ := Option.isSome_iff_exists.1 h
            rw [HG.out.old q c1 hc]; rfl
          · exact HG.out.all q h h.length_le
      have hnew : ∀ q c1, P' q = some c1 → P q = none → V' q = nilS := fun q c1 h1 h2 => by
        rcases HG.out.dom q c1 h1 with h3 | ⟨_, _, h4⟩
        · rw [h2] at h3; cases h3
        · exact h4
      have HDOM := Lib.hid hdom
      have HNEW := Lib.hid hnew
      have hfr := (HG.out.tri.node l b hP).2.noFrost 1
      have hPH := Lib.hid hP
      clear hVl hF hdom hnew hP
      cases A0 with
      | none =>
        have HR1 : Hid (AddR cnt B (n + l.length) w (wr.setCell ⟨b, 1, none⟩ (.slice vA vn vc)) P M V P' M' (atP V' l (.slice vA vn vc)) l) := Lib.hid
          ⟨HG.out.tri.setVal hPH.out _, HG.out.old, HDOM.out, fun q c1 h1 h2 => by rw [atP_other _ _ h2]; exact HG.out.val q c1 h1, fun q c1 h1 h2 h3 => by rw [atP_other _ _ h3]; exact HNEW.out q c1 h1 h2,
            fun c1 h1 h2 h3 => ⟨(Below.heap_setCell _ _ _ _ (fun e => (HG.out.far c1 h1 h2 h3).2.1 l (by rw [hPH.out, e]))).trans (HG.out.far c1 h1 h2 h3).1, (HG.out.far c1 h1 h2 h3).2⟩, HG.out.bel.setCell (p := ⟨b, 1, none⟩) (HG.out.tri.node l b hPH.out).1 _⟩
        go_wp2
        go_ret
        exact ⟨P', M', _, HR1.out, none, n0, c0, HF.out, Or.inl ⟨rfl, rfl, atP_same _ _ _⟩⟩
      | some a0 =>
        have HR1 : Hid (AddR cnt B (n + l.length) w wr P M V P' M' V' l) := Lib.hid
          ⟨HG.out.tri, HG.out.old, HDOM.out, fun q c1 h1 _ => HG.out.val q c1 h1, fun q c1 h1 h2 _ => HNEW.out q c1 h1 h2, HG.out.far, HG.out.bel⟩
        have HVV : Hid (V' l = V l) := Lib.hid (by
          rw [HVL.out]
          have := HF.out
          unfold hadV at this ⊢
          cases e : P l with
          | none =>
            rw [e, if_pos rfl] at this
            cases this
          | some b0 => rw [if_neg (by simp)])
        go_wp2
        go_ret
        exact ⟨P', M', V', HR1.out, some a0, n0, c0, HF.out, Or.inr ⟨by simp, rfl, HVV.out⟩⟩
end Go.Proofs.YtekjejbcdnghjaaDoor
