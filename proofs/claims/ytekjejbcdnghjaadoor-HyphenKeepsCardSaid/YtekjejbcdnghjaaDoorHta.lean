/-
  A tree of nodes in memory whose children lie in maps: 'TrieAt': which path leads to which block, where each node's map lies, what value each node bears. What steps make of it: a map made, a child put in, a value stored. (A node's first two cells are its map and its value; what follows them, and the block's type, K tells: the root may lie in a greater struct.) No condition.
-/
import Derived.Test.YtekjejbcdnghjaaDoorMpt
import Derived.Test.YtekjejbcdnghjaaDoorBase
import Derived.Test.YtekjejbcdnghjaaDoorOwn
set_option linter.unusedVariables false
set_option linter.unusedSimpArgs false
namespace Go.Proofs.YtekjejbcdnghjaaDoor
open Go.ChangeShapes Go.WideShapes Go.ChangeAt Go.RowKit Go.Sort

theorem At.setOf {w : World} {g : Nat} {t : TypeId} {cs : Array Value} (h : At w g t cs) (j : Nat) (v : Value) : At (w.setCell ⟨g, j, none⟩ v) g t (cs.setIfInBounds j v) := by
  have hlt := h.lt
  unfold At at *
  have h' : w.heap[g] = .cells cs t (0, 0) := by simpa [Array.getElem?_eq_getElem hlt] using h
  show (w.heap.modify g _)[g]? = _
  rw [Array.getElem?_eq_getElem (by simpa using hlt), Array.getElem_modify_self, h']
  rfl
theorem At.elsewhere {w : World} {g : Nat} {t : TypeId} {cs : Array Value} (h : At w g t cs) (p : Addr) (v : Value) (hp : g ≠ p.block) : At (w.setCell p v) g t cs := by
  unfold At
  rw [Below.heap_setCell _ _ _ _ hp]; exact h
theorem At.noFrost {w : World} {g : Nat} {t : TypeId} {cs : Array Value} (h : At w g t cs) (j : Nat) : w.frozen? ⟨g, j, none⟩ = false := by
  unfold At at h
  simp [World.frozen?, h]
theorem At.same {w w' : World} {g : Nat} {t : TypeId} {cs : Array Value} (h : At w g t cs) (e : w'.heap[g]? = w.heap[g]?) : At w' g t cs := e.trans h

abbrev Path := List Int
/-- which path leads to which block (P), where each node's map lies (M), what value each node bears (V); n bounds the maps' entries -/
structure TrieAt (K : Path → TypeId × List Value) (w : World) (B : Nat) (P M : Path → Option Nat) (V : Path → Value) (n : Nat) : Prop where
  node : ∀ p b, P p = some b → B ≤ b ∧ At w b (K p).1 ⟨.map (M p) :: V p :: (K p).2⟩
  kids : ∀ p m, M p = some m → B ≤ m ∧ MapP Tryd.prog 21 .i32 w m n (fun x => P (p ++ [x]))
  bare : ∀ p, M p = none → ∀ x, P (p ++ [x]) = none
  inj : ∀ p q b, P p = some b → P q = some b → p = q
  minj : ∀ p q m, M p = some m → M q = some m → p = q
  lone : ∀ p, P p = none → M p = none
section
variable {K : Path → TypeId × List Value} {w w' : World} {B n : Nat} {P M : Path → Option Nat} {V : Path → Value}
theorem TrieAt.lt (h : TrieAt K w B P M V n) {p : Path} {b : Nat} (hp : P p = some b) : b < w.heap.size := (h.node p b hp).2.lt
theorem TrieAt.mlt (h : TrieAt K w B P M V n) {p : Path} {m : Nat} (hp : M p = some m) : m < w.heap.size := (h.kids p m hp).2.lt
theorem TrieAt.apart (h : TrieAt K w B P M V n) {p q : Path} {b m : Nat} (hp : P p = some b) (hq : M q = some m) : b ≠ m := fun e => by
  subst e
  obtain ⟨es, clock, h1⟩ := (h.kids q b hq).2.is_map
  have h2 := (h.node p b hp).2
  unfold At at h2
  rw [h1] at h2
  cases h2
/-- its blocks stay as they are -/
theorem TrieAt.stays (h : TrieAt K w B P M V n) (hk : ∀ b, b < w.heap.size → B ≤ b → w'.heap[b]? = w.heap[b]?) : TrieAt K w' B P M V n :=
  ⟨fun p b hp => ⟨(h.node p b hp).1, (h.node p b hp).2.same (hk b (h.lt hp) (h.node p b hp).1)⟩, fun p m hp => ⟨(h.kids p m hp).1, (h.kids p m hp).2.block (hk m (h.mlt hp) (h.kids p m hp).1)⟩, h.bare, h.inj, h.minj, h.lone⟩
theorem TrieAt.stays' (h : TrieAt K w B P M V n) {X : Nat} (hs : w.heap.size ≤ w'.heap.size) (hk : ∀ b, b < w.heap.size → b ≠ X → w'.heap[b]? = w.heap[b]?) (h1 : ∀ q, P q ≠ some X) (h2 : ∀ q, M q ≠ some X) : TrieAt K w' B P M V n :=
  ⟨fun p b hp => ⟨(h.node p b hp).1, (h.node p b hp).2.same (hk b (h.lt hp) fun e => h1 p (by rw [hp, e]))⟩, fun p m hp => ⟨(h.kids p m hp).1, (h.kids p m hp).2.block (hk m (h.mlt hp) fun e => h2 p (by rw [hp, e]))⟩, h.bare, h.inj, h.minj, h.lone⟩
theorem TrieAt.below (h : TrieAt K w B P M V n) (hb : Below w.heap.size w w') : TrieAt K w' B P M V n := h.stays fun b hb' _ => hb.block b hb'
theorem TrieAt.more (h : TrieAt K w B P M V n) {n' : Nat} (hn : n ≤ n') : TrieAt K w B P M V n' := ⟨h.node, fun p m hp => ⟨(h.kids p m hp).1, (h.kids p m hp).2.mono hn⟩, h.bare, h.inj, h.minj, h.lone⟩
theorem TrieAt.cell0 (h : TrieAt K w B P M V n) {p : Path} {b : Nat} (hp : P p = some b) : w.cell? ⟨b, 0, none⟩ = some (.map (M p)) := (h.node p b hp).2.cell 0 _ rfl
theorem TrieAt.cell1 (h : TrieAt K w B P M V n) {p : Path} {b : Nat} (hp : P p = some b) : w.cell? ⟨b, 1, none⟩ = some (V p) := (h.node p b hp).2.cell 1 _ rfl

/-- one value of a function of paths, replaced -/
def atP {α : Type} (f : Path → α) (p : Path) (v : α) : Path → α := fun q => if q = p then v else f q
theorem atP_same {α : Type} (f : Path → α) (p : Path) (v : α) : atP f p v p = v := if_pos rfl
theorem atP_other {α : Type} (f : Path → α) {p q : Path} (v : α) (h : q ≠ p) : atP f p v q = f q := if_neg h
theorem path_ne (p : Path) (x : Int) : p ++ [x] ≠ p := fun e => by have := congrArg List.length e; simp at this
theorem path_inj {p q : Path} {x y : Int} (h : p ++ [x] = q ++ [y]) : p = q ∧ x = y := by
  have := List.append_inj' h rfl
  exact ⟨this.1, by simpa using this.2⟩

/-- a node without a map gets one, empty, which lies in a block behind all others -/
theorem TrieAt.mkMap (h : TrieAt K w B P M V n) {p : Path} {b : Nat} (hp : P p = some b) (hm : M p = none) (hB : B ≤ w.heap.size) :
    TrieAt K ((w.alloc (.map #[] 0)).setCell ⟨b, 0, none⟩ (.map (some w.heap.size))) B P (atP M p (some w.heap.size)) V n := by
  have hold : ∀ c, c < w.heap.size → c ≠ b → ((w.alloc (.map #[] 0)).setCell ⟨b, 0, none⟩ (.map (some w.heap.size))).heap[c]? = w.heap[c]? := fun c hc hne => by
    rw [Below.heap_setCell _ _ _ _ hne, Below.heap_alloc _ _ _ hc]
  have hb := h.lt hp
  refine ⟨fun q c hq => ?_, fun q m hq => ?_, fun q hq x => ?_, h.inj, fun q r m hq hr => ?_, fun q hq => ?_⟩
  · obtain ⟨h1, h2⟩ := h.node q c hq
    refine ⟨h1, ?_⟩
    by_cases e : q = p
    · subst e
      rw [hp] at hq
      injection hq with hq
      subst hq
      rw [atP_same]
      exact (h2.alloc _).setOf 0 _
    · rw [atP_other _ _ e]
      refine h2.same (hold c h2.lt fun e2 => e (h.inj q p b (by rw [← e2]; exact hq) hp))
  · by_cases e : q = p
    · subst e
      rw [atP_same] at hq
      injection hq with hq
      subst hq
      refine ⟨hB, ?_⟩
      have h0 : MapP Tryd.prog 21 .i32 (w.alloc (.map #[] 0)) w.heap.size 0 (fun _ => none) := MapP.made w _ _ _
      have h1 := (h0.block (w' := (w.alloc (.map #[] 0)).setCell ⟨b, 0, none⟩ (.map (some w.heap.size))) (Below.heap_setCell _ _ _ _ (by show w.heap.size ≠ b; omega))).mono (Nat.zero_le n)
      have e2 : (fun x => P (q ++ [x])) = fun _ => none := funext fun x => h.bare q hm x
      rw [e2]
      exact h1
    · rw [atP_other _ _ e] at hq
      obtain ⟨h1, h2⟩ := h.kids q m hq
      exact ⟨h1, h2.block (hold m h2.lt (fun e2 => h.apart hp hq e2.symm))⟩
  · by_cases e : q = p
    · subst e; rw [atP_same] at hq; cases hq
    · rw [atP_other _ _ e] at hq; exact h.bare q hq x
  · by_cases e : q = p
    · by_cases e2 : r = p
      · rw [e, e2]
      · rw [e, atP_same] at hq
        rw [atP_other _ _ e2] at hr
        injection hq with hq
        subst hq
        exact absurd (h.mlt hr) (by omega)
    · rw [atP_other _ _ e] at hq
      by_cases e2 : r = p
      · rw [e2, atP_same] at hr
        injection hr with hr
        subst hr
        exact absurd (h.mlt hq) (by omega)
      · rw [atP_other _ _ e2] at hr
        exact h.minj q r m hq hr
  · by_cases e : q = p
    · subst e; rw [hp] at hq; cases hq
    · rw [atP_other _ _ e]; exact h.lone q hq

/-- a new node is put into a node's map -/
theorem TrieAt.newKid (h : TrieAt K w B P M V n) {p : Path} {b m c : Nat} {x : Int} {v : Value} (hp : P p = some b) (hm : M p = some m) (hx : P (p ++ [x]) = none) (hc : At w c (K (p ++ [x])).1 ⟨.map none :: v :: (K (p ++ [x])).2⟩) (hcB : B ≤ c) (hnew : ∀ q, P q ≠ some c)
    (hM : MapP Tryd.prog 21 .i32 w' m (n + 1) (fun y => if y = x then some c else P (p ++ [y]))) (hg : w.grownBy w' (some m)) :
    TrieAt K w' B (atP P (p ++ [x]) (some c)) M (atP V (p ++ [x]) v) (n + 1) := by
  have hold : ∀ d, d < w.heap.size → d ≠ m → w'.heap[d]? = w.heap[d]? := fun d hd hne => hg.block d hd (fun e => hne (by injection e))
  have hcm : c ≠ m := fun e => by
    subst e
    obtain ⟨es, clock, h1⟩ := (h.kids p c hm).2.is_map
    unfold At at hc
    rw [h1] at hc
    cases hc
  have hnone : M (p ++ [x]) = none := h.lone _ hx
  refine ⟨fun q d hq => ?_, fun q k hq => ?_, fun q hq y => ?_, fun q r d hq hr => ?_, h.minj, fun q hq => ?_⟩
  · by_cases e : q = p ++ [x]
    · subst e
      rw [atP_same] at hq
      injection hq with hq
      subst hq
      rw [atP_same, hnone]
      exact ⟨hcB, hc.same (hold c hc.lt hcm)⟩
    · rw [atP_other _ _ e] at hq
      rw [atP_other _ _ e]
      obtain ⟨h1, h2⟩ := h.node q d hq
      exact ⟨h1, h2.same (hold d h2.lt (h.apart hq hm))⟩
  · by_cases e : k = m
    · subst e
      obtain rfl : q = p := h.minj q p k hq hm
      refine ⟨(h.kids q k hm).1, ?_⟩
      have e2 : (fun y => atP P (q ++ [x]) (some c) (q ++ [y])) = fun y => if y = x then some c else P (q ++ [y]) := funext fun y => by
        by_cases e3 : y = x
        · subst e3; rw [atP_same, if_pos rfl]
        · rw [atP_other _ _ (fun e4 => e3 (path_inj e4).2), if_neg e3]
      rw [e2]
      exact hM
    · obtain ⟨h1, h2⟩ := h.kids q k hq
      refine ⟨h1, ?_⟩
      have e2 : (fun y => atP P (p ++ [x]) (some c) (q ++ [y])) = fun y => P (q ++ [y]) := funext fun y => by
        rw [atP_other]
        intro e4
        obtain ⟨rfl, _⟩ := path_inj e4
        rw [hq] at hm
        injection hm with hm
        exact e hm
      rw [e2]
      exact (h2.block (hold k h2.lt e)).mono (Nat.le_succ n)
  · rw [atP_other]
    · exact h.bare q hq y
    · intro e
      obtain ⟨rfl, _⟩ := path_inj e
      rw [hq] at hm
      cases hm
  · by_cases e : q = p ++ [x]
    · by_cases e2 : r = p ++ [x]
      · rw [e, e2]
      · rw [e, atP_same] at hq
        rw [atP_other _ _ e2] at hr
        injection hq with hq
        subst hq
        exact absurd hr (hnew r)
    · rw [atP_other _ _ e] at hq
      by_cases e2 : r = p ++ [x]
      · rw [e2, atP_same] at hr
        injection hr with hr
        subst hr
        exact absurd hq (hnew q)
      · rw [atP_other _ _ e2] at hr
        exact h.inj q r d hq hr
  · by_cases e : q = p ++ [x]
    · rw [e, atP_same] at hq; cases hq
    · rw [atP_other _ _ e] at hq; exact h.lone q hq

/-- a node's value is stored -/
theorem TrieAt.setVal (h : TrieAt K w B P M V n) {p : Path} {b : Nat} (hp : P p = some b) (v : Value) : TrieAt K (w.setCell ⟨b, 1, none⟩ v) B P M (atP V p v) n := by
  have hold : ∀ c, c ≠ b → (w.setCell ⟨b, 1, none⟩ v).heap[c]? = w.heap[c]? := fun c hne => Below.heap_setCell _ _ _ _ hne
  refine ⟨fun q c hq => ?_, fun q m hq => ⟨(h.kids q m hq).1, (h.kids q m hq).2.block (hold m fun e => h.apart hp hq e.symm)⟩, h.bare, h.inj, h.minj, h.lone⟩
  obtain ⟨h1, h2⟩ := h.node q c hq
  refine ⟨h1, ?_⟩
  by_cases e : q = p
  · subst e
    rw [hp] at hq
    injection hq with hq
    subst hq
    rw [atP_same]
    exact h2.setOf 1 v
  · rw [atP_other _ _ e]
    exact h2.same (hold c fun e2 => e (h.inj q p b (by rw [← e2]; exact hq) hp))
/-- a tree of one node -/
theorem TrieAt.root {b : Nat} {v : Value} (hb : At w b (K []).1 ⟨.map none :: v :: (K []).2⟩) (hB : B ≤ b) : TrieAt K w B (fun p => if p = [] then some b else none) (fun _ => none) (fun _ => v) 0 := by
  refine ⟨fun p c hp => ?_, fun p m hm => (by cases hm), fun p _ x => if_neg (List.append_ne_nil_of_right_ne_nil p (List.cons_ne_nil x [])), fun p q c hp hq => ?_, fun p q m hm _ => (by cases hm), fun _ _ => rfl⟩
  · replace hp : (if p = [] then some b else none) = some c := hp
    by_cases e : p = []
    · rw [if_pos e] at hp; injection hp with hp; subst hp; subst e; exact ⟨hB, hb⟩
    · rw [if_neg e] at hp; cases hp
  · replace hp : (if p = [] then some b else none) = some c := hp
    replace hq : (if q = [] then some b else none) = some c := hq
    by_cases e : p = []
    · by_cases e2 : q = []
      · rw [e, e2]
      · rw [if_neg e2] at hq; cases hq
    · rw [if_neg e] at hp; cases hp
end
end Go.Proofs.YtekjejbcdnghjaaDoor
