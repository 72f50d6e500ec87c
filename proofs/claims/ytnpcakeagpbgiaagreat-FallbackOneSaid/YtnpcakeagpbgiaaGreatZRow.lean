/-
  Slices whose elements are some cells each, whatever they are, in memory: 'HasN R' (reads as a list), 'MineN R' (the call's own, to be grown in place and cut), appending one element, and what stays as it was. No condition.
-/
import Derived.Test.YtnpcakeagpbgiaaGreatZOwn
set_option linter.unusedVariables false
set_option linter.unusedSimpArgs false
namespace Go.Proofs.YtnpcakeagpbgiaaGreat
open Go.ChangeShapes Go.WideShapes Go.ChangeAt Go.RowKit

/-- how an element lies in cells -/
structure Lay (α : Type) where
  row : α → List Value
  C : Nat
  len : ∀ x, (row x).length = C
  one : ∀ x, ∀ u ∈ row x, u.oneCell' = true
section
variable {α : Type} {R : Lay α}
def cellsN (R : Lay α) (l : List α) : List Value := l.flatMap R.row
theorem cellsN_cons (x : α) (l : List α) : cellsN R (x :: l) = R.row x ++ cellsN R l := by simp [cellsN]
theorem cellsN_append (l m : List α) : cellsN R (l ++ m) = cellsN R l ++ cellsN R m := by simp [cellsN]
theorem cellsN_one (x : α) : cellsN R [x] = R.row x := by simp [cellsN]
theorem length_cellsN : ∀ l : List α, (cellsN R l).length = l.length * R.C
  | [] => by simp [cellsN]
  | x :: l => by rw [cellsN_cons, List.length_append, length_cellsN l, R.len, List.length_cons, Nat.succ_mul]; omega
theorem cellsN_get : ∀ (l : List α) (i : Nat) (x : α), l[i]? = some x → ∀ q u, (R.row x)[q]? = some u → (cellsN R l)[i * R.C + q]? = some u
  | [], _, _, h, _, _, _ => by simp at h
  | y :: l, 0, x, h, q, u, hq => by
    simp at h; subst h
    have hlt : q < (R.row y).length := (List.getElem?_eq_some_iff.1 hq).1
    rw [cellsN_cons, List.getElem?_append_left (by simpa using hlt)]
    simpa using hq
  | y :: l, i + 1, x, h, q, u, hq => by
    have ih := cellsN_get l i x (by simpa using h) q u hq
    have e : (i + 1) * R.C + q = R.C + (i * R.C + q) := by rw [Nat.succ_mul]; omega
    rw [cellsN_cons, e, List.getElem?_append_right (by rw [R.len]; omega), R.len, Nat.add_sub_cancel_left]
    exact ih
theorem cellsN_take : ∀ (l : List α) (k : Nat), cellsN R (l.take k) = (cellsN R l).take (k * R.C)
  | [], k => by simp [cellsN]
  | y :: l, 0 => by simp [cellsN]
  | y :: l, k + 1 => by
    rw [List.take_succ_cons, cellsN_cons, cellsN_cons, cellsN_take l k, show (k + 1) * R.C = (R.row y).length + k * R.C by rw [R.len, Nat.succ_mul]; omega, List.take_length_add_append]

/-- the slice headed at A reads as the list l, in a block below B -/
def HasN (R : Lay α) (w : World) (B : Nat) (A : Option Addr) (l : List α) : Prop :=
  l ≠ [] → ∃ b off, A = some ⟨b, off, none⟩ ∧ b < B ∧ ∀ (i : Nat) x, l[i]? = some x → ∀ q u, (R.row x)[q]? = some u → w.cell? ⟨b, off + i * R.C + q, none⟩ = some u
/-- the call's own -/
def MineN (R : Lay α) (e : TypeId) (w : World) (B : Nat) (v : Value) (l : List α) : Prop := w.ownsRow B e R.C v l.length (cellsN R l)
variable {w w' : World} {B B' : Nat} {A : Option Addr} {l : List α} {v : Value} {e : TypeId}
theorem HasN.nil_ : HasN R w B A [] := fun h => absurd rfl h
theorem HasN.at_ (h : HasN R w B A l) {i : Nat} (hi : i < l.length) : ∃ b off, A = some ⟨b, off, none⟩ ∧ b < B ∧ ∀ q u, (R.row l[i])[q]? = some u → w.cell? ⟨b, off + i * R.C + q, none⟩ = some u := by
  obtain ⟨b, off, e, hb, hc⟩ := h (fun e => by subst e; simp at hi)
  exact ⟨b, off, e, hb, hc i _ (List.getElem?_eq_getElem hi)⟩
theorem HasN.below (h : HasN R w B A l) (hb : Below B w w') : HasN R w' B A l := fun hne => by
  obtain ⟨b, off, e, hl, hc⟩ := h hne
  exact ⟨b, off, e, hl, fun i x hx q u hu => (hb.cell (p := ⟨b, off + i * R.C + q, none⟩) hl).trans (hc i x hx q u hu)⟩
theorem HasN.more (h : HasN R w B A l) (hB : B ≤ B') : HasN R w B' A l := fun hne => by
  obtain ⟨b, off, e, hl, hc⟩ := h hne
  exact ⟨b, off, e, by omega, hc⟩
theorem HasN.carry (h : HasN R w w.heap.size A l) (hb : Below w.heap.size w w') : HasN R w' w'.heap.size A l := (h.below hb).more hb.size
theorem HasN.up (h : HasN R w w.heap.size A l) (hu : Up w w') : HasN R w' w'.heap.size A l := h.carry hu.1
/-- its first k elements -/
theorem HasN.front (h : HasN R w B A l) (k : Nat) : HasN R w B A (l.take k) := fun hne => by
  obtain ⟨b, off, e, hl, hc⟩ := h (fun e => hne (by rw [e]; simp))
  refine ⟨b, off, e, hl, fun i x hx => hc i x ?_⟩
  rw [List.getElem?_take] at hx
  split at hx
  · exact hx
  · cases hx
/-- from its element k on -/
theorem HasN.drop {b off : Nat} (h : HasN R w B (some ⟨b, off, none⟩) l) (k : Nat) : HasN R w B (some ⟨b, off + k * R.C, none⟩) (l.drop k) := fun hne => by
  obtain ⟨b', off', e, hl, hc⟩ := h (fun e => hne (by rw [e]; simp))
  injection e with e; injection e with e1 e2; subst e1; subst e2
  refine ⟨b, off + k * R.C, rfl, hl, fun i x hx q u hu => ?_⟩
  rw [List.getElem?_drop] at hx
  have := hc (k + i) x hx q u hu
  rwa [show off + (k + i) * R.C + q = off + k * R.C + i * R.C + q by rw [Nat.add_mul]; omega] at this

theorem MineN.nil_ (e : TypeId) (w : World) (B : Nat) : MineN R e w B (.slice none 0 0) [] := World.ownsRow_nil _ _ _ _
theorem MineN.form (h : MineN R e w B v l) (hne : l ≠ []) : ∃ g c, v = .slice (some ⟨g, 0, none⟩) l.length c ∧ l.length ≤ c ∧ B ≤ g ∧ g < w.heap.size ∧
    ∀ (i : Nat) x, l[i]? = some x → ∀ q u, (R.row x)[q]? = some u → w.cell? ⟨g, 0 + i * R.C + q, none⟩ = some u := by
  have h' := h
  unfold MineN at h'
  have hlen : 0 < l.length := by cases l with | nil => exact absurd rfl hne | cons a l => simp
  rcases h'.2 with ⟨_, h0⟩ | ⟨g, cap, cur, hv, hB, hg, hc, _⟩
  · omega
  · subst hv
    obtain ⟨h1, h2⟩ := World.ownsRow.lt h' g rfl
    refine ⟨g, cap, rfl, hc, h1, h2, fun i x hx q u hu => ?_⟩
    have := World.ownsRow.cells h' (g := g) rfl _ u (cellsN_get l i x hx q u hu)
    rw [add_plain] at this
    rwa [show 0 + i * R.C + q = 0 + (i * R.C + q) by omega]
theorem MineN.has (h : MineN R e w B v l) : ∃ A c, v = .slice A l.length c ∧ l.length ≤ c ∧ Fresh B A ∧ HasN R w w.heap.size A l := by
  by_cases hne : l = []
  · subst hne
    rcases h.2 with ⟨rfl, _⟩ | ⟨g, cap, cur, rfl, hB, _⟩
    · exact ⟨none, 0, rfl, by simp, (fun a ha => by cases ha), HasN.nil_⟩
    · exact ⟨_, cap, rfl, by simp, (fun a ha => by injection ha with ha; subst ha; exact hB), HasN.nil_⟩
  · obtain ⟨g, c, hv, hc, h1, h2, hcell⟩ := h.form hne
    exact ⟨_, c, hv, hc, (fun a ha => by injection ha with ha; subst ha; exact h1), fun _ => ⟨g, 0, rfl, h2, hcell⟩⟩
theorem MineN.alloc (h : MineN R e w B v l) (o : Obj) : MineN R e (w.alloc o) B v l := World.ownsRow.alloc h o
theorem MineN.drewN (h : MineN R e w B v l) (n : Nat) : MineN R e (w.drewN n) B v l := h
theorem MineN.drew (h : MineN R e w B v l) : MineN R e w.drew B v l := h
theorem MineN.low (h : MineN R e w B v l) (hB : B' ≤ B) : MineN R e w B' v l := by
  refine ⟨h.1, ?_⟩
  rcases h.2 with ⟨a, b⟩ | ⟨g, cap, cur, a, b, r⟩
  · exact .inl ⟨a, b⟩
  · exact .inr ⟨g, cap, cur, a, Nat.le_trans hB b, r⟩
/-- its block stays as it is -/
theorem MineN.stays (h : MineN R e w B v l) (hk : ∀ b, v.ownBlock = some b → b < w.heap.size → w'.heap[b]? = w.heap[b]?) : MineN R e w' B v l := by
  refine ⟨h.1, ?_⟩
  rcases h.2 with ⟨a, b⟩ | ⟨g, cap, cur, a, b, hg, r⟩
  · exact .inl ⟨a, b⟩
  · exact .inr ⟨g, cap, cur, a, b, by rw [hk g (by rw [a]; rfl) (Array.getElem?_eq_some_iff.1 hg).1]; exact hg, r⟩
theorem MineN.up (h : MineN R e w B v l) (hu : Up w w') : MineN R e w' B v l := h.stays (fun b _ hb => hu.1.block b hb)
theorem MineN.own_lt (h : MineN R e w B v l) (b : Nat) (hb : v.ownBlock = some b) : B ≤ b ∧ b < w.heap.size := World.ownsRow.lt h b hb
/-- cut to its first k elements -/
theorem MineN.cut {g n c k : Nat} (h : MineN R e w B (.slice (some ⟨g, 0, none⟩) n c) l) (hk : k ≤ l.length) : MineN R e w B (.slice (some ⟨g, 0, none⟩) k c) (l.take k) := by
  have hl : (l.take k).length = k := by rw [List.length_take]; omega
  refine ⟨by rw [length_cellsN], ?_⟩
  rcases h.2 with ⟨a, b⟩ | ⟨g', cap, cur, a, b, hg, hc, hm, hs, ht⟩
  · cases a
  · injection a with a1 a2 a3
    injection a1 with a1
    injection a1 with a1
    subst a1; subst a3
    refine .inr ⟨g, c, cur, by rw [hl], b, hg, by omega, hm, hs, ?_⟩
    rw [hl, cellsN_take, ← ht, List.take_take, Nat.min_eq_left (Nat.mul_le_mul_right _ hk)]
/-- a slice that was written down: one element -/
theorem MineN.one (w : World) (B : Nat) (x : α) (cs : Array Value) (hcs : cs = (R.row x).toArray) (hB : B ≤ w.heap.size) : MineN R e (w.alloc (.cells cs e)) B (.slice (some ⟨w.heap.size, 0, none⟩) 1 1) [x] := by
  subst hcs
  have h := World.ownsRow_lit (base := B) (size := R.C) (e := e) w (R.row x).toArray 1 hB (by decide) (by simp [R.len])
  unfold MineN
  rw [cellsN_one]
  simpa using h
theorem MineN.none_ (w : World) (B : Nat) (hB : B ≤ w.heap.size) : MineN R e (w.alloc (.cells #[] e)) B (.slice (some ⟨w.heap.size, 0, none⟩) 0 0) [] :=
  World.ownsRow_made w #[] 0 hB (Nat.zero_le _) (by simp)
theorem cells_newN (w : World) (x : α) (e : TypeId) : ∀ j u, (R.row x)[j]? = some u → (w.alloc (.cells (R.row x).toArray e)).cell? ((⟨w.heap.size, 0, none⟩ : Addr).add j) = some u := by
  intro j u hj
  have hg : (w.alloc (.cells (R.row x).toArray e)).heap[w.heap.size]? = some (.cells (R.row x).toArray e (0, 0)) := heap_alloc_new _ _
  rw [add_plain]
  rw [cell_of_row _ _ _ _ _ _ hg]
  simpa using hj
/-- append of one element to a slice of the call's own, the new one in the newest block; what stays as it was -/
theorem wpList_pushN {P : Program} {ops : Array Oper} {rest : List Oper} {o : Oper} {a : Act} {Q : Exit → Act → World → Prop} {bytes : Nat} (hgd : o.guard = none) (s x : Operand) (t : TypeId)
    (ho : o.op = .call { callee := .builtin .append, args := #[s, x], argTypes := #[t, t] }) (z : Value)
    (ht : P.underlying t = some (.slice e)) (hi : (P.info? e).map (fun i => (i.zero, i.size, i.bytes)) = some (some z, R.C, bytes)) (hz : z.cells.size = R.C) (hC : 0 < R.C) (hby : bytes ≤ 128)
    (B : Nat) (v : Value) (l : List α) (y : α) (wr : World) (cs : Array Value) (hcs : cs = (R.row y).toArray) (hown : MineN R e wr B v l) (hs : a.eval s = v) (hx : a.eval x = .slice (some ⟨wr.heap.size, 0, none⟩) 1 1)
    (hB : B ≤ wr.heap.size) (hn : l.length ≤ 1000000)
    (h : ∀ v' w', MineN R e w' B v' (l ++ [y]) → Below B wr w' → (∀ b, b < wr.heap.size → v.ownBlock ≠ some b → v'.ownBlock ≠ some b ∧ w'.heap[b]? = wr.heap[b]?) → wpList P ops Q rest (a.put o.dst v') w') : wpList P ops Q (o :: rest) a (wr.alloc (.cells cs e)) := by
  subst hcs
  obtain ⟨i0, hi', hz0, hz1, hz2⟩ := info_parts hi
  have hb : (l.length + 1) * bytes ≤ 140737488355328 := by
    have : (l.length + 1) * bytes ≤ 1000001 * 128 := Nat.mul_le_mul (by omega) hby
    omega
  have hown' : (wr.alloc (.cells (R.row y).toArray e)).ownsRow B e R.C v l.length (cellsN R l) := World.ownsRow.alloc hown _
  refine wpList_append_lies (P := P) _ hgd s x t ho B e i0 z R.C bytes ht hi' hz0 hz1 hz2 hz hC v l.length _ hs hown' ⟨wr.heap.size, 0, none⟩ 1 1 (R.row y) hx (by rw [R.len, Nat.one_mul]) (cells_newN _ _ _) (R.one y)
    (by omega) (by unfold maxLen; omega) hb (by simp; omega) _ rfl fun g cap w1 h1 hg hl _ => ?_
  have hbel : Below B wr w1 := ((Below.refl B wr).alloc hB _).grown hg (by simp; omega) fun j hj => (World.ownsRow.lt hown j hj).1
  refine h _ w1 ?_ hbel fun b hb' hne => ⟨?_, ?_⟩
  · unfold MineN
    rw [cellsN_append, cellsN_one, List.length_append]
    simpa using h1
  · intro e1
    have e2 : some g = some b := e1
    injection e2 with e2
    subst e2
    rcases hl with hl | hl
    · exact hne hl
    · simp at hl; omega
  · rw [hg.block b (by simp; omega) (fun e1 => hne e1.symm)]
    exact Below.heap_alloc _ _ _ hb'
/-- the same at a step of a region that draws its order: the new element lies in some block -/
theorem stepN_push {P : Program} {ops : Array Oper} {o : Oper} {a : Act} {K : Act → World → Prop} {Q : Exit → Act → World → Prop} {E : Prop} {bytes : Nat} (hgd : o.guard = none) (s x : Operand) (t : TypeId)
    (ho : o.op = .call { callee := .builtin .append, args := #[s, x], argTypes := #[t, t] }) (z : Value)
    (ht : P.underlying t = some (.slice e)) (hi : (P.info? e).map (fun i => (i.zero, i.size, i.bytes)) = some (some z, R.C, bytes)) (hz : z.cells.size = R.C) (hC : 0 < R.C) (hby : bytes ≤ 128)
    (B : Nat) (v : Value) (l : List α) (y : α) (b : Nat) (hown : MineN R e w B v l) (hs : a.eval s = v) (hx : a.eval x = .slice (some ⟨b, 0, none⟩) 1 1) (hy : ∀ j u, (R.row y)[j]? = some u → w.cell? ((⟨b, 0, none⟩ : Addr).add j) = some u)
    (hB : B ≤ w.heap.size) (hn : l.length ≤ 1000000)
    (h : ∀ v' w', MineN R e w' B v' (l ++ [y]) → Below B w w' → (∀ k, k < w.heap.size → v.ownBlock ≠ some k → v'.ownBlock ≠ some k ∧ w'.heap[k]? = w.heap[k]?) → K (a.put o.dst v') w') : if Region.wanted o (yielded ops a.tmps) = true then Oper.wp P o a w K Q else E := by
  obtain ⟨i0, hi', hz0, hz1, hz2⟩ := info_parts hi
  have hb : (l.length + 1) * bytes ≤ 140737488355328 := by
    have : (l.length + 1) * bytes ≤ 1000001 * 128 := Nat.mul_le_mul (by omega) hby
    omega
  refine step_append_lies (P := P) w hgd s x t ho B e i0 z R.C bytes ht hi' hz0 hz1 hz2 hz hC v l.length _ hs hown ⟨b, 0, none⟩ 1 1 (R.row y) hx (by rw [R.len, Nat.one_mul]) hy (R.one y)
    (by omega) (by unfold maxLen; omega) hb hB _ rfl fun g cap w1 h1 hg hl _ => ?_
  refine h _ w1 ?_ ((Below.refl B w).grown hg hB fun j hj => (World.ownsRow.lt hown j hj).1) fun k hk hne => ⟨?_, hg.block k hk (fun e1 => hne e1.symm)⟩
  · unfold MineN
    rw [cellsN_append, cellsN_one, List.length_append]
    simpa using h1
  · intro e1
    have e2 : some g = some k := e1
    injection e2 with e2
    subst e2
    rcases hl with hl | hl
    · exact hne hl
    · omega
end
end Go.Proofs.YtnpcakeagpbgiaaGreat
