/-
  For HyphenKeeps: one more pattern behind those that New takes; append of a whole slice of strings to one of the call's own; the pattern and the points of the chapter's example. No program beside the table of types. No condition.
-/
import Derived.Test.YtekjejbcdnghjaaDoorHrd
import Derived.Test.YtekjejbcdnghjaaDoorHls
import Derived.Laws.AppendOwnNone
set_option linter.unusedVariables false
set_option linter.unusedSimpArgs false
namespace Go.Proofs.YtekjejbcdnghjaaDoor
open Go.ChangeShapes Go.WideShapes Go.ChangeAt Go.RowKit

/-- one more pattern behind those that were taken -/
theorem newG_snoc : ∀ (zs : List ByteArray) (k : Nat) (acc acc' : List Pat) (k' : Nat), newG k acc zs = (acc', k', 0) → ∀ (s : ByteArray) (acc2 : List Pat) (k2 : Nat), newG k acc (zs ++ [s]) = (acc2, k2, 0) →
    ∃ p, patS s = some p ∧ acc2 = acc' ++ [p]
  | [], k, acc, acc', k', h, s, acc2, k2, h2 => by
    rw [newG] at h
    injection h with h _
    subst h
    rw [List.nil_append, newG] at h2
    cases e : patS s with
    | none => rw [e] at h2; simp at h2
    | some p =>
      rw [e] at h2
      simp only at h2
      split at h2
      · simp at h2
      · rw [newG] at h2
        injection h2 with h2 _
        exact ⟨p, rfl, h2.symm⟩
  | z :: r, k, acc, acc', k', h, s, acc2, k2, h2 => by
    rw [newG] at h
    rw [List.cons_append, newG] at h2
    cases e : patS z with
    | none => rw [e] at h; simp at h
    | some p =>
      rw [e] at h h2
      simp only at h h2
      split at h
      · simp at h
      · rename_i hn
        rw [if_neg hn] at h2
        exact newG_snoc r (k + 1) (acc ++ [p]) acc' k' h s acc2 k2 h2
theorem newS_snoc {zs : List ByteArray} {s : ByteArray} {acc acc2 : List Pat} {k k2 : Nat} (h : newS zs = (acc, k, 0)) (h2 : newS (zs ++ [s]) = (acc2, k2, 0)) : ∃ p, patS s = some p ∧ acc2 = acc ++ [p] := by
  unfold newS at h h2
  split at h
  · simp at h
  · split at h2
    · simp at h2
    · exact newG_snoc zs 0 [] acc k h s acc2 k2 h2

/-- a slice that reads as a list, its cells -/
theorem hasN_cells {α : Type} {R : Lay α} : ∀ (l : List α) (j : Nat) (u : Value), (cellsN R l)[j]? = some u → ∃ (i q : Nat) (x : α), l[i]? = some x ∧ (R.row x)[q]? = some u ∧ j = i * R.C + q
  | [], j, u, h => by simp [cellsN] at h
  | x :: l, j, u, h => by
    rw [cellsN_cons] at h
    rcases Nat.lt_or_ge j (R.row x).length with hj | hj
    · rw [List.getElem?_append_left hj] at h
      exact ⟨0, j, x, rfl, h, by simp⟩
    · rw [List.getElem?_append_right hj] at h
      obtain ⟨i, q, y, h1, h2, h3⟩ := hasN_cells l _ u h
      refine ⟨i + 1, q, y, by simpa using h1, h2, ?_⟩
      rw [R.len] at hj h3
      rw [Nat.succ_mul]; omega
theorem HasN.row {α : Type} {R : Lay α} {w : World} {B : Nat} {A : Option Addr} {l : List α} (h : HasN R w B A l) (ad : Addr) (hA : A = some ad) : ∀ j u, (cellsN R l)[j]? = some u → w.cell? (ad.add j) = some u := fun j u hu => by
  have hne : l ≠ [] := fun e => by subst e; simp [cellsN] at hu
  obtain ⟨b, off, e, _, hc⟩ := h hne
  rw [hA] at e
  injection e with e
  subst e
  obtain ⟨i, q, x, h1, h2, rfl⟩ := hasN_cells l j u hu
  rw [add_plain, ← Nat.add_assoc]
  exact hc i x h1 q u h2
/-- append of a slice that came in to a slice of the call's own -/
theorem wpList_pushallN {α : Type} {R : Lay α} {P : Program} {ops : Array Oper} {rest : List Oper} {o : Oper} {a : Act} {Q : Exit → Act → World → Prop} {e : TypeId} {bytes : Nat} (hgd : o.guard = none) (s x : Operand) (t : TypeId)
    (ho : o.op = .call { callee := .builtin .append, args := #[s, x], argTypes := #[t, t] }) (z : Value)
    (ht : P.underlying t = some (.slice e)) (hi : (P.info? e).map (fun i => (i.zero, i.size, i.bytes)) = some (some z, R.C, bytes)) (hz : z.cells.size = R.C) (hC : 0 < R.C) (hby : bytes ≤ 128)
    (B : Nat) (v : Value) (l m : List α) (wr : World) (A : Option Addr) (n c : Nat) (hnm : n = m.length) (hA : A = none → c = 0) (hh : HasN R wr wr.heap.size A m) (hown : MineN R e wr B v l) (hs : a.eval s = v) (hx : a.eval x = .slice A n c)
    (hB : B ≤ wr.heap.size) (hn : l.length ≤ 100000) (hm : m.length ≤ 100000)
    (h : ∀ v' w', MineN R e w' B v' (l ++ m) → Below B wr w' → wpList P ops Q rest (a.put o.dst v') w') : wpList P ops Q (o :: rest) a wr := by
  subst hnm
  obtain ⟨i0, hi', hz0, hz1, hz2⟩ := info_parts hi
  cases A with
  | none =>
    have hc := hA rfl
    subst hc
    have hy : m = [] := by
      rcases m with _ | ⟨y, m⟩
      · rfl
      · exfalso
        obtain ⟨b, off, e1, _⟩ := hh (by simp)
        cases e1
    subst hy
    refine wpList_append_own_none hgd s x t ho B e i0 R.C ht hi' v l.length _ hs hown hx ?_
    exact h v wr (by rw [List.append_nil]; exact hown) (Below.refl _ _)
  | some ad =>
    have hb : (l.length + m.length) * bytes ≤ 140737488355328 := by
      have : (l.length + m.length) * bytes ≤ 200000 * 128 := Nat.mul_le_mul (by omega) hby
      omega
    refine wpList_append_own (P := P) _ hgd s x t ho B e i0 z R.C bytes ht hi' hz0 hz1 hz2 hz hC v l.length _ hs hown ad m.length c (cellsN R m) hx (length_cellsN m) (hh.row ad rfl)
      (by intro u hu
          unfold cellsN at hu
          obtain ⟨y, _, hy⟩ := List.mem_flatMap.1 hu
          exact R.one y u hy)
      (by unfold maxLen; omega) hb hB fun v' w1 h1 hg _ => ?_
    have hg2 : Below B wr w1 := (Below.refl _ _).grown hg hB fun j hj => (World.ownsRow.lt hown j hj).1
    refine h v' w1 ?_ hg2
    unfold MineN
    rw [cellsN_append, List.length_append]
    exact h1

/-- the chapter's example -/
theorem new_alive : newS [⟨#[49, 98]⟩] = ([([98], [1, 0])], 0, 0) := by decide +kernel
theorem contr_alive (j : Nat) (c : Int) : Contr [([98], [1, 0])] (dotsW [97, 97, 98, 97, 97]) j c ↔ (j = 3 ∧ c = 1) ∨ (j = 4 ∧ c = 0) := by
  have ht : dotsW [97, 97, 98, 97, 97] = [46, 97, 97, 98, 97, 97, 46] := by decide +kernel
  unfold Contr
  rw [ht]
  constructor
  · rintro ⟨p, hp, a, k, h1, h2, h3, rfl⟩
    rw [List.mem_singleton.1 hp] at h2 h3
    have ha : a = 3 := by
      have : a = 0 ∨ a = 1 ∨ a = 2 ∨ a = 3 ∨ a = 4 ∨ a = 5 ∨ a = 6 := by simp at h1; omega
      rcases this with rfl | rfl | rfl | rfl | rfl | rfl | rfl
      · exact absurd h2 (by decide)
      · exact absurd h2 (by decide)
      · exact absurd h2 (by decide)
      · rfl
      · exact absurd h2 (by decide)
      · exact absurd h2 (by decide)
      · exact absurd h2 (by decide)
    subst ha
    match k, h3 with
    | 0, h3 => simp at h3; left; exact ⟨rfl, h3.symm⟩
    | 1, h3 => simp at h3; right; exact ⟨rfl, h3.symm⟩
    | k + 2, h3 => simp at h3
  · rintro (⟨rfl, rfl⟩ | ⟨rfl, rfl⟩)
    · exact ⟨_, List.mem_singleton.2 rfl, 3, 0, by decide, by decide, rfl, rfl⟩
    · exact ⟨_, List.mem_singleton.2 rfl, 3, 1, by decide, by decide, rfl, rfl⟩
theorem points_alive {r : List Int} (h : PointsS [([98], [1, 0])] [97, 97, 98, 97, 97] r) : r = [2] := by
  refine h.one ?_
  unfold PointsS
  rw [if_neg (by decide)]
  refine ⟨[0, 0, 0, 1, 0, 0, 0, 0], by decide, ?_, by decide +kernel⟩
  intro j x hx
  have hj : j < 8 := (List.getElem?_eq_some_iff.1 hx).1
  have : j = 0 ∨ j = 1 ∨ j = 2 ∨ j = 3 ∨ j = 4 ∨ j = 5 ∨ j = 6 ∨ j = 7 := by omega
  rcases this with rfl | rfl | rfl | rfl | rfl | rfl | rfl | rfl <;> simp at hx <;> subst hx <;>
    refine ⟨by decide, fun c hc => ?_, ?_⟩ <;> first
    | (have := (contr_alive _ _).1 hc; omega)
    | (left; rfl)
    | (right; exact (contr_alive _ _).2 (.inl ⟨rfl, rfl⟩))
/-- digits of patterns are not below nothing -/
theorem ok_digits {acc : List Pat} (h : ∀ p ∈ acc, OkP p.1 p.2) : ∀ q ∈ acc, ∀ d ∈ q.2, 0 ≤ d := fun q hq d hd => ((h q hq).digits d hd).1
theorem even_digits {l d : List Int} (h : OkP l d) (he : evenB d = true) : ∀ x ∈ d, x % 2 = 0 := fun x hx => by
  unfold evenB at he
  have h1 := List.all_eq_true.1 he x hx
  have h2 := (h.digits x hx).1
  rw [decide_eq_true_eq, Int.tmod_eq_emod_of_nonneg h2] at h1
  exact h1
/-- strings in memory as elements of one cell -/
def LSt : Lay ByteArray := ⟨fun s => [.string s], 1, fun _ => rfl, fun s u hu => by simp at hu; subst hu; rfl⟩
theorem infoSt : (Tryd.prog.info? 9).map (fun i => (i.zero, i.size, i.bytes)) = some (some (.string ⟨#[]⟩), LSt.C, 16) := by kernel_rfl
theorem has_strs_of {w : World} {B : Nat} {A : Option Addr} {l : List ByteArray} (h : HasN LSt w B A l) : Has w B A (l.map Value.string) := fun hne => by
  obtain ⟨b, off, e, hb, hc⟩ := h (fun e => hne (by rw [e]; rfl))
  refine ⟨b, off, e, hb, fun j u hu => ?_⟩
  rw [List.getElem?_map, Option.map_eq_some_iff] at hu
  obtain ⟨s, hs, rfl⟩ := hu
  have := hc j s hs 0 _ rfl
  have e1 : off + j * LSt.C + 0 = off + j := by show off + j * 1 + 0 = off + j; omega
  rwa [e1] at this
theorem strs_hasN {w : World} {B : Nat} {A : Option Addr} {l : List ByteArray} (h : Has w B A (l.map Value.string)) : HasN LSt w B A l := fun hne => by
  obtain ⟨b, off, e, hb, hc⟩ := h (fun e => hne (by simpa using e))
  refine ⟨b, off, e, hb, fun i x hx q u hu => ?_⟩
  cases q with
  | succ q => simp [LSt] at hu
  | zero =>
    simp [LSt] at hu
    subst hu
    have := hc i (.string x) (by rw [List.getElem?_map, hx]; rfl)
    have e1 : off + i * LSt.C + 0 = off + i := by show off + i * 1 + 0 = off + i; omega
    rw [e1]; exact this
theorem has_strlit (w : World) (s : ByteArray) (e : TypeId) : Has (w.alloc (.cells #[.string s] e)) (w.alloc (.cells #[.string s] e)).heap.size (some ⟨w.heap.size, 0, none⟩) ([s].map Value.string) := by
  have h := (MineN.one (R := LSt) (e := e) w w.heap.size s #[.string s] rfl (Nat.le_refl _)).has
  obtain ⟨A, c, hv, _, _, hh⟩ := h
  injection hv with hA _ _
  subst hA
  exact has_strs_of hh
theorem up_alloc (W : World) (o : Obj) : Below W.heap.size W (W.alloc o) := (Below.refl _ _).alloc (Nat.le_refl _) o
theorem up_drewN (W : World) (q : Nat) : Below W.heap.size W (W.drewN q) := below_drewN (Below.refl _ _) q
theorem great_wf {t : List Int} (h : ∀ z ∈ t, (Lit.int .i32 z).wf = true) : ∀ z ∈ t.map greatZ, (Lit.int .i32 z).wf = true := fun z hz => by
  obtain ⟨y, hy, rfl⟩ := List.mem_map.1 hz
  have := h y hy
  unfold greatZ
  split
  · rename_i hc
    simp [Lit.wf, IntKind.bits, IntKind.signed, IntKind.min, IntKind.max] at this ⊢
    omega
  · exact this
/-- numbers that rise: the place of one of them -/
theorem rise_lt {r : List Int} (h : r.Pairwise (· < ·)) {i j : Nat} (hij : i < j) (hj : j < r.length) : r[i] < r[j] := List.pairwise_iff_getElem.1 h i j (by omega) hj hij
theorem rise_find {r : List Int} (h : r.Pairwise (· < ·)) {z : Int} (hz : z ∈ r) {m : Nat} (hlow : ∀ q (hq : q < r.length), q < m → r[q] < z) (hat : ∀ hm : m < r.length, ¬ r[m] < z) : ∃ hm : m < r.length, r[m] = z := by
  obtain ⟨p, hp, rfl⟩ := List.mem_iff_getElem.1 hz
  have h1 : ¬ p < m := fun e => by have := hlow p hp e; omega
  have hm : m < r.length := by omega
  refine ⟨hm, ?_⟩
  have h2 := hat hm
  rcases Nat.lt_or_ge m p with e | e
  · exact absurd (rise_lt h e hp) h2
  · have : m = p := by omega
    subst this; rfl
end Go.Proofs.YtekjejbcdnghjaaDoor
