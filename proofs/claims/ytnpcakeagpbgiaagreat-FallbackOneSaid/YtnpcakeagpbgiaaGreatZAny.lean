/-
  Arguments of whatever type is built of integers, bools, strings, slices and structs, one in another to any depth: 'Shp' says what a type looks like, 'Shp.Dat' what a value of it holds (a slice: where it is headed, its room, its elements), 'Shp.row' its cells,
  'Lies w B s d' that what d's slices hold lies in memory in blocks below B. 'open_any' opens an argument. No condition.
-/
import Derived.Test.YtnpcakeagpbgiaaGreatZRow
import Derived.Deep.Slices
import Derived.Deep.Fields
import Derived.ChangeSame
set_option linter.unusedVariables false
set_option linter.unusedSimpArgs false
namespace Go.Proofs.YtnpcakeagpbgiaaGreat
open Go.ChangeShapes Go.WideShapes Go.ChangeAt Go.RowKit Go.Deep

/-- what a type looks like -/
inductive Shp where
  | int (k : IntKind) | bool | str
  | sl (s : Shp)
  | nil | con (a r : Shp)
/-- a slice: where it is headed, its room, its elements -/
structure Sl (α : Type) where
  A : Option Addr
  c : Nat
  l : List α
@[reducible] def Shp.Dat : Shp → Type
  | .int _ => Int
  | .bool => Bool
  | .str => ByteArray
  | .sl s => Sl s.Dat
  | .nil => Unit
  | .con a r => a.Dat × r.Dat
def Shp.size : Shp → Nat
  | .int _ => 1
  | .bool => 1
  | .str => 1
  | .sl _ => 1
  | .nil => 0
  | .con a r => a.size + r.size
def Shp.row : (s : Shp) → s.Dat → List Value
  | .int k, z => [.int k z]
  | .bool, b => [.bool b]
  | .str, s => [.string s]
  | .sl _, x => [.slice x.A x.l.length x.c]
  | .nil, _ => []
  | .con a r, x => a.row x.1 ++ r.row x.2
theorem Shp.row_len : ∀ (s : Shp) (x : s.Dat), (s.row x).length = s.size
  | .int _, _ => rfl
  | .bool, _ => rfl
  | .str, _ => rfl
  | .sl _, _ => rfl
  | .nil, _ => rfl
  | .con a r, x => by
    show (a.row x.1 ++ r.row x.2).length = a.size + r.size
    rw [List.length_append, a.row_len, r.row_len]
theorem Shp.row_one : ∀ (s : Shp) (x : s.Dat), ∀ u ∈ s.row x, u.oneCell' = true
  | .int _, _, u, h => by simp only [Shp.row, List.mem_singleton] at h; subst h; rfl
  | .bool, _, u, h => by simp only [Shp.row, List.mem_singleton] at h; subst h; rfl
  | .str, _, u, h => by simp only [Shp.row, List.mem_singleton] at h; subst h; rfl
  | .sl _, _, u, h => by simp only [Shp.row, List.mem_singleton] at h; subst h; rfl
  | .nil, _, u, h => by cases h
  | .con a r, x, u, h => by
    rcases List.mem_append.1 h with h | h
    · exact a.row_one _ u h
    · exact r.row_one _ u h
/-- as a layout -/
def Shp.lay (s : Shp) : Lay s.Dat := ⟨s.row, s.size, s.row_len, s.row_one⟩
/-- what the slices hold lies in memory, below B -/
def Lies (w : World) (B : Nat) : (s : Shp) → s.Dat → Prop
  | .int k, z => (Lit.int k z).wf = true
  | .bool, _ => True
  | .str, s => s.size ≤ 9223372036854775807
  | .sl s, x => (x.l.length ≤ 9223372036854775807 ∧ x.l.length ≤ x.c ∧ (x.A = none → x.c = 0)) ∧ HasN s.lay w B x.A x.l ∧ ∀ y ∈ x.l, Lies w B s y
  | .nil, _ => True
  | .con a r, x => Lies w B a x.1 ∧ Lies w B r x.2
theorem Lies.below {w w' : World} {B : Nat} (hb : Below B w w') : ∀ {s : Shp} {x : s.Dat}, Lies w B s x → Lies w' B s x
  | .int _, _, h => h
  | .bool, _, h => h
  | .str, _, h => h
  | .sl _, _, h => ⟨h.1, h.2.1.below hb, fun y hy => Lies.below hb (h.2.2 y hy)⟩
  | .nil, _, h => h
  | .con _ _, _, h => ⟨Lies.below hb h.1, Lies.below hb h.2⟩
theorem Lies.more {w : World} {B B' : Nat} (hB : B ≤ B') : ∀ {s : Shp} {x : s.Dat}, Lies w B s x → Lies w B' s x
  | .int _, _, h => h
  | .bool, _, h => h
  | .str, _, h => h
  | .sl _, _, h => ⟨h.1, h.2.1.more hB, fun y hy => Lies.more hB (h.2.2 y hy)⟩
  | .nil, _, h => h
  | .con _ _, _, h => ⟨Lies.more hB h.1, Lies.more hB h.2⟩
theorem Lies.carry {w w' : World} {s : Shp} {x : s.Dat} (h : Lies w w.heap.size s x) (hb : Below w.heap.size w w') : Lies w' w'.heap.size s x := (h.below hb).more hb.size
theorem Lies.up {w w' : World} {s : Shp} {x : s.Dat} (h : Lies w w.heap.size s x) (hu : Up w w') : Lies w' w'.heap.size s x := h.carry hu.1
/-- does a type look so? -/
def fits (P : Program) : Shp → TypeId ⊕ (Nat × List Field) → Bool
  | .int k, .inl t => match P.underlying t with
    | some (.int k') => decide (k' = k)
    | _ => false
  | .bool, .inl t => match P.underlying t with
    | some .bool => true
    | _ => false
  | .str, .inl t => match P.underlying t with
    | some .string => true
    | _ => false
  | .sl s, .inl t => match P.underlying t with
    | some (.slice e) => decide (0 < s.size) && decide (P.cellsOf e = s.size) && fits P s (.inl e)
    | _ => false
  | .con a r, .inl t => match P.underlying t with
    | some (.struct fs) => match fs.toList with
      | f :: fs' => decide (P.cellsOf t = a.size + r.size) && decide (f.offset = 0) && decide (P.cellsOf f.type = a.size) && fits P a (.inl f.type) && fits P r (.inr (a.size, fs'))
      | [] => false
    | _ => false
  | .con a r, .inr (n, f :: fs') => decide (f.offset = n) && decide (P.cellsOf f.type = a.size) && fits P a (.inl f.type) && fits P r (.inr (n + a.size, fs'))
  | .nil, .inr (_, []) => true
  | _, _ => false

section
variable {H : Type} {enc : TypeId × Value → H} {P : Program} {W : World} {held : Bool}
theorem row_block {a : Addr} {n b off : Nat} (hn : 0 < n) (ha : a = ⟨b, off, none⟩) : MemPlace.cell b off ∈ MemPlace.row a n := by
  subst ha
  exact MemPlace.mem_row.2 ⟨0, hn, by simp⟩
theorem open_both : ∀ (s : Shp),
    (∀ {t : TypeId} {fuel : Nat} {cs : List Value} {x : DataW H × List MemPlace}, fits P s (.inl t) = true → DataW.trod enc P W 0 (fun _ => true) held fuel t cs = some x → (∀ p ∈ x.2, p.block < W.heap.size) →
      ∃ d : s.Dat, cs = s.row d ∧ Lies W W.heap.size s d) ∧
    (∀ {n fuel : Nat} {fs : List Field} {cs : List Value} {xs : List (DataW H × List MemPlace)}, fits P s (.inr (n, fs)) = true → cs.length = n + s.size → xs.length = fs.length →
      (∀ (i : Nat) (f : Field), fs[i]? = some f → DataW.trod enc P W 0 (fun _ => true) held fuel f.type ((cs.drop f.offset).take (P.cellsOf f.type)) = xs[i]?) → (∀ y ∈ xs, ∀ p ∈ y.2, p.block < W.heap.size) →
      ∃ d : s.Dat, cs.drop n = s.row d ∧ Lies W W.heap.size s d)
  | .int k => ⟨fun {t fuel cs x} hf h _ => by
      simp only [fits] at hf
      split at hf
      · next k' hk =>
        have : k' = k := of_decide_eq_true hf
        subst this
        obtain ⟨z, e, _, hz⟩ := DataW.trod_int hk h
        exact ⟨z, e, hz⟩
      · exact (Bool.false_ne_true hf).elim, fun {n fuel fs cs xs} hf => by simp [fits] at hf⟩
  | .bool => ⟨fun {t fuel cs x} hf h _ => by
      simp only [fits] at hf
      split at hf
      · next hk =>
        obtain ⟨z, e, _⟩ := DataW.trod_bool hk h
        exact ⟨z, e, trivial⟩
      · exact (Bool.false_ne_true hf).elim, fun {n fuel fs cs xs} hf => by simp [fits] at hf⟩
  | .str => ⟨fun {t fuel cs x} hf h _ => by
      simp only [fits] at hf
      split at hf
      · next hk =>
        obtain ⟨z, e, _, hz⟩ := DataW.trod_string hk h
        exact ⟨z, e, hz⟩
      · exact (Bool.false_ne_true hf).elim, fun {n fuel fs cs xs} hf => by simp [fits] at hf⟩
  | .nil => ⟨fun {t fuel cs x} hf => by simp [fits] at hf, fun {n fuel fs cs xs} hf hl _ _ _ => by
      refine ⟨(), ?_, trivial⟩
      show cs.drop n = []
      rw [List.drop_eq_nil_iff]
      simp only [Shp.size] at hl
      omega⟩
  | .sl s => ⟨fun {t fuel cs x} hf h hlt => by
      simp only [fits] at hf
      split at hf
      · next e he =>
        simp only [Bool.and_eq_true, decide_eq_true_eq] at hf
        obtain ⟨⟨hpos, hC⟩, hfe⟩ := hf
        rcases open_slice he h with ⟨hcs, hx⟩ | ⟨a, len, cap, m, nn, D, Pl, hcs, _, hl, hm, hmm, hx, hi⟩
        · subst hcs
          exact ⟨⟨none, 0, []⟩, rfl, ⟨by simp, by simp, fun _ => rfl⟩, HasN.nil_, by simp⟩
        · subst hcs
          simp only [if_true] at hmm
          subst hmm
          unfold maxLen at hm
          have hrow : ∀ i, i < m → ∃ d : s.Dat, (∀ q u, (s.row d)[q]? = some u → W.cell? (a.add (i * s.size + q)) = some u) ∧ Lies W W.heap.size s d := fun i him => by
            obtain ⟨cs', hc, htr⟩ := hi i him
            obtain ⟨d, hd, hL⟩ := (open_both s).1 hfe htr (fun p hp => hlt p (by
              rw [hx]
              exact List.mem_append_right _ (List.mem_flatMap.2 ⟨i, List.mem_range.2 him, hp⟩)))
            refine ⟨d, fun q u hu => ?_, hL⟩
            obtain ⟨_, hcl, hat⟩ := World.cells?_some hc
            have hq : q < s.size := by
              rw [← s.row_len d]
              exact (List.getElem?_eq_some_iff.1 hu).1
            have hcell := hat q (by rw [hC]; exact hq)
            rw [hC] at hcell
            rw [← Go.Deep.add_add, hcell, hd, hu]
          let F : (i : Nat) → i < m → s.Dat := fun i him => Classical.choose (hrow i him)
          have hF : ∀ i (him : i < m), (∀ q u, (s.row (F i him))[q]? = some u → W.cell? (a.add (i * s.size + q)) = some u) ∧ Lies W W.heap.size s (F i him) := fun i him => Classical.choose_spec (hrow i him)
          have hget : ∀ (i : Nat) (y : s.Dat), (List.ofFn (n := len) fun i => F i.1 (by omega))[i]? = some y → ∃ him : i < m, i < len ∧ y = F i him := fun i y hy => by
            obtain ⟨h1, h2⟩ := List.getElem?_eq_some_iff.1 hy
            have hil : i < len := by simpa using h1
            exact ⟨by omega, hil, by rw [← h2]; simp⟩
          refine ⟨⟨some a, m, List.ofFn (n := len) fun i => F i.1 (by omega)⟩, by simp [Shp.row], ⟨by simp; omega, by simpa using hl, fun h0 => by cases h0⟩, fun hne => ?_, fun y hy => ?_⟩
          · have hn : 0 < len := by
              rcases Nat.eq_zero_or_pos len with h0 | h0
              · subst h0; simp at hne
              · exact h0
            obtain ⟨b, off, spot⟩ := a
            have hspot : spot = none := by
              have h3 := (hF 0 (by omega)).1 0 _ (List.getElem?_eq_getElem (by rw [s.row_len]; exact hpos))
              simpa [Addr.add] using World.cell?_spot h3
            subst hspot
            refine ⟨b, off, rfl, hlt (.cell b off) (by
              rw [hx]
              exact List.mem_append_left _ (row_block (by rw [hC]; exact Nat.mul_pos (by omega) hpos) rfl)), fun i y hy q u hu => ?_⟩
            obtain ⟨him, hil, rfl⟩ := hget i y hy
            have := (hF i him).1 q u hu
            rw [add_plain] at this
            show W.cell? ⟨b, off + i * s.size + q, none⟩ = some u
            rwa [show off + i * s.size + q = off + (i * s.size + q) by omega]
          · obtain ⟨i, hi1, hi2⟩ := List.getElem_of_mem hy
            obtain ⟨him, hil, rfl⟩ := hget i y (by rw [List.getElem?_eq_getElem hi1, hi2])
            exact (hF i him).2
      · exact (Bool.false_ne_true hf).elim, fun {n fuel fs cs xs} hf => by simp [fits] at hf⟩
  | .con a r => ⟨fun {t fuel cs x} hf h hlt => by
      simp only [fits] at hf
      split at hf
      · next fs hfs =>
        split at hf
        · next f fs' hl =>
          simp only [Bool.and_eq_true, decide_eq_true_eq] at hf
          obtain ⟨⟨⟨⟨h1, h2⟩, h3⟩, h4⟩, h5⟩ := hf
          obtain ⟨xs, n, _, rfl, hlen, hxl, hg⟩ := DataW.trod_struct hfs h
          have hfs' : ∀ i : Nat, fs[i]? = (f :: fs')[i]? := fun i => by rw [← hl]; simp
          have hsz : fs.size = fs'.length + 1 := by
            have := congrArg List.length hl
            simpa using this
          match xs, hxl with
          | [], hxl => exact absurd hxl (by rw [hsz]; simp)
          | y :: ys, hxl =>
            have g0 := hg 0 f (by rw [hfs']; rfl)
            rw [h2, h3, List.drop_zero] at g0
            obtain ⟨d, hd, hLd⟩ := (open_both a).1 h4 (x := y) (by simpa using g0) (fun p hp => hlt p (by simp [hp]))
            obtain ⟨d', hd', hLd'⟩ := (open_both r).2 (xs := ys) (cs := cs) (fuel := n) h5 (by rw [hlen, h1]) (by rw [List.length_cons] at hxl; omega) (fun i f' hi => by
              have := hg (i + 1) f' (by rw [hfs']; simpa using hi)
              simpa using this) (fun z hz p hp => hlt p (by
                simp only [List.flatMap_cons, List.mem_append, List.mem_flatMap]
                exact Or.inr ⟨z, hz, hp⟩))
            refine ⟨(d, d'), ?_, hLd, hLd'⟩
            show cs = a.row d ++ r.row d'
            rw [← hd, ← hd', List.take_append_drop]
        · cases hf
      · exact (Bool.false_ne_true hf).elim, fun {n fuel fs cs xs} hf hlen hxl hg hlt => by
      match fs, xs, hf, hxl with
      | [], _, hf, _ => simp [fits] at hf
      | f :: fs', [], _, hxl => simp at hxl
      | f :: fs', y :: ys, hf, hxl =>
        simp only [fits, Bool.and_eq_true, decide_eq_true_eq] at hf
        obtain ⟨⟨⟨h2, h3⟩, h4⟩, h5⟩ := hf
        have g0 := hg 0 f rfl
        rw [h2, h3] at g0
        obtain ⟨d, hd, hLd⟩ := (open_both a).1 h4 (x := y) (by simpa using g0) (fun p hp => hlt y (by simp) p hp)
        obtain ⟨d', hd', hLd'⟩ := (open_both r).2 (xs := ys) (cs := cs) (fuel := fuel) h5 (by rw [hlen]; show n + (a.size + r.size) = _; omega) (by simpa using hxl) (fun i f' hi => by
          have := hg (i + 1) f' (by simpa using hi)
          simpa using this) (fun z hz => hlt z (by simp [hz]))
        refine ⟨(d, d'), ?_, hLd, hLd'⟩
        show cs.drop n = a.row d ++ r.row d'
        rw [← hd, ← hd', ← List.drop_drop, List.take_append_drop]⟩
/-- an argument that is a struct -/
theorem seen_any {r : Reach} {b0 : Nat} {t : TypeId} {fs : Array Field} {v : Value} {d : DataW H} {p : List MemPlace} (s : Shp) (hs : P.underlying t = some (.struct fs)) (hf : fits P s (.inl t) = true)
    (hv : Value.okWide P W r b0 t v) (h : DataW.Trod enc P W 0 (fun _ => true) held t v d p) (hlt : ∀ x ∈ p, x.block < W.heap.size) : ∃ x : s.Dat, v = .agg (s.row x).toArray ∧ Lies W W.heap.size s x := by
  obtain ⟨cs, rfl, _⟩ := okWide_struct hs hv
  obtain ⟨fuel, hx⟩ := h
  obtain ⟨x, hx1, hx2⟩ := (open_both s).1 hf hx hlt
  refine ⟨x, ?_, hx2⟩
  congr 1
  apply Array.ext'
  simpa [Value.cells] using hx1
/-- an argument that is a slice -/
theorem seen_list {t : TypeId} {A : Option Addr} {n c : Nat} {d : DataW H} {p : List MemPlace} (s : Shp) (hf : fits P (.sl s) (.inl t) = true)
    (h : DataW.Trod enc P W 0 (fun _ => true) held t (.slice A n c) d p) (hlt : ∀ x ∈ p, x.block < W.heap.size) : ∃ l : List s.Dat, n = l.length ∧ Lies W W.heap.size (.sl s) ⟨A, c, l⟩ := by
  obtain ⟨fuel, hx⟩ := h
  obtain ⟨⟨A', c', l⟩, hx1, hx2⟩ := (open_both (.sl s)).1 hf hx hlt
  simp only [Value.cells, Shp.row, List.cons.injEq, Value.slice.injEq] at hx1
  obtain ⟨⟨rfl, rfl, rfl⟩, _⟩ := hx1
  exact ⟨l, rfl, hx2⟩
end
end Go.Proofs.YtnpcakeagpbgiaaGreat
