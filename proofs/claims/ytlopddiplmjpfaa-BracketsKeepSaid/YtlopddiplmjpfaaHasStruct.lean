/-
  Arguments that are structs, or slices of structs, whose fields are all integers of one kind. 'HasRows w B A C rows': the slice headed at A holds rows of C values, in a block below B. No condition.
-/
import Derived.Test.YtlopddiplmjpfaaHas
import Derived.Deep.Slices
import Derived.Deep.Fields
import Derived.ChangeSame
set_option linter.unusedVariables false
namespace Go.Proofs.Ytlopddiplmjpfaa
open Go.ChangeShapes Go.WideShapes Go.ChangeAt Go.RowKit Go.Deep

def HasRows (w : World) (B : Nat) (A : Option Addr) (C : Nat) (rows : List (List Value)) : Prop :=
  rows ≠ [] → ∃ b off, A = some ⟨b, off, none⟩ ∧ b < B ∧ ∀ i row, rows[i]? = some row → ∀ q u, row[q]? = some u → w.cell? ⟨b, off + (i * C + q), none⟩ = some u
section
variable {w w' : World} {B B' : Nat} {A : Option Addr} {C : Nat} {rows : List (List Value)}
theorem HasRows.nil_ : HasRows w B A C [] := fun h => absurd rfl h
theorem HasRows.at_ (h : HasRows w B A C rows) {i : Nat} (hi : i < rows.length) : ∃ b off, A = some ⟨b, off, none⟩ ∧ b < B ∧ ∀ q u, rows[i][q]? = some u → w.cell? ⟨b, off + (i * C + q), none⟩ = some u := by
  obtain ⟨b, off, e, hb, hc⟩ := h (fun e => by subst e; simp at hi)
  exact ⟨b, off, e, hb, hc i _ (List.getElem?_eq_getElem hi)⟩
theorem HasRows.below (h : HasRows w B A C rows) (hb : Below B w w') : HasRows w' B A C rows := fun hne => by
  obtain ⟨b, off, e, hl, hc⟩ := h hne
  exact ⟨b, off, e, hl, fun i row hi q u hu => (hb.cell (p := ⟨b, off + (i * C + q), none⟩) hl).trans (hc i row hi q u hu)⟩
theorem HasRows.more (h : HasRows w B A C rows) (hB : B ≤ B') : HasRows w B' A C rows := fun hne => by
  obtain ⟨b, off, e, hl, hc⟩ := h hne
  exact ⟨b, off, e, by omega, hc⟩
theorem HasRows.carry (h : HasRows w w.heap.size A C rows) (hb : Below w.heap.size w w') : HasRows w' w'.heap.size A C rows := (h.below hb).more hb.size
end

theorem ints_of : ∀ (k : IntKind) (l : List Value), (∀ v ∈ l, ∃ z, v = .int k z ∧ (Lit.int k z).wf = true) → ∃ zs : List Int, l = zs.map (Value.int k) ∧ ∀ z ∈ zs, (Lit.int k z).wf = true
  | k, [], _ => ⟨[], rfl, by simp⟩
  | k, v :: l, h => by
    obtain ⟨z, rfl, hz⟩ := h v (by simp)
    obtain ⟨zs, rfl, hs⟩ := ints_of k l (fun u hu => h u (by simp [hu]))
    exact ⟨z :: zs, rfl, fun x hx => by
      rcases List.mem_cons.1 hx with rfl | hx
      · exact hz
      · exact hs x hx⟩
/-- the cells of a struct whose fields are integers -/
theorem struct_cells {H : Type} {enc : TypeId × Value → H} {P : Program} {W : World} {base fuel : Nat} {spare : Nat → Bool} {held : Bool} {t e : TypeId} {k : IntKind} {fs : Array Field} {cs : List Value} {x : DataW H × List MemPlace}
    (hs : P.underlying t = some (.struct fs)) (hone : oneCellFields P fs = true) (hC : P.cellsOf t = fs.size) (hint : fs.toList.all (fun f => f.type == e) = true) (he : P.underlying e = some (.int k))
    (h : DataW.trod enc P W base spare held fuel t cs = some x) : ∃ zs : List Int, cs = zs.map (Value.int k) ∧ zs.length = fs.size ∧ ∀ z ∈ zs, (Lit.int k z).wf = true := by
  obtain ⟨xs, n, _, _, hlen, hxl, hg⟩ := DataW.trod_struct hs h
  rw [hC] at hlen
  obtain ⟨zs, h1, h2⟩ := ints_of k cs (fun v hv => by
    obtain ⟨j, hj, rfl⟩ := List.getElem_of_mem hv
    have hjf : fs[j]? = some (fs[j]'(by omega)) := Array.getElem?_eq_getElem (by omega)
    obtain ⟨ho, hk⟩ := hone_of hone j _ hjf
    have h3 := hg j _ hjf
    rw [ho, hk, List.drop_eq_getElem_cons hj, List.take_succ_cons, List.take_zero] at h3
    have h4 : xs[j]? = some (xs[j]'(by omega)) := List.getElem?_eq_getElem (by omega)
    have hty : (fs[j]'(by omega)).type = e := by
      have := (List.all_eq_true.1 hint) (fs[j]'(by omega)) (by simp)
      simpa using this
    rw [h4, hty] at h3
    obtain ⟨z, e1, _, hz⟩ := DataW.trod_int he h3
    exact ⟨z, by injection e1, hz⟩)
  refine ⟨zs, h1, ?_, h2⟩
  rw [h1, List.length_map] at hlen
  exact hlen
/-- a struct by value, all its fields integers -/
theorem struct_ints {H : Type} {enc : TypeId × Value → H} {P : Program} {W : World} {r : Reach} {b0 base : Nat} {spare : Nat → Bool} {held : Bool} {t e : TypeId} {k : IntKind} {fs : Array Field} {v : Value} {d : DataW H} {p : List MemPlace}
    (hs : P.underlying t = some (.struct fs)) (hone : oneCellFields P fs = true) (hC : P.cellsOf t = fs.size) (hint : fs.toList.all (fun f => f.type == e) = true) (he : P.underlying e = some (.int k))
    (hv : Value.okWide P W r b0 t v) (h : DataW.Trod enc P W base spare held t v d p) : ∃ zs : List Int, v = .agg (zs.map (Value.int k)).toArray ∧ zs.length = fs.size ∧ ∀ z ∈ zs, (Lit.int k z).wf = true := by
  obtain ⟨cs, rfl, hsz⟩ := okWide_struct hs hv
  obtain ⟨fuel, hf⟩ := h
  obtain ⟨zs, h1, h2, h3⟩ := struct_cells hs hone hC hint he hf
  refine ⟨zs, ?_, h2, h3⟩
  have : cs = (zs.map (Value.int k)).toArray := by
    rw [← h1]
    simp [Value.cells]
  rw [this]
/-- an argument that is a slice of structs, all their fields integers, opened -/
theorem has_rows {H : Type} {enc : TypeId × Value → H} {P : Program} {W : World} {t e i0 : TypeId} {k : IntKind} {fs : Array Field} {A : Option Addr} {n c : Nat} {d : DataW H} {p : List MemPlace}
    (ht : P.underlying t = some (.slice e)) (hs : P.underlying e = some (.struct fs)) (hone : oneCellFields P fs = true) (hC : P.cellsOf e = fs.size) (hint : fs.toList.all (fun f => f.type == i0) = true) (he : P.underlying i0 = some (.int k)) (hpos : 0 < fs.size)
    (h : DataW.Trod enc P W 0 (fun _ => true) true t (.slice A n c) d p) (hlt : ∀ x ∈ p, x.block < W.heap.size) :
    ∃ zs : List (List Int), n = zs.length ∧ n ≤ 9223372036854775807 ∧ n ≤ c ∧ (∀ z ∈ zs, z.length = fs.size ∧ ∀ x ∈ z, (Lit.int k x).wf = true) ∧ HasRows W W.heap.size A fs.size (zs.map (·.map (Value.int k))) := by
  obtain ⟨fuel, hf⟩ := h
  rcases open_slice ht hf with ⟨hcs, hx⟩ | ⟨a, len', cap', m, nn, D, Pl, hcs, _, hl, hm, hmm, hx, hi⟩
  · simp [Value.cells] at hcs
    obtain ⟨rfl, rfl, rfl⟩ := hcs
    exact ⟨[], rfl, by omega, by omega, by simp, HasRows.nil_⟩
  · simp [Value.cells] at hcs
    obtain ⟨rfl, rfl, rfl⟩ := hcs
    simp only [Prod.mk.injEq] at hx
    obtain ⟨rfl, rfl⟩ := hx
    simp only [if_true] at hmm
    subst hmm
    unfold maxLen at hm
    have hrow : ∀ i, i < m → ∃ zs : List Int, zs.length = fs.size ∧ (∀ z ∈ zs, (Lit.int k z).wf = true) ∧ ∀ q u, (zs.map (Value.int k))[q]? = some u → W.cell? (a.add (i * fs.size + q)) = some u := fun i hi' => by
      obtain ⟨cs', hc, htr⟩ := hi i hi'
      obtain ⟨zs, h1, h2, h3⟩ := struct_cells hs hone hC hint he htr
      refine ⟨zs, h2, h3, fun q u hu => ?_⟩
      obtain ⟨_, hcl, hat⟩ := World.cells?_some hc
      rw [hC] at hat hcl
      have hq : q < fs.size := by
        rw [← h2]
        have := (List.getElem?_eq_some_iff.1 hu).1
        simpa using this
      have hcell := hat q hq
      rw [← Go.Deep.add_add, hcell, h1, hu]
    let F : Nat → List Int := fun i => if hi : i < m then Classical.choose (hrow i hi) else []
    have hF : ∀ i (hi : i < m), (F i).length = fs.size ∧ (∀ z ∈ F i, (Lit.int k z).wf = true) ∧ ∀ q u, ((F i).map (Value.int k))[q]? = some u → W.cell? (a.add (i * fs.size + q)) = some u := fun i hi => by
      have := Classical.choose_spec (hrow i hi)
      simp only [F, dif_pos hi]
      exact this
    refine ⟨(List.range n).map F, by simp, by omega, by omega, fun z hz => ?_, fun hne => ?_⟩
    · obtain ⟨i, hi', rfl⟩ := List.mem_map.1 hz
      have hi2 := List.mem_range.1 hi'
      have := hF i (by omega)
      exact ⟨this.1, this.2.1⟩
    · have hn : 0 < n := by
        rcases Nat.eq_zero_or_pos n with h0 | h0
        · subst h0; simp at hne
        · exact h0
      obtain ⟨b, off, spot⟩ := a
      have hspot : spot = none := by
        obtain ⟨h1, h2, h3⟩ := hF 0 (by omega)
        have h4 := h3 0 _ (List.getElem?_eq_getElem (by rw [List.length_map]; omega))
        simpa [Addr.add] using World.cell?_spot h4
      subst hspot
      refine ⟨b, off, rfl, hlt (.cell b off) (List.mem_append_left _ (MemPlace.mem_row.2 ⟨0, by rw [hC]; exact Nat.mul_pos (by omega) hpos, by simp⟩)), fun i row hrow' q u hu => ?_⟩
      rw [List.getElem?_map, Option.map_eq_some_iff] at hrow'
      obtain ⟨z, hz1, rfl⟩ := hrow'
      rw [List.getElem?_map, Option.map_eq_some_iff] at hz1
      obtain ⟨j, hj, rfl⟩ := hz1
      obtain ⟨hj1, hj2⟩ := List.getElem?_eq_some_iff.1 hj
      simp only [List.length_range] at hj1
      simp only [List.getElem_range] at hj2
      subst hj2
      have := (hF i (by omega)).2.2 q u hu
      rwa [add_plain] at this
end Go.Proofs.Ytlopddiplmjpfaa
