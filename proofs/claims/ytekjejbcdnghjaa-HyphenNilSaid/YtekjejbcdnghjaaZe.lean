/-
  Contracts of the document's digit, may, small and stands. No condition.
-/
import Derived.Test.YtekjejbcdnghjaaZd
import Derived.Test.YtekjejbcdnghjaaZOwn
import Derived.Test.YtekjejbcdnghjaaZa
import Derived.Deep.QuietTactic
import Derived.BigQuiet
import Derived.Test.YtekjejbcdnghjaaZHtw
import Derived.Test.YtekjejbcdnghjaaZc
import Derived.Test.YtekjejbcdnghjaaZStr
import Derived.Test.YtekjejbcdnghjaaZRow
set_option linter.unusedVariables false
set_option linter.unusedSimpArgs false
namespace Go.Proofs.Ytekjejbcdnghjaa
open Go.ChangeShapes Go.WideShapes Go.ChangeAt Go.RowKit

theorem rsmall_ok (r : Int) (w : World) : Calls Try.prog 25 #[.int .i32 r] w fun e w' => e = .returned (.int .i32 (smallZ r)) ∧ w = w' := by
  obtain ⟨V, hV⟩ : ∃ V, smallZ r = V := ⟨_, rfl⟩
  have HV := Lib.hid hV
  rw [hV]
  clear hV
  unfold smallZ at HV
  by_cases h1 : 65 ≤ r
  · by_cases h2 : r ≤ 90
    · have e : V = r + 32 := by rw [← HV.out, if_pos ⟨h1, h2⟩]
      subst e
      go_enter Try.func25, Try.ntmps25
      go_wp2
      go_ret
      exact ⟨by go_num, rfl⟩
    · have e : V = r := by rw [← HV.out, if_neg (by omega)]
      subst e
      go_enter Try.func25, Try.ntmps25
      go_wp2
      go_ret
      exact ⟨rfl, rfl⟩
  · have e : V = r := by rw [← HV.out, if_neg (by omega)]
    subst e
    go_enter Try.func25, Try.ntmps25
    go_wp2
    go_ret
    exact ⟨rfl, rfl⟩

theorem ownN_take (l : List Int) (k : Nat) (h : k < l.length) : ownN (l.take (k + 1)) = ownN (l.take k) + (if l[k] = 46 then 0 else 1) := by
  rw [List.take_add_one, List.getElem?_eq_getElem h, Option.toList_some, ownN_snoc]
theorem pre_take (l u : List Int) (k : Nat) (hl : k < l.length) (hu : k < u.length) (h : l.take k = u.take k) (e : l[k] = u[k]) : l.take (k + 1) = u.take (k + 1) := by
  rw [List.take_add_one, List.take_add_one, h, List.getElem?_eq_getElem hl, List.getElem?_eq_getElem hu, e]
theorem pre_all (l u : List Int) (h : l.take l.length = u.take l.length) (hl : l.length ≤ u.length) : l.isPrefixOf u = true := by
  rw [List.isPrefixOf_iff_prefix, List.prefix_iff_eq_take, ← h, List.take_length]
theorem pre_not (l u : List Int) (k : Nat) (hl : k < l.length) (hu : k < u.length) (e : l[k] ≠ u[k]) : l.isPrefixOf u = false := by
  rw [Bool.eq_false_iff]
  intro h
  rw [List.isPrefixOf_iff_prefix] at h
  obtain ⟨v, rfl⟩ := h
  exact e (by rw [List.getElem_append_left hl])
theorem pre_long (l u : List Int) (h : u.length < l.length) : l.isPrefixOf u = false := by
  rw [Bool.eq_false_iff]
  intro h'
  rw [List.isPrefixOf_iff_prefix] at h'
  have := h'.length_le
  omega
theorem drew_two (w : World) (q r : Nat) : ∃ s, (w.drewN q).drewN r = w.drewN s := ⟨q + r, by simp [World.drewN, Nat.add_assoc]⟩
theorem rstands_ok (A B : Option Addr) (c d : Nat) (l t : List Int) (a : Nat) (w : World) (hn : l.length ≤ 1000000000) (hm : t.length ≤ 1000000000) (ha : a ≤ t.length)
    (h1 : Has w w.heap.size A (l.map (Value.int .i32))) (h2 : Has w w.heap.size B (t.map (Value.int .i32))) :
    Calls Try.prog 26 #[.slice A l.length c, .slice B t.length d, .int .i64 a] w fun e w' => e = .returned (.bool (l.isPrefixOf (t.drop a))) ∧ ∃ q, w' = w.drewN q := by
  obtain ⟨V, hV⟩ : ∃ V, l.isPrefixOf (t.drop a) = V := ⟨_, rfl⟩
  rw [hV]
  have HV := Lib.hid hV
  clear hV
  have hul : (t.drop a).length = t.length - a := List.length_drop ..
  have HU := Lib.hid hul
  clear hul
  by_cases hl : a + l.length ≤ t.length
  · have hl' : ¬ (a : Int) + l.length > t.length := by omega
    go_enter Try.func26, Try.ntmps26
    go_wp2
    go_loopw [7] (fun i wr => ∃ k : Nat, k ≤ l.length ∧ i = .int .i64 k ∧ Hid (l.take k = (t.drop a).take k) ∧ ∃ q, wr = w.drewN q) (fun i _ => l.length - (intOf i).toNat)
    case atStart => exact ⟨0, by omega, rfl, Lib.hid rfl, 0, rfl⟩
    case round =>
      obtain ⟨k, hk, rfl, HT, q, rfl⟩ := hrel
      by_cases hlt : k < l.length
      · have hlt2 : a + k < t.length := by omega
        have hlt3 : k < (t.drop a).length := by rw [HU.out]; omega
        obtain ⟨b, off, rfl, hb, hc⟩ := h1.at_int hlt
        obtain ⟨b2, off2, rfl, hb2, hc2⟩ := h2.at_int hlt2
        have hY3 : (t.drop a)[k] = t[a + k] := List.getElem_drop ..
        obtain ⟨X, hX⟩ : ∃ X, l[k] = X := ⟨_, rfl⟩
        obtain ⟨Y, hY⟩ : ∃ Y, t[a + k] = Y := ⟨_, rfl⟩
        rw [hX] at hc
        rw [hY] at hc2 hY3
        have HX := Lib.hid hX
        have HY := Lib.hid hY3
        clear hX hY hY3 h1 h2
        by_cases hxy : Y = X
        · have HTn := Lib.hid (pre_take l (t.drop a) k hlt hlt3 HT.out (by rw [HX.out, HY.out, hxy]))
          subst hxy
          go_wp2
          go_quiet (fail)
          go_wp2
          go_roundw
          case rel => exact ⟨k + 1, by omega, by go_num, HTn, _, rfl⟩
          case measure => simp [intOf]; omega
        · have HF := Lib.hid (pre_not l (t.drop a) k hlt hlt3 (by rw [HX.out, HY.out]; exact fun e => hxy e.symm))
          go_wp2
          go_quiet (fail)
          go_wp2
          go_ret
          exact ⟨by rw [← HV.out, HF.out]; rfl, drew_two _ _ _⟩
      · obtain rfl : k = l.length := by omega
        have HE : Hid (V = true) := Lib.hid (by rw [← HV.out]; exact pre_all l _ HT.out (by rw [HU.out]; omega))
        go_wp2
        go_ret
        exact ⟨by rw [HE.out]; rfl, _, rfl⟩
  · have hl' : (a : Int) + l.length > t.length := by omega
    have HE : Hid (V = false) := Lib.hid (by rw [← HV.out]; exact pre_long l _ (by rw [HU.out]; omega))
    go_enter Try.func26, Try.ntmps26
    go_wp2
    go_ret
    exact ⟨by rw [HE.out]; rfl, 0, rfl⟩
end Go.Proofs.Ytekjejbcdnghjaa

/-
  Contract of the document's Parse. Condition: a text of at most a million bytes.
-/
set_option linter.unusedVariables false
set_option linter.unusedSimpArgs false
namespace Go.Proofs.Ytekjejbcdnghjaa
open Go.ChangeShapes Go.WideShapes Go.ChangeAt Go.RowKit

/-- the pattern of a text -/
def patS (s : ByteArray) : Option (List Int × List Int) := if (decP (bytesS s)).2.2 = 0 then parseS (decP (bytesS s)).1 else none
/-- what Parse hands back -/
def ParseOf (w w' : World) (e : Ending) (x : Option (List Int × List Int)) : Prop :=
  match x with
  | none => e = .returned (.tuple #[.slice none 0 0, .slice none 0 0, .bool false]) ∧ Below w.heap.size w w'
  | some z => ∃ v u, e = .returned (.tuple #[v, u, .bool true]) ∧ SliceV .i32 w w' v z.1 ∧ SliceV .i64 w w' u z.2

theorem byteZ_of (s : ByteArray) : ByteZ (bytesS s) := bytesS_range s
theorem anyP_snoc (d : List Int) (x : Int) : anyP (d ++ [x]) = (anyP d || decide (0 < x)) := by simp [anyP]
/-- the reading, from a place on -/
def RestZ (t l d : List Int) (N : Int) (S : Bool) (k : Nat) : Prop := pz 0 false t = (pz N S (t.drop k)).map fun z => (l ++ z.1, d ++ z.2)
theorem rest_start (t : List Int) : RestZ t [] [] 0 false 0 := by
  unfold RestZ
  rw [List.drop_zero]
  cases pz 0 false t <;> simp
theorem rest_digit {t l d : List Int} {N : Int} {k : Nat} (h : RestZ t l d N false k) (hk : k < t.length) (hd : isD t[k]) : RestZ t l d (t[k] - 48) true (k + 1) := by
  unfold RestZ at h ⊢
  rw [List.drop_eq_getElem_cons hk, pz_digit hd] at h
  exact h
theorem rest_twice {t l d : List Int} {N : Int} {k : Nat} (h : RestZ t l d N true k) (hk : k < t.length) (hd : isD t[k]) : parseS t = none := by
  unfold RestZ at h
  rw [List.drop_eq_getElem_cons hk, pz_twice hd] at h
  unfold parseS
  rw [h]; rfl
theorem rest_letter {t l d : List Int} {N : Int} {S : Bool} {k : Nat} (h : RestZ t l d N S k) (hk : k < t.length) (hd : ¬ isD t[k]) : RestZ t (l ++ [t[k]]) (d ++ [N]) 0 false (k + 1) := by
  unfold RestZ at h ⊢
  rw [List.drop_eq_getElem_cons hk, pz_letter hd] at h
  rw [h, Option.map_map]
  congr 1
  funext z
  simp
theorem rest_end {t l d : List Int} {N : Int} {S : Bool} (h : RestZ t l d N S t.length) : parseS t = if anyP (d ++ [N]) && mayB l then some (l, d ++ [N]) else none := by
  unfold RestZ at h
  rw [List.drop_length] at h
  unfold parseS
  rw [h]
  simp [pz]

theorem infoI64 : (Try.prog.info? 3).map (fun i => (i.zero, i.size, i.bytes)) = some (some (.int .i64 0), 1, 8) := by kernel_rfl

end Go.Proofs.Ytekjejbcdnghjaa

/-
  Contract of the document's New; a list of patterns in memory. Condition: texts of at most a million bytes, at most 1000 of them.
-/
set_option linter.unusedVariables false
set_option linter.unusedSimpArgs false
namespace Go.Proofs.Ytekjejbcdnghjaa
open Go.ChangeShapes Go.WideShapes Go.ChangeAt Go.RowKit

abbrev Pat := List Int × List Int
/-- patterns taken in one by one, the first that is wrong -/
def newG : Nat → List Pat → List ByteArray → List Pat × Nat × Int
  | _, acc, [] => (acc, 0, 0)
  | k, acc, s :: r =>
    match patS s with
    | none => ([], k, 3)
    | some p => if acc.any (fun q => decide (q.1 = p.1)) then ([], k, 15) else newG (k + 1) (acc ++ [p]) r
def newS (zs : List ByteArray) : List Pat × Nat × Int := if 512 < zs.length then ([], 0, 5) else newG 0 [] zs

/-- a pattern in memory: two slices -/
structure RowP where
  A : Option Addr
  n : Nat
  c : Nat
  B : Option Addr
  m : Nat
  d : Nat
def LP : Lay RowP := ⟨fun r => [.slice r.A r.n r.c, .slice r.B r.m r.d], 2, fun _ => rfl, fun r u hu => by simp at hu; rcases hu with rfl | rfl <;> rfl⟩
structure RowP.reads (w : World) (r : RowP) (p : Pat) : Prop where
  n : r.n = p.1.length
  m : r.m = p.2.length
  one : Has w w.heap.size r.A (p.1.map (Value.int .i32))
  two : Has w w.heap.size r.B (p.2.map (Value.int .i64))
  lt1 : ∀ a, r.A = some a → a.block < w.heap.size
  lt2 : ∀ a, r.B = some a → a.block < w.heap.size
def RowP.far (r : RowP) (v : Value) : Prop := (∀ a, r.A = some a → v.ownBlock ≠ some a.block) ∧ (∀ a, r.B = some a → v.ownBlock ≠ some a.block)
theorem RowP.reads.carry {w w' : World} {r : RowP} {p : Pat} (h : RowP.reads w r p) (hb : Below w.heap.size w w') : RowP.reads w' r p :=
  ⟨h.n, h.m, h.one.carry hb, h.two.carry hb, fun a ha => Nat.lt_of_lt_of_le (h.lt1 a ha) hb.size, fun a ha => Nat.lt_of_lt_of_le (h.lt2 a ha) hb.size⟩
/-- reads as a list of patterns -/
def ReadsP (w : World) (v : Value) (l : List Pat) : Prop :=
  ∃ (A : Option Addr) (c : Nat) (rows : List RowP), v = .slice A l.length c ∧ HasN LP w w.heap.size A rows ∧ rows.length = l.length ∧ ∀ (i : Nat) r p, rows[i]? = some r → l[i]? = some p → RowP.reads w r p
theorem ReadsP.carry {w w' : World} {v : Value} {l : List Pat} (h : ReadsP w v l) (hb : Below w.heap.size w w') : ReadsP w' v l := by
  obtain ⟨A, c, rows, h1, h2, h3, h4⟩ := h
  exact ⟨A, c, rows, h1, h2.carry hb, h3, fun i r p hr hp => (h4 i r p hr hp).carry hb⟩
theorem readsP_nil (w : World) : ReadsP w (.slice none 0 0) [] := ⟨none, 0, [], rfl, HasN.nil_, rfl, fun i r p h => by simp at h⟩
/-- one of them -/
theorem ReadsP.at_ {w : World} {A : Option Addr} {n c : Nat} {l : List Pat} (h : ReadsP w (.slice A n c) l) {i : Nat} (hi : i < l.length) :
    n = l.length ∧ ∃ (b off : Nat) (r : RowP), A = some ⟨b, off, none⟩ ∧ RowP.reads w r l[i] ∧ w.cell? ⟨b, off + i * 2 + 0, none⟩ = some (.slice r.A r.n r.c) ∧ w.cell? ⟨b, off + i * 2 + 1, none⟩ = some (.slice r.B r.m r.d) := by
  obtain ⟨A', c', rows, h1, h2, h3, h4⟩ := h
  injection h1 with h1 h5 h6
  subst h1
  have hlt : i < rows.length := by omega
  obtain ⟨b, off, e, hb, hc⟩ := h2.at_ hlt
  exact ⟨h5, b, off, rows[i], e, h4 i _ _ (List.getElem?_eq_getElem hlt) (List.getElem?_eq_getElem hi), hc 0 _ rfl, hc 1 _ rfl⟩

/-- the call's own list, being filled -/
structure OwnP (B : Nat) (w wr : World) (v : Value) (rows : List RowP) (l : List Pat) : Prop where
  own : MineN LP 53 wr B v rows
  len : rows.length = l.length
  read : ∀ (i : Nat) r p, rows[i]? = some r → l[i]? = some p → RowP.reads wr r p
  far : ∀ (i : Nat) r, rows[i]? = some r → r.far v
  bel : Below B w wr
theorem OwnP.nil_ (w : World) : OwnP w.heap.size w w (.slice none 0 0) [] [] := ⟨MineN.nil_ _ _ _, rfl, fun i r p h => by simp at h, fun i r h => by simp at h, Below.refl _ _⟩
theorem OwnP.up {B : Nat} {w wr W : World} {v : Value} {rows : List RowP} {l : List Pat} (h : OwnP B w wr v rows l) (hu : Below wr.heap.size wr W) (hB : B ≤ wr.heap.size) : OwnP B w W v rows l :=
  ⟨h.own.stays fun b _ hlt => hu.block b hlt, h.len, fun i r p hr hp => (h.read i r p hr hp).carry hu, h.far, h.bel.trans (hu.mono hB)⟩
theorem OwnP.push {B : Nat} {w wr W : World} {v v' : Value} {rows : List RowP} {l : List Pat} {r : RowP} {p : Pat} (h : OwnP B w wr v rows l) (hr : RowP.reads wr r p) (hf : r.far v)
    (hM : MineN LP 53 W B v' (rows ++ [r])) (hb : Below B wr W) (hk : ∀ b, b < wr.heap.size → v.ownBlock ≠ some b → v'.ownBlock ≠ some b ∧ W.heap[b]? = wr.heap[b]?) : OwnP B w W v' (rows ++ [r]) (l ++ [p]) := by
  have keep : ∀ (x : RowP) (y : Pat), RowP.reads wr x y → x.far v → RowP.reads W x y ∧ x.far v' := fun x y h1 h2 => by
    have k1 : ∀ (A : Option Addr) (xs : List Value), Has wr wr.heap.size A xs → (∀ a, A = some a → v.ownBlock ≠ some a.block) → Has W W.heap.size A xs := fun A xs g1 g2 => g1.stays hb.size fun a ha hlt => (hk a.block hlt (g2 a ha)).2
    exact ⟨⟨h1.n, h1.m, k1 _ _ h1.one h2.1, k1 _ _ h1.two h2.2, fun a ha => Nat.lt_of_lt_of_le (h1.lt1 a ha) hb.size, fun a ha => Nat.lt_of_lt_of_le (h1.lt2 a ha) hb.size⟩,
      fun a ha => (hk a.block (h1.lt1 a ha) (h2.1 a ha)).1, fun a ha => (hk a.block (h1.lt2 a ha) (h2.2 a ha)).1⟩
  have hcase : ∀ (i : Nat) x, (rows ++ [r])[i]? = some x → rows[i]? = some x ∨ (i = rows.length ∧ x = r) := fun i x hi => by
    rcases Nat.lt_or_ge i rows.length with h1 | h1
    · rw [List.getElem?_append_left h1] at hi; exact .inl hi
    · rw [List.getElem?_append_right h1] at hi
      have : i - rows.length = 0 := by
        rcases Nat.eq_zero_or_pos (i - rows.length) with h2 | h2
        · exact h2
        · rw [List.getElem?_eq_none (by simp; omega)] at hi; cases hi
      rw [this] at hi
      simp at hi
      exact .inr ⟨by omega, hi.symm⟩
  have ex : ∀ (i : Nat) x, rows[i]? = some x → ∃ y, l[i]? = some y := fun i x hx => by
    have := (List.getElem?_eq_some_iff.1 hx).1
    exact ⟨l[i]'(by rw [← h.len]; exact this), List.getElem?_eq_getElem (by rw [← h.len]; exact this)⟩
  refine ⟨hM, by simp [h.len], fun i x y hx hy => ?_, fun i x hx => ?_, h.bel.trans hb⟩
  · rcases hcase i x hx with h1 | ⟨rfl, rfl⟩
    · have hlt := (List.getElem?_eq_some_iff.1 h1).1
      rw [List.getElem?_append_left (by rw [← h.len]; exact hlt)] at hy
      exact (keep x y (h.read i x y h1 hy) (h.far i x h1)).1
    · rw [h.len, List.getElem?_append_right (Nat.le_refl _), Nat.sub_self] at hy
      simp at hy
      subst hy
      exact (keep _ _ hr hf).1
  · rcases hcase i x hx with h1 | ⟨rfl, rfl⟩
    · obtain ⟨y, hy⟩ := ex i x h1
      exact (keep x y (h.read i x y h1 hy) (h.far i x h1)).2
    · exact (keep _ _ hr hf).2
theorem OwnP.at_ {B : Nat} {w wr : World} {A : Option Addr} {n c : Nat} {rows : List RowP} {l : List Pat} (h : OwnP B w wr (.slice A n c) rows l) {i : Nat} (hi : i < l.length) :
    ∃ (g : Nat) (r : RowP), A = some ⟨g, 0, none⟩ ∧ RowP.reads wr r l[i] ∧ wr.cell? ⟨g, i * 2, none⟩ = some (.slice r.A r.n r.c) ∧ wr.cell? ⟨g, i * 2 + 1, none⟩ = some (.slice r.B r.m r.d) := by
  have hlt : i < rows.length := by rw [h.len]; exact hi
  obtain ⟨g, c', hv, _, _, _, hc⟩ := h.own.form (fun e => by subst e; simp at hlt)
  injection hv with hv1 hv2 hv3
  have h0 := hc i _ (List.getElem?_eq_getElem hlt) 0 _ rfl
  have h1 := hc i _ (List.getElem?_eq_getElem hlt) 1 _ rfl
  rw [Nat.zero_add] at h0 h1
  exact ⟨g, rows[i], hv1, h.read i _ _ (List.getElem?_eq_getElem hlt) (List.getElem?_eq_getElem hi), h0, h1⟩
theorem OwnP.readsP {B : Nat} {w wr : World} {v : Value} {rows : List RowP} {l : List Pat} (h : OwnP B w wr v rows l) : ReadsP wr v l := by
  obtain ⟨A, c, rfl, _, _, hh⟩ := h.own.has
  exact ⟨A, c, rows, by rw [h.len], hh, h.len, h.read⟩
theorem newG_none {k : Nat} {acc : List Pat} {zs : List ByteArray} (hk : k < zs.length) (h : patS zs[k] = none) : newG k acc (zs.drop k) = ([], k, 3) := by
  rw [List.drop_eq_getElem_cons hk, newG, h]
theorem newG_twice {k : Nat} {acc : List Pat} {zs : List ByteArray} {p : Pat} (hk : k < zs.length) (h : patS zs[k] = some p) {i : Nat} (hi : i < acc.length) (he : acc[i].1 = p.1) : newG k acc (zs.drop k) = ([], k, 15) := by
  rw [List.drop_eq_getElem_cons hk, newG, h]
  simp only
  rw [if_pos]
  rw [List.any_eq_true]
  exact ⟨acc[i], List.getElem_mem hi, decide_eq_true he⟩
theorem newG_next {k : Nat} {acc : List Pat} {zs : List ByteArray} {p : Pat} (hk : k < zs.length) (h : patS zs[k] = some p) (hn : ∀ (i : Nat) (hi : i < acc.length), acc[i].1 ≠ p.1) : newG k acc (zs.drop k) = newG (k + 1) (acc ++ [p]) (zs.drop (k + 1)) := by
  rw [List.drop_eq_getElem_cons hk, newG, h]
  simp only
  rw [if_neg]
  rw [List.any_eq_true]
  rintro ⟨q, hq, e⟩
  obtain ⟨i, hi, rfl⟩ := List.mem_iff_getElem.1 hq
  exact hn i hi (of_decide_eq_true e)
theorem patS_ok {s : ByteArray} {p : Pat} (h : patS s = some p) : OkP p.1 p.2 := by
  unfold patS at h
  split at h
  · exact parse_ok h
  · cases h
theorem newG_end (k : Nat) (acc : List Pat) (zs : List ByteArray) : newG k acc (zs.drop zs.length) = (acc, 0, 0) := by rw [List.drop_length, newG]
theorem infoP : (Try.prog.info? 53).map (fun i => (i.zero, i.size, i.bytes)) = some (some (.agg #[.slice none 0 0, .slice none 0 0]), LP.C, 48) := by kernel_rfl
theorem mayB_len {p : Pat} (h : OkP p.1 p.2) : 1 ≤ p.1.length ∧ p.1.length ≤ 18 ∧ 1 ≤ p.2.length ∧ p.2.length ≤ 19 := by
  have := mayB_length h.may
  have := h.len
  omega
theorem sliceV_lt {q : IntKind} {w w' : World} {v : Value} {xs : List Int} (h : SliceV q w w' v xs) (hx : 1 ≤ xs.length) : ∃ A c, v = .slice A xs.length c ∧ (∀ a, A = some a → w.heap.size ≤ a.block) ∧ (∀ a, A = some a → a.block < w'.heap.size) ∧ Has w' w'.heap.size A (xs.map (Value.int q)) := by
  obtain ⟨A, c, rfl, hc, hh, _⟩ := h
  refine ⟨A, c, rfl, hc.2, fun a ha => ?_, hh⟩
  obtain ⟨b, off, e, hb, _⟩ := hh (by intro e; rw [List.map_eq_nil_iff] at e; rw [e] at hx; simp at hx)
  rw [e] at ha
  injection ha with ha
  rw [← ha]
  exact hb

theorem newG_ok : ∀ (zs : List ByteArray) (k : Nat) (acc : List Pat), (∀ p ∈ acc, OkP p.1 p.2) → (∀ p ∈ (newG k acc zs).1, OkP p.1 p.2) ∧ (newG k acc zs).1.length ≤ acc.length + zs.length
  | [], k, acc, h => ⟨h, by simp [newG]⟩
  | s :: r, k, acc, h => by
    rw [newG]
    cases e : patS s with
    | none => exact ⟨by simp, by simp⟩
    | some p =>
      simp only
      split
      · exact ⟨by simp, by simp⟩
      · have ih := newG_ok r (k + 1) (acc ++ [p]) (fun q hq => by
          rcases List.mem_append.1 hq with h1 | h1
          · exact h q h1
          · rw [List.mem_singleton.1 h1]; exact patS_ok e)
        refine ⟨ih.1, ?_⟩
        have := ih.2
        simp only [List.length_append, List.length_cons, List.length_nil] at this ⊢
        omega
theorem newS_ok (zs : List ByteArray) : (∀ p ∈ (newS zs).1, OkP p.1 p.2) ∧ (newS zs).1.length ≤ zs.length := by
  unfold newS
  split
  · exact ⟨by simp, by simp⟩
  · have := newG_ok zs 0 [] (by simp)
    simpa using this
theorem ReadsP.form {w : World} {v : Value} {l : List Pat} (h : ReadsP w v l) : ∃ A c, v = .slice A l.length c := let ⟨A, c, _, e, _⟩ := h; ⟨A, c, e⟩
end Go.Proofs.Ytekjejbcdnghjaa
