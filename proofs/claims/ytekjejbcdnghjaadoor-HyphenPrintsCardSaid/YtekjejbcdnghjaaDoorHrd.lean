/-
  Contract of the document's New; a list of patterns in memory. Condition: texts of at most a million bytes, at most 1000 of them.
-/
import Derived.Test.YtekjejbcdnghjaaDoorHrb
import Derived.Test.YtekjejbcdnghjaaDoorRow
import Derived.Test.YtekjejbcdnghjaaDoorUts
set_option linter.unusedVariables false
set_option linter.unusedSimpArgs false
namespace Go.Proofs.YtekjejbcdnghjaaDoor
open Go.ChangeShapes Go.WideShapes Go.ChangeAt Go.RowKit

abbrev Pat := List Int × List Int
/-- patterns taken in one by one, the first that is wrong -/
def newG : Nat → List Pat → List ByteArray → List Pat × Nat × Int
  | _, acc, [] => (acc, 0, 0)
  | k, acc, s :: r =>
    match patS s with
    | none => ([], k, 3)
    | some p => if acc.any (fun q => decide (q.1 = p.1)) then ([], k, 15) else newG (k + 1) (acc ++ [p]) r
def newS (zs : List ByteArray) : List Pat × Nat × Int := if 512 < zs.length then ([], 0, 5) else newG 0 [] zs

/-- a pattern in memory: two slices -/
structure RowP where
  A : Option Addr
  n : Nat
  c : Nat
  B : Option Addr
  m : Nat
  d : Nat
def LP : Lay RowP := ⟨fun r => [.slice r.A r.n r.c, .slice r.B r.m r.d], 2, fun _ => rfl, fun r u hu => by simp at hu; rcases hu with rfl | rfl <;> rfl⟩
structure RowP.reads (w : World) (r : RowP) (p : Pat) : Prop where
  n : r.n = p.1.length
  m : r.m = p.2.length
  one : Has w w.heap.size r.A (p.1.map (Value.int .i32))
  two : Has w w.heap.size r.B (p.2.map (Value.int .i64))
  lt1 : ∀ a, r.A = some a → a.block < w.heap.size
  lt2 : ∀ a, r.B = some a → a.block < w.heap.size
def RowP.far (r : RowP) (v : Value) : Prop := (∀ a, r.A = some a → v.ownBlock ≠ some a.block) ∧ (∀ a, r.B = some a → v.ownBlock ≠ some a.block)
theorem RowP.reads.carry {w w' : World} {r : RowP} {p : Pat} (h : RowP.reads w r p) (hb : Below w.heap.size w w') : RowP.reads w' r p :=
  ⟨h.n, h.m, h.one.carry hb, h.two.carry hb, fun a ha => Nat.lt_of_lt_of_le (h.lt1 a ha) hb.size, fun a ha => Nat.lt_of_lt_of_le (h.lt2 a ha) hb.size⟩
/-- reads as a list of patterns -/
def ReadsP (w : World) (v : Value) (l : List Pat) : Prop :=
  ∃ (A : Option Addr) (c : Nat) (rows : List RowP), v = .slice A l.length c ∧ HasN LP w w.heap.size A rows ∧ rows.length = l.length ∧ ∀ (i : Nat) r p, rows[i]? = some r → l[i]? = some p → RowP.reads w r p
theorem ReadsP.carry {w w' : World} {v : Value} {l : List Pat} (h : ReadsP w v l) (hb : Below w.heap.size w w') : ReadsP w' v l := by
  obtain ⟨A, c, rows, h1, h2, h3, h4⟩ := h
  exact ⟨A, c, rows, h1, h2.carry hb, h3, fun i r p hr hp => (h4 i r p hr hp).carry hb⟩
theorem readsP_nil (w : World) : ReadsP w (.slice none 0 0) [] := ⟨none, 0, [], rfl, HasN.nil_, rfl, fun i r p h => by simp at h⟩
/-- one of them -/
theorem ReadsP.at_ {w : World} {A : Option Addr} {n c : Nat} {l : List Pat} (h : ReadsP w (.slice A n c) l) {i : Nat} (hi : i < l.length) :
    n = l.length ∧ ∃ (b off : Nat) (r : RowP), A = some ⟨b, off, none⟩ ∧ RowP.reads w r l[i] ∧ w.cell? ⟨b, off + i * 2 + 0, none⟩ = some (.slice r.A r.n r.c) ∧ w.cell? ⟨b, off + i * 2 + 1, none⟩ = some (.slice r.B r.m r.d) := by
  obtain ⟨A', c', rows, h1, h2, h3, h4⟩ := h
  injection h1 with h1 h5 h6
  subst h1
  have hlt : i < rows.length := by omega
  obtain ⟨b, off, e, hb, hc⟩ := h2.at_ hlt
  exact ⟨h5, b, off, rows[i], e, h4 i _ _ (List.getElem?_eq_getElem hlt) (List.getElem?_eq_getElem hi), hc 0 _ rfl, hc 1 _ rfl⟩

/-- the call's own list, being filled -/
structure OwnP (B : Nat) (w wr : World) (v : Value) (rows : List RowP) (l : List Pat) : Prop where
  own : MineN LP 64 wr B v rows
  len : rows.length = l.length
  read : ∀ (i : Nat) r p, rows[i]? = some r → l[i]? = some p → RowP.reads wr r p
  far : ∀ (i : Nat) r, rows[i]? = some r → r.far v
  bel : Below B w wr
theorem OwnP.nil_ (w : World) : OwnP w.heap.size w w (.slice none 0 0) [] [] := ⟨MineN.nil_ _ _ _, rfl, fun i r p h => by simp at h, fun i r h => by simp at h, Below.refl _ _⟩
theorem OwnP.up {B : Nat} {w wr W : World} {v : Value} {rows : List RowP} {l : List Pat} (h : OwnP B w wr v rows l) (hu : Below wr.heap.size wr W) (hB : B ≤ wr.heap.size) : OwnP B w W v rows l :=
  ⟨h.own.stays fun b _ hlt => hu.block b hlt, h.len, fun i r p hr hp => (h.read i r p hr hp).carry hu, h.far, h.bel.trans (hu.mono hB)⟩
theorem OwnP.push {B : Nat} {w wr W : World} {v v' : Value} {rows : List RowP} {l : List Pat} {r : RowP} {p : Pat} (h : OwnP B w wr v rows l) (hr : RowP.reads wr r p) (hf : r.far v)
    (hM : MineN LP 64 W B v' (rows ++ [r])) (hb : Below B wr W) (hk : ∀ b, b < wr.heap.size → v.ownBlock ≠ some b → v'.ownBlock ≠ some b ∧ W.heap[b]? = wr.heap[b]?) : OwnP B w W v' (rows ++ [r]) (l ++ [p]) := by
  have keep : ∀ (x : RowP) (y : Pat), RowP.reads wr x y → x.far v → RowP.reads W x y ∧ x.far v' := fun x y h1 h2 => by
    have k1 : ∀ (A : Option Addr) (xs : List Value), Has wr wr.heap.size A xs → (∀ a, A = some a → v.ownBlock ≠ some a.block) → Has W W.heap.size A xs := fun A xs g1 g2 => g1.stays hb.size fun a ha hlt => (hk a.block hlt (g2 a ha)).2
    exact ⟨⟨h1.n, h1.m, k1 _ _ h1.one h2.1, k1 _ _ h1.two h2.2, fun a ha => Nat.lt_of_lt_of_le (h1.lt1 a ha) hb.size, fun a ha => Nat.lt_of_lt_of_le (h1.lt2 a ha) hb.size⟩,
      fun a ha => (hk a.block (h1.lt1 a ha) (h2.1 a ha)).1, fun a ha => (hk a.block (h1.lt2 a ha) (h2.2 a ha)).1⟩
  have hcase : ∀ (i : Nat) x, (rows ++ [r])[i]? = some x → rows[i]? = some x ∨ (i = rows.length ∧ x = r) := fun i x hi => by
    rcases Nat.lt_or_ge i rows.length with h1 | h1
    · rw [List.getElem?_append_left h1] at hi; exact .inl hi
    · rw [List.getElem?_append_right h1] at hi
      have : i - rows.length = 0 := by
        rcases Nat.eq_zero_or_pos (i - rows.length) with h2 | h2
        · exact h2
        · rw [List.getElem?_eq_none (by simp; omega)] at hi; cases hi
      rw [this] at hi
      simp at hi
      exact .inr ⟨by omega, hi.symm⟩
  have ex : ∀ (i : Nat) x, rows[i]? = some x → ∃ y, l[i]? = some y := fun i x hx => by
    have := (List.getElem?_eq_some_iff.1 hx).1
    exact ⟨l[i]'(by rw [← h.len]; exact this), List.getElem?_eq_getElem (by rw [← h.len]; exact this)⟩
  refine ⟨hM, by simp [h.len], fun i x y hx hy => ?_, fun i x hx => ?_, h.bel.trans hb⟩
  · rcases hcase i x hx with h1 | ⟨rfl, rfl⟩
    · have hlt := (List.getElem?_eq_some_iff.1 h1).1
      rw [List.getElem?_append_left (by rw [← h.len]; exact hlt)] at hy
      exact (keep x y (h.read i x y h1 hy) (h.far i x h1)).1
    · rw [h.len, List.getElem?_append_right (Nat.le_refl _), Nat.sub_self] at hy
      simp at hy
      subst hy
      exact (keep _ _ hr hf).1
  · rcases hcase i x hx with h1 | ⟨rfl, rfl⟩
    · obtain ⟨y, hy⟩ := ex i x h1
      exact (keep x y (h.read i x y h1 hy) (h.far i x h1)).2
    · exact (keep _ _ hr hf).2
theorem OwnP.at_ {B : Nat} {w wr : World} {A : Option Addr} {n c : Nat} {rows : List RowP} {l : List Pat} (h : OwnP B w wr (.slice A n c) rows l) {i : Nat} (hi : i < l.length) :
    ∃ (g : Nat) (r : RowP), A = some ⟨g, 0, none⟩ ∧ RowP.reads wr r l[i] ∧ wr.cell? ⟨g, i * 2, none⟩ = some (.slice r.A r.n r.c) ∧ wr.cell? ⟨g, i * 2 + 1, none⟩ = some (.slice r.B r.m r.d) := by
  have hlt : i < rows.length := by rw [h.len]; exact hi
  obtain ⟨g, c', hv, _, _, _, hc⟩ := h.own.form (fun e => by subst e; simp at hlt)
  injection hv with hv1 hv2 hv3
  have h0 := hc i _ (List.getElem?_eq_getElem hlt) 0 _ rfl
  have h1 := hc i _ (List.getElem?_eq_getElem hlt) 1 _ rfl
  rw [Nat.zero_add] at h0 h1
  exact ⟨g, rows[i], hv1, h.read i _ _ (List.getElem?_eq_getElem hlt) (List.getElem?_eq_getElem hi), h0, h1⟩
theorem OwnP.readsP {B : Nat} {w wr : World} {v : Value} {rows : List RowP} {l : List Pat} (h : OwnP B w wr v rows l) : ReadsP wr v l := by
  obtain ⟨A, c, rfl, _, _, hh⟩ := h.own.has
  exact ⟨A, c, rows, by rw [h.len], hh, h.len, h.read⟩
theorem newG_none {k : Nat} {acc : List Pat} {zs : List ByteArray} (hk : k < zs.length) (h : patS zs[k] = none) : newG k acc (zs.drop k) = ([], k, 3) := by
  rw [List.drop_eq_getElem_cons hk, newG, h]
theorem newG_twice {k : Nat} {acc : List Pat} {zs : List ByteArray} {p : Pat} (hk : k < zs.length) (h : patS zs[k] = some p) {i : Nat} (hi : i < acc.length) (he : acc[i].1 = p.1) : newG k acc (zs.drop k) = ([], k, 15) := by
  rw [List.drop_eq_getElem_cons hk, newG, h]
  simp only
  rw [if_pos]
  rw [List.any_eq_true]
  exact ⟨acc[i], List.getElem_mem hi, decide_eq_true he⟩
theorem newG_next {k : Nat} {acc : List Pat} {zs : List ByteArray} {p : Pat} (hk : k < zs.length) (h : patS zs[k] = some p) (hn : ∀ (i : Nat) (hi : i < acc.length), acc[i].1 ≠ p.1) : newG k acc (zs.drop k) = newG (k + 1) (acc ++ [p]) (zs.drop (k + 1)) := by
  rw [List.drop_eq_getElem_cons hk, newG, h]
  simp only
  rw [if_neg]
  rw [List.any_eq_true]
  rintro ⟨q, hq, e⟩
  obtain ⟨i, hi, rfl⟩ := List.mem_iff_getElem.1 hq
  exact hn i hi (of_decide_eq_true e)
theorem patS_ok {s : ByteArray} {p : Pat} (h : patS s = some p) : OkP p.1 p.2 := by
  unfold patS at h
  split at h
  · exact parse_ok h
  · cases h
theorem newG_end (k : Nat) (acc : List Pat) (zs : List ByteArray) : newG k acc (zs.drop zs.length) = (acc, 0, 0) := by rw [List.drop_length, newG]
theorem infoP : (Tryd.prog.info? 64).map (fun i => (i.zero, i.size, i.bytes)) = some (some (.agg #[.slice none 0 0, .slice none 0 0]), LP.C, 48) := by kernel_rfl
theorem mayB_len {p : Pat} (h : OkP p.1 p.2) : 1 ≤ p.1.length ∧ p.1.length ≤ 18 ∧ 1 ≤ p.2.length ∧ p.2.length ≤ 19 := by
  have := mayB_length h.may
  have := h.len
  omega
theorem sliceV_lt {q : IntKind} {w w' : World} {v : Value} {xs : List Int} (h : SliceV q w w' v xs) (hx : 1 ≤ xs.length) : ∃ A c, v = .slice A xs.length c ∧ (∀ a, A = some a → w.heap.size ≤ a.block) ∧ (∀ a, A = some a → a.block < w'.heap.size) ∧ Has w' w'.heap.size A (xs.map (Value.int q)) := by
  obtain ⟨A, c, rfl, hc, hh, _⟩ := h
  refine ⟨A, c, rfl, hc.2, fun a ha => ?_, hh⟩
  obtain ⟨b, off, e, hb, _⟩ := hh (by intro e; rw [List.map_eq_nil_iff] at e; rw [e] at hx; simp at hx)
  rw [e] at ha
  injection ha with ha
  rw [← ha]
  exact hb

set_option maxRecDepth 20000 in
set_option maxHeartbeats 4000000 in
theorem rnew_ok (A : Option Addr) (c : Nat) (zs : List ByteArray) (w : World) (hn : zs.length ≤ 100000) (hz : ∀ z ∈ zs, z.size ≤ 1000000) (h : Has w w.heap.size A (zs.map Value.string)) :
    Calls Tryd.prog 18 #[.slice A zs.length c] w fun e w' => ∃ v, e = .returned (.tuple #[v, .int .i64 (newS zs).2.1, .int .i64 (newS zs).2.2]) ∧ ReadsP w' v (newS zs).1 ∧ Below w.heap.size w w' := by
  obtain ⟨V, hV⟩ : ∃ V, newS zs = V := ⟨_, rfl⟩
  rw [hV]
  unfold newS at hV
  by_cases hm : 512 < zs.length
  · rw [if_pos hm] at hV
    have HV := Lib.hid hV
    have hm' : (zs.length : Int) > 512 := by omega
    clear hV h hz
    go_enter Tryd.func18, Tryd.ntmps18
    go_wp2
    go_ret3
    rw [← HV.out]
    exact ⟨_, rfl, readsP_nil _, Below.refl _ _⟩
  · rw [if_neg hm] at hV
    have HV := Lib.hid hV
    have hm' : ¬ (zs.length : Int) > 512 := by omega
    have HZ := Lib.hid hz
    have HH := Lib.hid h
    clear hV h hz
    go_enter Tryd.func18, Tryd.ntmps18
    go_wp2
    go_loopw [5, 6] (fun v i wr => ∃ (k : Nat) (rows : List RowP) (l : List Pat), k ≤ zs.length ∧ l.length = k ∧ i = .int .i64 k ∧ OwnP w.heap.size w wr v rows l ∧ Hid (newG k l (zs.drop k) = V) ∧ Hid (∀ p ∈ l, OkP p.1 p.2)) (fun _ i _ => zs.length - (intOf i).toNat)
    case atStart => exact ⟨0, [], [], by omega, rfl, rfl, OwnP.nil_ w, HV, Lib.hid (by simp)⟩
    case round =>
      obtain ⟨k, rows, l, hk, hl, rfl, HO, HG, HP⟩ := hrel
      have hbl := HO.bel
      have hB := hbl.size
      have hrl := HO.len
      obtain ⟨A5, c5, rfl, _, _, _⟩ := HO.own.has
      have hrk : rows.length = k := by omega
      rw [hrk] at HO ⊢
      clear hrl
      have HRK := Lib.hid hrk
      clear hrk
      have HOH := Lib.hid HO
      by_cases hlt : k < zs.length
      · obtain ⟨b, off, rfl, hb, hcs⟩ := HH.out.at_str hlt
        have hcc := (hbl.cell (p := ⟨b, off + k, none⟩) hb).trans hcs
        have HNO := fun q => Lib.hid (newG_none (acc := l) hlt q)
        have HTW := fun (p : Pat) q => Lib.hid (fun (i : Nat) hi he => newG_twice (acc := l) (p := p) (i := i) hlt q hi he)
        have HNX := fun (p : Pat) q => Lib.hid (fun hn => newG_next (acc := l) (p := p) hlt q hn)
        have hsz := HZ.out _ (List.getElem_mem hlt)
        obtain ⟨s, hs⟩ : ∃ s, zs[k] = s := ⟨_, rfl⟩
        rw [hs] at hcc hsz
        simp only [hs] at HNO HTW HNX
        have cp := rparse_ok s wr hsz
        clear hs hcs hb hsz
        obtain ⟨P, hP⟩ : ∃ P, patS s = P := ⟨_, rfl⟩
        rw [hP] at cp HNO
        cases P with
        | none =>
          have HN := Lib.hid ((HNO rfl).out.symm.trans HG.out)
          clear HNO HTW HNX hP HO
          go_wp2_with (go_at_call 10; refine cp.mono ?_; rintro e w3 ⟨rfl, hb3⟩)
          go_ret3
          rw [← HN.out]
          exact ⟨_, rfl, readsP_nil _, below_trans hbl hb3 hB⟩
        | some p =>
          have HT := HTW p hP
          have HX := HNX p hP
          have hpo := patS_ok hP
          have hpl := mayB_len hpo
          have HPO := Lib.hid hpo
          clear HNO HTW HNX hP hpo HO
          go_wp2_with (go_at_call 10; refine cp.mono ?_; rintro e w3 ⟨v7, v8, rfl, hs7, hs8⟩; have hb3 := hs7.choose_spec.choose_spec.2.2.2; obtain ⟨A7, c7, rfl, hf7, hl7, hh7⟩ := sliceV_lt hs7 hpl.1; obtain ⟨A8, c8, rfl, hf8, hl8, hh8⟩ := sliceV_lt hs8 hpl.2.2.1; clear hs7 hs8 cp)
          have HO3 := HOH.out.up hb3 hB
          have hr3 : RowP.reads w3 ⟨A7, p.1.length, c7, A8, p.2.length, c8⟩ p := ⟨rfl, rfl, hh7, hh8, hl7, hl8⟩
          have HFR : Hid (RowP.far ⟨A7, p.1.length, c7, A8, p.2.length, c8⟩ (.slice A5 k c5)) := Lib.hid ⟨fun a ha e => by have := HOH.out.own.own_lt _ e; have := hf7 a ha; omega, fun a ha e => by have := HOH.out.own.own_lt _ e; have := hf8 a ha; omega⟩
          clear hf7 hl7 hh7 hf8 hl8 hh8 hcc
          go_loopw [10] (fun j W => ∃ q : Nat, q ≤ k ∧ j = .int .i64 q ∧ OwnP w.heap.size w W (.slice A5 k c5) rows l ∧ RowP.reads W ⟨A7, p.1.length, c7, A8, p.2.length, c8⟩ p ∧ Hid (∀ (i : Nat) (hi : i < l.length), i < q → l[i].1 ≠ p.1)) (fun j _ => k - (intOf j).toNat)
          case atStart => exact ⟨0, by omega, rfl, HO3, hr3, Lib.hid (fun i hi h => absurd h (by omega))⟩
          case round =>
            obtain ⟨q, hq, rfl, HOq, hrq, HQ⟩ := hrel
            by_cases hqk : q < k
            · have hql : q < l.length := by omega
              obtain ⟨g, r', hA5, hr', hc0, _⟩ := HOq.at_ hql
              have hp2 := mayB_len (HP.out _ (List.getElem_mem hql))
              have HTq := Lib.hid (fun he => HT.out q hql he)
              have HQ2 := fun (hne : l[q].1 ≠ p.1) => Lib.hid (show ∀ (i : Nat) (hi : i < l.length), i < q + 1 → l[i].1 ≠ p.1 from fun i hi hiq => by
                rcases Nat.lt_or_ge i q with h1 | h1
                · exact HQ.out i hi h1
                · have : i = q := by omega
                  subst this
                  exact hne)
              obtain ⟨p2, hp2e⟩ : ∃ p2, l[q] = p2 := ⟨_, rfl⟩
              rw [hp2e] at hr' hp2
              simp only [hp2e] at HTq HQ2
              clear hp2e
              have cs := sames_ok r'.A A7 r'.c c7 p2.1 p.1 _ (by omega) (by omega) hr'.one hrq.one
              rw [hr'.n] at hc0
              have hbq := HOq.bel
              have HOQ := Lib.hid HOq
              have HRQ := Lib.hid hrq
              have hBq := hbq.size
              clear HOq hrq hr' hr3 HO3
              subst hA5
              by_cases he : p2.1 = p.1
              · have HN := Lib.hid ((HTq.out he).symm.trans HG.out)
                rw [decide_eq_true he] at cs
                clear HTq HQ2 he
                go_wp2_with (go_at_call 11; refine cs.mono ?_; rintro e w5 ⟨rfl, hb5⟩)
                go_ret3
                rw [← HN.out]
                exact ⟨_, rfl, readsP_nil _, below_trans hbq hb5 hBq⟩
              · have HQ3 := HQ2 he
                rw [decide_eq_false he] at cs
                clear HTq HQ2 he
                go_wp2_with (go_at_call 11; refine cs.mono ?_; rintro e w5 ⟨rfl, hb5⟩)
                go_roundw
                case rel => exact ⟨q + 1, by omega, by go_num, HOQ.out.up hb5 hBq, HRQ.out.carry hb5, HQ3⟩
                case measure => simp [intOf]; omega
            · obtain rfl : q = k := by omega
              have HG2 := Lib.hid ((HX.out (fun i hi => HQ.out i hi (by omega))).symm.trans HG.out)
              have hown := HOq.own
              have hBq := HOq.bel.size
              have hbq := HOq.bel
              have HOQ := Lib.hid HOq
              have HRQ := Lib.hid hrq
              clear HOq hrq hr3 HO3 HT HX HG
              go_wp2_with (at_builtin; refine wpList_pushN (R := LP) rfl _ _ 39 rfl _ Tryd.underlying39 infoP rfl (by decide) (by decide) w.heap.size _ rows ⟨A7, p.1.length, c7, A8, p.2.length, c8⟩ _ _ rfl hown rfl rfl hBq (by have := HRK.out; omega) ?_; intro v' w5 hM5 hb5 hf5)
              go_roundw
              case rel => exact ⟨q + 1, _, l ++ [p], by omega, by simp; omega, by go_num, HOQ.out.push HRQ.out HFR.out hM5 hb5 hf5, HG2, Lib.hid (fun x hx => by
                rcases List.mem_append.1 hx with h1 | h1
                · exact HP.out x h1
                · rw [List.mem_singleton.1 h1]; exact HPO.out)⟩
              case measure => simp [intOf]; omega
      · obtain rfl : k = zs.length := by omega
        have HN := Lib.hid ((newG_end zs.length l zs).symm.trans HG.out)
        go_wp2
        go_ret3
        rw [← HN.out]
        exact ⟨_, rfl, HOH.out.readsP, hbl⟩
theorem newG_ok : ∀ (zs : List ByteArray) (k : Nat) (acc : List Pat), (∀ p ∈ acc, OkP p.1 p.2) → (∀ p ∈ (newG k acc zs).1, OkP p.1 p.2) ∧ (newG k acc zs).1.length ≤ acc.length + zs.length
  | [], k, acc, h => ⟨h, by simp [newG]⟩
  | s :: r, k, acc, h => by
    rw [newG]
    cases e : patS s with
    | none => exact ⟨by simp, by simp⟩
    | some p =>
      simp only
      split
      · exact ⟨by simp, by simp⟩
      · have ih := newG_ok r (k + 1) (acc ++ [p]) (fun q hq => by
          rcases List.mem_append.1 hq with h1 | h1
          · exact h q h1
          · rw [List.mem_singleton.1 h1]; exact patS_ok e)
        refine ⟨ih.1, ?_⟩
        have := ih.2
        simp only [List.length_append, List.length_cons, List.length_nil] at this ⊢
        omega
theorem newS_ok (zs : List ByteArray) : (∀ p ∈ (newS zs).1, OkP p.1 p.2) ∧ (newS zs).1.length ≤ zs.length := by
  unfold newS
  split
  · exact ⟨by simp, by simp⟩
  · have := newG_ok zs 0 [] (by simp)
    simpa using this
theorem ReadsP.form {w : World} {v : Value} {l : List Pat} (h : ReadsP w v l) : ∃ A c, v = .slice A l.length c := let ⟨A, c, _, e, _⟩ := h; ⟨A, c, e⟩
end Go.Proofs.YtekjejbcdnghjaaDoor
