/-
  slices.Equal at runes and at ints; a pattern written by the program ('written'); its Print. Conditions: at most 1000 letters and digits; the library's tables lie in memory.
-/
import Derived.Test.YtekjejbcdnghjaaDoorHpd
import Derived.Test.YtekjejbcdnghjaaDoorHbl
import Derived.Test.YtekjejbcdnghjaaDoorHrc
import Derived.Test.YtekjejbcdnghjaaDoorHrd
import Derived.Test.YtekjejbcdnghjaaDoorUts
import Derived.Lib.ItoaLen
import Derived.Lib.AppendIntMem
import Derived.Shelf.SlSortCmp.QuietGrown
set_option linter.unusedVariables false
set_option linter.unusedSimpArgs false
namespace Go.Proofs.YtekjejbcdnghjaaDoor
open Go.ChangeShapes Go.WideShapes Go.ChangeAt Go.RowKit Go.Sort

set_option maxHeartbeats 1000000 in
theorem equalR_ok (A B : Option Addr) (c d : Nat) (xs ys : List Int) (w : World) (hn : xs.length ≤ 1000000000) (hm : ys.length ≤ 1000000000) (h1 : Has w w.heap.size A (xs.map (Value.int .i32))) (h2 : Has w w.heap.size B (ys.map (Value.int .i32))) :
    Calls Tryd.prog 35 #[.slice A xs.length c, .slice B ys.length d] w fun e w' => e = .returned (.bool (decide (xs = ys))) ∧ Below w.heap.size w w' := by
  by_cases hl : xs.length = ys.length
  · obtain ⟨V, hV⟩ : ∃ V, decide (xs = ys) = V := ⟨_, rfl⟩
    rw [hV]
    have HV := Lib.hid hV
    have HL := Lib.hid hl
    clear hV
    rw [← hl]
    clear hl
    go_enter Tryd.func35, Tryd.ntmps35
    go_wp2
    go_loopw [13] (fun i wr => ∃ k : Nat, k ≤ xs.length ∧ i = .int .i64 k ∧ Hid (xs.take k = ys.take k) ∧ ∃ q, wr = w.drewN q) (fun i _ => xs.length - (intOf i).toNat)
    case atStart => exact ⟨0, by omega, rfl, Lib.hid rfl, 0, rfl⟩
    case round =>
      obtain ⟨k, hk, rfl, HT, q, rfl⟩ := hrel
      by_cases hlt : k < xs.length
      · have hlt2 : k < ys.length := by rw [← HL.out]; exact hlt
        obtain ⟨b, off, rfl, hb, hc⟩ := h1.at_int hlt
        obtain ⟨b2, off2, rfl, hb2, hc2⟩ := h2.at_int hlt2
        obtain ⟨X, hX⟩ : ∃ X, xs[k] = X := ⟨_, rfl⟩
        obtain ⟨Y, hY⟩ : ∃ Y, ys[k] = Y := ⟨_, rfl⟩
        rw [hX] at hc
        rw [hY] at hc2
        have HX := Lib.hid hX
        have HY := Lib.hid hY
        clear hX hY h1 h2
        by_cases hxy : X = Y
        · have HTn := Lib.hid (take_eq xs ys k hlt (by rw [← HL.out]; exact hlt) HT.out (by rw [HX.out, HY.out]; exact hxy))
          subst hxy
          go_wp2
          go_quiet (fail)
          go_wp2
          go_roundw
          case rel => exact ⟨k + 1, by omega, by go_num, HTn, _, rfl⟩
          case measure => simp [intOf]; omega
        · have HF := Lib.hid (ne_at xs ys k hlt (by rw [← HL.out]; exact hlt) (by rw [HX.out, HY.out]; exact hxy))
          go_wp2
          go_quiet (fail)
          go_wp2
          go_ret
          exact ⟨by rw [← HV.out, HF.out]; rfl, below_drewN (below_drewN (Below.refl _ _) _) _⟩
      · obtain rfl : k = xs.length := by omega
        have HE : Hid (V = true) := Lib.hid (by
          have := HT.out
          rw [List.take_length, HL.out, List.take_length] at this
          rw [← HV.out, this]; simp)
        go_wp2
        go_ret
        exact ⟨by rw [HE.out]; rfl, below_drewN (Below.refl _ _) _⟩
  · have e : decide (xs = ys) = false := decide_eq_false (fun h => hl (by rw [h]))
    rw [e]
    clear e
    have hl2 : ¬ ((xs.length : Int) = ys.length) := by omega
    clear hl
    go_enter Tryd.func35, Tryd.ntmps35
    go_wp2
    go_ret
    exact ⟨rfl, Below.refl _ _⟩
set_option maxHeartbeats 1000000 in
theorem equalI_ok (A B : Option Addr) (c d : Nat) (xs ys : List Int) (w : World) (hn : xs.length ≤ 1000000000) (hm : ys.length ≤ 1000000000) (h1 : Has w w.heap.size A (xs.map (Value.int .i64))) (h2 : Has w w.heap.size B (ys.map (Value.int .i64))) :
    Calls Tryd.prog 36 #[.slice A xs.length c, .slice B ys.length d] w fun e w' => e = .returned (.bool (decide (xs = ys))) ∧ Below w.heap.size w w' := by
  by_cases hl : xs.length = ys.length
  · obtain ⟨V, hV⟩ : ∃ V, decide (xs = ys) = V := ⟨_, rfl⟩
    rw [hV]
    have HV := Lib.hid hV
    have HL := Lib.hid hl
    clear hV
    rw [← hl]
    clear hl
    go_enter Tryd.func36, Tryd.ntmps36
    go_wp2
    go_loopw [13] (fun i wr => ∃ k : Nat, k ≤ xs.length ∧ i = .int .i64 k ∧ Hid (xs.take k = ys.take k) ∧ ∃ q, wr = w.drewN q) (fun i _ => xs.length - (intOf i).toNat)
    case atStart => exact ⟨0, by omega, rfl, Lib.hid rfl, 0, rfl⟩
    case round =>
      obtain ⟨k, hk, rfl, HT, q, rfl⟩ := hrel
      by_cases hlt : k < xs.length
      · have hlt2 : k < ys.length := by rw [← HL.out]; exact hlt
        obtain ⟨b, off, rfl, hb, hc⟩ := h1.at_int hlt
        obtain ⟨b2, off2, rfl, hb2, hc2⟩ := h2.at_int hlt2
        obtain ⟨X, hX⟩ : ∃ X, xs[k] = X := ⟨_, rfl⟩
        obtain ⟨Y, hY⟩ : ∃ Y, ys[k] = Y := ⟨_, rfl⟩
        rw [hX] at hc
        rw [hY] at hc2
        have HX := Lib.hid hX
        have HY := Lib.hid hY
        clear hX hY h1 h2
        by_cases hxy : X = Y
        · have HTn := Lib.hid (take_eq xs ys k hlt (by rw [← HL.out]; exact hlt) HT.out (by rw [HX.out, HY.out]; exact hxy))
          subst hxy
          go_wp2
          go_quiet (fail)
          go_wp2
          go_roundw
          case rel => exact ⟨k + 1, by omega, by go_num, HTn, _, rfl⟩
          case measure => simp [intOf]; omega
        · have HF := Lib.hid (ne_at xs ys k hlt (by rw [← HL.out]; exact hlt) (by rw [HX.out, HY.out]; exact hxy))
          go_wp2
          go_quiet (fail)
          go_wp2
          go_ret
          exact ⟨by rw [← HV.out, HF.out]; rfl, below_drewN (below_drewN (Below.refl _ _) _) _⟩
      · obtain rfl : k = xs.length := by omega
        have HE : Hid (V = true) := Lib.hid (by
          have := HT.out
          rw [List.take_length, HL.out, List.take_length] at this
          rw [← HV.out, this]; simp)
        go_wp2
        go_ret
        exact ⟨by rw [HE.out]; rfl, below_drewN (Below.refl _ _) _⟩
  · have e : decide (xs = ys) = false := decide_eq_false (fun h => hl (by rw [h]))
    rw [e]
    clear e
    have hl2 : ¬ ((xs.length : Int) = ys.length) := by omega
    clear hl
    go_enter Tryd.func36, Tryd.ntmps36
    go_wp2
    go_ret
    exact ⟨rfl, Below.refl _ _⟩

theorem i64_range {n : Int} (h : (Lit.int .i64 n).wf = true) : -9223372036854775808 ≤ n ∧ n ≤ 9223372036854775807 := by
  simp [Lit.wf, IntKind.min, IntKind.max, IntKind.signed, IntKind.bits] at h
  omega
theorem i32_range {n : Int} (h : (Lit.int .i32 n).wf = true) : -2147483648 ≤ n ∧ n ≤ 2147483647 := by
  simp [Lit.wf, IntKind.min, IntKind.max, IntKind.signed, IntKind.bits] at h
  omega
/-- what is written as far as i digits, as bytes -/
def wrN (l d : List Int) : Nat → List UInt8
  | 0 => []
  | i + 1 => wrN l d i ++ (if d.getD i 0 = 0 then [] else Lib.itoa (d.getD i 0)) ++ (if i < l.length then Lib.encodeRune (l.getD i 0) else [])
theorem wrN_len (l d : List Int) (hd : ∀ x ∈ d, (Lit.int .i64 x).wf = true) : ∀ i, (wrN l d i).length ≤ 25 * i
  | 0 => by simp [wrN]
  | i + 1 => by
    have ih := wrN_len l d hd i
    have h1 : (if d.getD i 0 = 0 then ([] : List UInt8) else Lib.itoa (d.getD i 0)).length ≤ 21 := by
      split
      · simp
      · rename_i h0
        have hi : i < d.length := by
          rcases Nat.lt_or_ge i d.length with h | h
          · exact h
          · exfalso; apply h0; simp [List.getD, List.getElem?_eq_none h]
        have hm : d.getD i 0 ∈ d := by simp only [List.getD, List.getElem?_eq_getElem hi, Option.getD_some]; exact List.getElem_mem hi
        have := i64_range (hd _ hm)
        exact Lib.itoa_length_le _ this.1 this.2
    have h2 : (if i < l.length then Lib.encodeRune (l.getD i 0) else []).length ≤ 4 := by
      split
      · have := Lib.runeCells_le (l.getD i 0)
        rw [Lib.runeCells_length] at this
        exact this.2
      · simp
    rw [wrN, List.length_append, List.length_append]
    omega
theorem rcs_append (a b : List UInt8) : Lib.byteCells (a ++ b) = Lib.byteCells a ++ Lib.byteCells b := List.map_append
theorem scs_of (l : List UInt8) : Lib.strCells ⟨l.toArray⟩ = Lib.byteCells l := rfl

/-- the bytes of digits and letters of a pattern -/
theorem itoa_digit {x : Int} (h : 0 ≤ x ∧ x ≤ 9) : Lib.itoa x = [UInt8.ofNat (48 + x.toNat)] := by
  unfold Lib.itoa
  rw [if_neg (by omega), Lib.decDigits, dif_pos (by omega)]
theorem bytes_enc (t : List Int) : (t.flatMap fun r => (Lib.encodeRune r)).map (fun b => (b.toNat : Int)) = encZ t := by
  unfold encZ
  rw [List.map_flatMap]
  congr 1
  funext r
  have h1 := Lib.byteCells_encodeRune r
  unfold Lib.byteCells Lib.runeCells at h1
  have h2 : ∀ (a : List UInt8) (b : List Int), (a.map fun x => Value.int .u8 (x.toNat : Int)) = (b.map fun x => Value.int .u8 x) → a.map (fun x => (x.toNat : Int)) = b := fun a => by
    induction a with
    | nil => intro b h; cases b with
      | nil => rfl
      | cons y b => simp at h
    | cons x a ih => intro b h; cases b with
      | nil => simp at h
      | cons y b =>
        simp only [List.map_cons, List.cons.injEq] at h ⊢
        obtain ⟨h3, h4⟩ := h
        injection h3 with _ h3
        exact ⟨h3, ih b h4⟩
  exact h2 _ _ h1
theorem flat_snoc {α β : Type} (F : α → List β) (a b : List α) : (a ++ b).flatMap F = a.flatMap F ++ b.flatMap F := List.flatMap_append
theorem wrN_is (l d : List Int) (hd : ∀ x ∈ d, 0 ≤ x ∧ x ≤ 9) : ∀ i, i ≤ d.length → wrN l d i = (prN l d i).flatMap fun r => Lib.encodeRune r
  | 0, _ => rfl
  | i + 1, hi => by
    have ih := wrN_is l d hd i (by omega)
    have hm : d.getD i 0 ∈ d := by simp only [List.getD, List.getElem?_eq_getElem (show i < d.length by omega), Option.getD_some]; exact List.getElem_mem _
    have hx := hd _ hm
    rw [wrN, prN, flat_snoc, flat_snoc, ← ih]
    congr 1
    · congr 1
      unfold putD
      by_cases h0 : d.getD i 0 = 0
      · rw [if_pos h0, if_neg (by omega)]; rfl
      · rw [if_neg h0, if_pos (by omega), itoa_digit hx]
        have e1 : Lib.encodeRune (48 + d.getD i 0) = [UInt8.ofNat (48 + (d.getD i 0).toNat)] := by
          unfold Lib.encodeRune
          rw [Lib.encodeRuneZ_one (by omega) (by omega)]
          simp only [List.map_cons, List.map_nil]
          congr 1
          congr 1
          omega
        simp only [List.flatMap_cons, List.flatMap_nil, List.append_nil]
        exact e1.symm
    · split <;> simp
theorem wr_bytes {l d : List Int} (h : OkP l d) : bytesS ⟨(wrN l d d.length).toArray⟩ = encZ (prS l d) := by
  unfold bytesS
  rw [wrN_is l d h.digits d.length (Nat.le_refl _), prN_is l d h.len]
  exact bytes_enc _
theorem wr_good {l d : List Int} (h : OkP l d) (h' : allP (prS l d) = true) : (⟨(wrN l d d.length).toArray⟩ : ByteArray) = printS l d ∧ patS ⟨(wrN l d d.length).toArray⟩ = some (l, d) := by
  have e : (⟨(wrN l d d.length).toArray⟩ : ByteArray) = strOfNums (encZ (prS l d)) := by
    rw [← wr_bytes h, strOf_bytes]
  rw [e, printS_good h h', patS_enc h', parse_print h]
  exact ⟨rfl, rfl⟩
theorem pat_all {s : ByteArray} {l d : List Int} (h : patS s = some (l, d)) : OkP l d ∧ allP (prS l d) = true := by
  have hok := patS_ok h
  refine ⟨hok, ?_⟩
  unfold patS at h
  split at h
  · rename_i h0
    have hb := (decP_back _ (byteZ_of s) h0).1
    have ha : allP (losP (bytesS s)) = true := (losG_facts _ (byteZ_of s) _ 0 [] (by omega) (by simp) rfl).2
    rw [← hb] at ha
    have hl : ∀ c ∈ l, Lib.validRune c = true := fun c hc => by
      unfold parseS at h
      cases e : pz 0 false (decP (bytesS s)).1 with
      | none => rw [e] at h; cases h
      | some z =>
        rw [e] at h
        simp only at h
        split at h
        · injection h with h
          subst h
          have h2 := (pz_letters _ 0 false e c hc).1
          unfold allP at ha
          rw [List.all_eq_true] at ha
          exact ha c h2
        · cases h
    have hm : ∀ (l d : List Int), (∀ c ∈ l, Lib.validRune c = true) → (∀ x ∈ d, 0 ≤ x ∧ x ≤ 9) → allP (prS l d) = true := fun l => by
      induction l with
      | nil =>
        intro d _ hd
        cases d with
        | nil => rfl
        | cons x d =>
          have := hd x (by simp)
          unfold prS allP
          split
          · rw [List.all_cons, List.all_nil, Bool.and_true]
            unfold Lib.validRune
            simp; omega
          · rfl
      | cons c l ih =>
        intro d hl hd
        cases d with
        | nil =>
          simp only [prS, allP, List.all_eq_true]
          exact fun x hx => hl x hx
        | cons x d =>
          have h1 := hd x (by simp)
          have h2 := ih d (fun c hc => hl c (by simp [hc])) (fun y hy => hd y (by simp [hy]))
          unfold prS
          unfold allP at h2 ⊢
          rw [List.all_append, List.all_cons, h2, hl c (by simp)]
          split
          · rw [List.all_cons, List.all_nil, Bool.and_true]
            unfold Lib.validRune
            simp; omega
          · rfl
    exact hm l d hl hok.digits
  · cases h
theorem wr_bad {l d : List Int} (h : printS l d = ByteArray.empty ∨ True) (hp : patS ⟨(wrN l d d.length).toArray⟩ ≠ some (l, d)) : printS l d = ByteArray.empty := by
  by_cases h1 : OkP l d
  · by_cases h2 : allP (prS l d) = true
    · exact absurd (wr_good h1 h2).2 hp
    · exact printS_ill (by simpa using h2)
  · exact printS_bad h1

theorem bu_stays {T e : TypeId} {B b : Nat} {bs : List Value} {w w' : World} (h : Lib.IsBuilderF T e B b bs w) (hb : Below w.heap.size w w') : Lib.IsBuilderF T e B b bs w' := by
  have key : ∀ p, Lib.BuilderAtF T e B b p bs w → Lib.BuilderAtF T e B b p bs w' := fun p ⟨h1, v, h2, h3, h4⟩ => by
    have lt : ∀ (x : Nat) (o : Obj), w.heap[x]? = some o → w'.heap[x]? = some o := fun x o ho => by
      rw [hb.block x (Array.getElem?_eq_some_iff.1 ho).1]; exact ho
    refine ⟨h1, v, lt _ _ h2, ⟨h3.1, ?_⟩, h4⟩
    rcases h3.2 with h5 | ⟨g, cap, cur, fz, a1, a2, a3, a4⟩
    · exact .inl h5
    · exact .inr ⟨g, cap, cur, fz, a1, a2, lt _ _ a3, a4⟩
  exact h.imp (key _) (key _)

set_option maxRecDepth 100000 in
set_option maxHeartbeats 8000000 in
theorem written_ok (A B : Option Addr) (c c' : Nat) (l d : List Int) (w : World) (hl : l.length ≤ 1000) (hd : d.length ≤ 1000) (hlw : ∀ z ∈ l, (Lit.int .i32 z).wf = true) (hdw : ∀ z ∈ d, (Lit.int .i64 z).wf = true)
    (hT : Lib.TabIs Tryd.prog w "internal/strconv.uint64pow10" .u64 Lib.pow10Tab) (h1 : Has w w.heap.size A (l.map (Value.int .i32))) (h2 : Has w w.heap.size B (d.map (Value.int .i64))) :
    Calls Tryd.prog 34 #[.slice A l.length c, .slice B d.length c'] w fun e w' => e = .returned (.string ⟨(wrN l d d.length).toArray⟩) ∧ Below w.heap.size w w' := by
  have HLN := Lib.hid (wrN_len l d hdw)
  have H1 := Lib.hid h1
  have H2 := Lib.hid h2
  have HLW := Lib.hid hlw
  have HDW := Lib.hid hdw
  have HT := Lib.hid (Lib.tabBelow_of_tabIs hT)
  clear h1 h2 hlw hdw hT
  go_enter Tryd.func34, Tryd.ntmps34
  go_wp2
  have h0 : BuS w.heap.size w.heap.size w (w.alloc (.cells #[.pointer none, .slice none 0 0] 88)) [] := ⟨Lib.IsBuilderF.of (Lib.fresh_isBuilder 88 5 w), (Below.refl _ _).alloc (Nat.le_refl _) _, (Lib.OthersKept.refl _ _ w).alloc _⟩
  have H0 := Lib.hid h0
  clear h0
  go_loopw [10] (fun v wr => ∃ i : Nat, i ≤ d.length ∧ v = .int .i64 i ∧ Hid (Lib.IsBuilderF 88 5 w.heap.size w.heap.size (Lib.byteCells (wrN l d i)) wr) ∧ Below w.heap.size w wr) (fun v _ => d.length - (intOf v).toNat)
  case atStart => exact ⟨0, by omega, rfl, Lib.hid H0.out.is_, H0.out.bel⟩
  case round =>
    clear H0
    obtain ⟨i, hi, rfl, HB, hbl⟩ := hrel
    have hbs := hbl.size
    by_cases hlt : i < d.length
    · obtain ⟨b2, o2, rfl, hb2, hc2⟩ := H2.out.at_int hlt
      have hcd := (hbl.cell (p := ⟨b2, o2 + i, none⟩) hb2).trans hc2
      have hxr := i64_range (HDW.out _ (List.getElem_mem hlt))
      have hgd : d.getD i 0 = d[i] := by simp [List.getD, List.getElem?_eq_getElem hlt]
      obtain ⟨X, hX⟩ : ∃ X, d[i] = X := ⟨_, rfl⟩
      rw [hX] at hcd hxr hgd
      have hlen := HLN.out i
      have hz : ((X == 0) = true ∧ X = 0) ∨ ((X == 0) = false ∧ X ≠ 0) := by
        by_cases h : X = 0
        · exact .inl ⟨by simp [h], h⟩
        · exact .inr ⟨by simp [h], h⟩
      have HGD := Lib.hid hgd
      clear hX hc2 hb2 hgd
      by_cases hil : i < l.length
      · obtain ⟨b1, o1, rfl, hb1, hc1⟩ := H1.out.at_int hil
        have hyr := i32_range (HLW.out _ (List.getElem_mem hil))
        have hgl : l.getD i 0 = l[i] := by simp [List.getD, List.getElem?_eq_getElem hil]
        obtain ⟨Y, hY⟩ : ∃ Y, l[i] = Y := ⟨_, rfl⟩
        rw [hY] at hc1 hyr hgl
        have HCL := Lib.hid (fun (u : World) (hu : Below w.heap.size w u) => (hu.cell (p := ⟨b1, o1 + i, none⟩) hb1).trans hc1)
        have HGL := Lib.hid hgl
        clear hY hc1 hgl
        rcases hz with ⟨hz1, hz2⟩ | ⟨hz1, hz2⟩
        · have HWN : Hid (wrN l d (i + 1) = wrN l d i ++ Lib.encodeRune Y) := Lib.hid (by rw [wrN, HGD.out, if_pos hz2, if_pos hil, HGL.out, List.append_nil])
          have hcl := HCL.out _ hbl
          subst hz2
          have HBR := Lib.hid HB.out
          have hblr := hbl
          have hsr := hbs
          go_wp2_with (go_at_call 56; refine (brune_ok w.heap.size w.heap.size _ Y hyr.1 hyr.2 _ HBR.out (by rw [Lib.byteCells_length]; omega) hsr).mono ?_; rintro e u3 ⟨rfl, hbu3⟩; have hb3 := Lib.hid (hblr.trans hbu3.bel); have HB3 := Lib.hid (show Lib.IsBuilderF 88 5 w.heap.size w.heap.size (Lib.byteCells (wrN l d (i + 1))) u3 by rw [HWN.out, rcs_append, Lib.byteCells_encodeRune]; exact hbu3.is_); clear hbu3)
          go_roundw
          case rel => exact ⟨i + 1, by omega, by go_num, HB3, hb3.out⟩
          case measure => simp [intOf]; omega
        · have HWN : Hid (wrN l d (i + 1) = (wrN l d i ++ Lib.itoa X) ++ Lib.encodeRune Y) := Lib.hid (by rw [wrN, HGD.out, if_neg hz2, if_pos hil, HGL.out])
          have hil2 := Lib.itoa_length_le X hxr.1 hxr.2
          have hsz : (⟨(Lib.itoa X).toArray⟩ : ByteArray).size = (Lib.itoa X).length := by simp [ByteArray.size]
          have HSZ := Lib.hid hsz
          clear hsz
          go_wp2_with (first
            | (go_at_call 55; refine (Tryd.strconv_Itoa X hxr.1 hxr.2 _ (HT.out _ hbl)).mono ?_; rintro e u ⟨rfl, k9, os9, hu⟩; have hup : Up wr u := (by rw [hu]; exact Up.of_grow wr k9 os9); have hbu := hbl.trans (hup.1.mono hbs); have HBu := Lib.hid (bu_stays HB.out hup.1); have hsu := hbu.size; clear hu hup)
            | (go_at_call 54; refine (bstring_ok w.heap.size w.heap.size _ ⟨(Lib.itoa X).toArray⟩ _ HBu.out (by rw [Lib.byteCells_length, HSZ.out]; omega) hsu).mono ?_; rintro e u2 ⟨rfl, hbu2⟩; have hblr := hbu.trans hbu2.bel; have hcl := HCL.out _ hblr; have hsr := hblr.size; have HBR := Lib.hid (show Lib.IsBuilderF 88 5 w.heap.size w.heap.size (Lib.byteCells (wrN l d i ++ Lib.itoa X)) u2 by rw [rcs_append, ← scs_of (Lib.itoa X)]; exact hbu2.is_); clear hbu2 hbu hbl)
            | (go_at_call 56; refine (brune_ok w.heap.size w.heap.size _ Y hyr.1 hyr.2 _ HBR.out (by rw [Lib.byteCells_length, List.length_append]; omega) hsr).mono ?_; rintro e u3 ⟨rfl, hbu3⟩; have hb3 := Lib.hid (hblr.trans hbu3.bel); have HB3 := Lib.hid (show Lib.IsBuilderF 88 5 w.heap.size w.heap.size (Lib.byteCells (wrN l d (i + 1))) u3 by rw [HWN.out, rcs_append, Lib.byteCells_encodeRune]; exact hbu3.is_); clear hbu3))
          go_roundw
          case rel => exact ⟨i + 1, by omega, by go_num, HB3, hb3.out⟩
          case measure => simp [intOf]; omega
      · rcases hz with ⟨hz1, hz2⟩ | ⟨hz1, hz2⟩
        · have HWN : Hid (wrN l d (i + 1) = wrN l d i) := Lib.hid (by rw [wrN, HGD.out, if_pos hz2, if_neg hil, List.append_nil, List.append_nil])
          subst hz2
          go_wp2
          go_roundw
          case rel => exact ⟨i + 1, by omega, by go_num, Lib.hid (by rw [HWN.out]; exact HB.out), hbl⟩
          case measure => simp [intOf]; omega
        · have HWN : Hid (wrN l d (i + 1) = wrN l d i ++ Lib.itoa X) := Lib.hid (by rw [wrN, HGD.out, if_neg hz2, if_neg hil, List.append_nil])
          have hil2 := Lib.itoa_length_le X hxr.1 hxr.2
          have hsz : (⟨(Lib.itoa X).toArray⟩ : ByteArray).size = (Lib.itoa X).length := by simp [ByteArray.size]
          have HSZ := Lib.hid hsz
          clear hsz
          go_wp2_with (first
            | (go_at_call 55; refine (Tryd.strconv_Itoa X hxr.1 hxr.2 _ (HT.out _ hbl)).mono ?_; rintro e u ⟨rfl, k9, os9, hu⟩; have hup : Up wr u := (by rw [hu]; exact Up.of_grow wr k9 os9); have hbu := hbl.trans (hup.1.mono hbs); have HBu := Lib.hid (bu_stays HB.out hup.1); have hsu := hbu.size; clear hu hup)
            | (go_at_call 54; refine (bstring_ok w.heap.size w.heap.size _ ⟨(Lib.itoa X).toArray⟩ _ HBu.out (by rw [Lib.byteCells_length, HSZ.out]; omega) hsu).mono ?_; rintro e u2 ⟨rfl, hbu2⟩; have hb3 := Lib.hid (hbu.trans hbu2.bel); have HB3 := Lib.hid (show Lib.IsBuilderF 88 5 w.heap.size w.heap.size (Lib.byteCells (wrN l d (i + 1))) u2 by rw [HWN.out, rcs_append, ← scs_of (Lib.itoa X)]; exact hbu2.is_); clear hbu2 hbu hbl))
          go_roundw
          case rel => exact ⟨i + 1, by omega, by go_num, HB3, hb3.out⟩
          case measure => simp [intOf]; omega
    · obtain rfl : i = d.length := by omega
      have cS := fun W (h : Lib.IsBuilderF 88 5 w.heap.size w.heap.size (Lib.byteCells (wrN l d d.length)) W) hb => Tryd.Builder_String_any_k w.heap.size w.heap.size (wrN l d d.length) W h hb
      go_wp2_with (go_at_call 57; refine (cS _ HB.out hbs).mono ?_; rintro e u ⟨rfl, _, hb, _⟩)
      go_ret
      exact ⟨rfl, hbl.trans hb⟩

set_option maxRecDepth 100000 in
set_option maxHeartbeats 8000000 in
theorem pprint_ok (A B : Option Addr) (c c' : Nat) (l d : List Int) (w : World) (hl : l.length ≤ 1000) (hd : d.length ≤ 1000) (hc : l.length ≤ c) (hc' : d.length ≤ c') (hlw : ∀ z ∈ l, (Lit.int .i32 z).wf = true) (hdw : ∀ z ∈ d, (Lit.int .i64 z).wf = true)
    (hT : Lib.Utf8Tabs 0 1 w) (hT2 : Lib.TabIs Tryd.prog w "internal/strconv.uint64pow10" .u64 Lib.pow10Tab) (h1 : Has w w.heap.size A (l.map (Value.int .i32))) (h2 : Has w w.heap.size B (d.map (Value.int .i64))) :
    Calls Tryd.prog 13 #[.slice A l.length c, .slice B d.length c'] w fun e w' => e = .returned (.string (printS l d)) ∧ Below w.heap.size w w' := by
  have cw := written_ok A B c c' l d w hl hd hlw hdw hT2 h1 h2
  have hlen := wrN_len l d hdw d.length
  have hgood := fun a b => wr_good (l := l) (d := d) a b
  have hbad := wr_bad (l := l) (d := d) (Or.inr trivial)
  have hall := fun h => pat_all (s := ⟨(wrN l d d.length).toArray⟩) (l := l) (d := d) h
  have hsz : (⟨(wrN l d d.length).toArray⟩ : ByteArray).size = (wrN l d d.length).length := by simp [ByteArray.size]
  obtain ⟨S, hS⟩ : ∃ S : ByteArray, ⟨(wrN l d d.length).toArray⟩ = S := ⟨_, rfl⟩
  rw [hS] at cw hbad hsz
  simp only [hS] at hgood hall
  have hS6 : S.size ≤ 1000000 := by omega
  have cp := fun (u : World) (hu : Below w.heap.size w u) => pparse_ok S u hS6 (Utf8Tabs_below hT hu)
  obtain ⟨V, hV⟩ : ∃ V, printS l d = V := ⟨_, rfl⟩
  rw [hV] at hbad ⊢
  simp only [hV] at hgood
  have H1 := Lib.hid h1
  have H2 := Lib.hid h2
  clear hS hsz hlen hV hT hT2 h1 h2 hlw hdw
  cases hP : patS S with
  | none =>
    simp only [hP] at cp
    have HE := Lib.hid (hbad (by rw [hP]; simp))
    clear hgood hbad hall
    go_enter Tryd.func13, Tryd.ntmps13
    go_wp2_with (first
      | (go_at_call 34; refine cw.mono ?_; rintro e w1 ⟨rfl, hb1⟩; have cp1 := cp w1 hb1)
      | (go_at_call 9; refine cp1.mono ?_; rintro e w2 ⟨rfl, hb2⟩))
    go_ret
    rw [HE.out]
    exact ⟨rfl, below_trans hb1 hb2 hb1.size⟩
  | some z =>
    simp only [hP] at cp
    have hzl := mayB_len (patS_ok hP)
    by_cases hz1 : z.1 = l
    · by_cases hz2 : z.2 = d
      · have hzz : patS S = some (l, d) := by rw [hP, ← hz1, ← hz2]
        have hok := hall hzz
        have HE := Lib.hid (hgood hok.1 hok.2).1
        have e1 : decide (z.1 = l) = true := decide_eq_true hz1
        have e2 : decide (z.2 = d) = true := decide_eq_true hz2
        have q1 := fun (C : Option Addr) (k : Nat) (u : World) => equalR_ok C A k c z.1 l u (by omega) (by omega)
        have q2 := fun (C : Option Addr) (k : Nat) (u : World) => equalI_ok C B k c' z.2 d u (by omega) (by omega)
        rw [e1] at q1
        rw [e2] at q2
        clear hgood hbad hall hzz hok e1 e2 hz1 hz2 hP
        go_enter Tryd.func13, Tryd.ntmps13
        go_wp2_with (first
          | (go_at_call 34; refine cw.mono ?_; rintro e w1 ⟨rfl, hb1⟩; have cp1 := cp w1 hb1)
          | (go_at_call 9; refine cp1.mono ?_; rintro e w2 ⟨v, u, rfl, ⟨Av, cv, rfl, _, hv, hb2⟩, ⟨Au, cu, rfl, _, hu, _⟩⟩; have hbb := below_trans hb1 hb2 hb1.size)
          | (go_at_call 35; refine (q1 Av cv _ hv (H1.out.carry hbb)).mono ?_; rintro e w3 ⟨rfl, hb3⟩; have hb23 := below_trans hbb hb3 hbb.size; have hu3 := hu.carry hb3)
          | (go_at_call 36; refine (q2 Au cu _ hu3 (H2.out.carry hb23)).mono ?_; rintro e w4 ⟨rfl, hb4⟩))
        go_ret
        rw [← HE.out]
        exact ⟨rfl, below_trans hb23 hb4 hb23.size⟩
      · have HE := Lib.hid (hbad (by rw [hP]; intro h; injection h with h; exact hz2 (by rw [h])))
        have e1 : decide (z.1 = l) = true := decide_eq_true hz1
        have e2 : decide (z.2 = d) = false := decide_eq_false hz2
        have q1 := fun (C : Option Addr) (k : Nat) (u : World) => equalR_ok C A k c z.1 l u (by omega) (by omega)
        have q2 := fun (C : Option Addr) (k : Nat) (u : World) => equalI_ok C B k c' z.2 d u (by omega) (by omega)
        rw [e1] at q1
        rw [e2] at q2
        clear hgood hbad hall e1 e2 hz1 hz2 hP
        go_enter Tryd.func13, Tryd.ntmps13
        go_wp2_with (first
          | (go_at_call 34; refine cw.mono ?_; rintro e w1 ⟨rfl, hb1⟩; have cp1 := cp w1 hb1)
          | (go_at_call 9; refine cp1.mono ?_; rintro e w2 ⟨v, u, rfl, ⟨Av, cv, rfl, _, hv, hb2⟩, ⟨Au, cu, rfl, _, hu, _⟩⟩; have hbb := below_trans hb1 hb2 hb1.size)
          | (go_at_call 35; refine (q1 Av cv _ hv (H1.out.carry hbb)).mono ?_; rintro e w3 ⟨rfl, hb3⟩; have hb23 := below_trans hbb hb3 hbb.size; have hu3 := hu.carry hb3)
          | (go_at_call 36; refine (q2 Au cu _ hu3 (H2.out.carry hb23)).mono ?_; rintro e w4 ⟨rfl, hb4⟩))
        go_ret
        rw [HE.out]
        exact ⟨rfl, below_trans hb23 hb4 hb23.size⟩
    · have HE := Lib.hid (hbad (by rw [hP]; intro h; injection h with h; exact hz1 (by rw [h])))
      have e1 : decide (z.1 = l) = false := decide_eq_false hz1
      have q1 := fun (C : Option Addr) (k : Nat) (u : World) => equalR_ok C A k c z.1 l u (by omega) (by omega)
      rw [e1] at q1
      clear hgood hbad hall e1 hz1 hP
      go_enter Tryd.func13, Tryd.ntmps13
      go_wp2_with (first
        | (go_at_call 34; refine cw.mono ?_; rintro e w1 ⟨rfl, hb1⟩; have cp1 := cp w1 hb1)
        | (go_at_call 9; refine cp1.mono ?_; rintro e w2 ⟨v, u, rfl, ⟨Av, cv, rfl, _, hv, hb2⟩, ⟨Au, cu, rfl, _, hu, _⟩⟩; have hbb := below_trans hb1 hb2 hb1.size)
        | (go_at_call 35; refine (q1 Av cv _ hv (H1.out.carry hbb)).mono ?_; rintro e w3 ⟨rfl, hb3⟩; have hb23 := below_trans hbb hb3 hbb.size; have hu3 := hu.carry hb3))
      go_ret
      rw [HE.out]
      exact ⟨rfl, hb23⟩
end Go.Proofs.YtekjejbcdnghjaaDoor
