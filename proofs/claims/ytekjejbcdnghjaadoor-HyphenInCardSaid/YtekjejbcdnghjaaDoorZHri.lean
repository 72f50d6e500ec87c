/-
  Contract of the document's In. Condition: at most 1000 code points, at most 1000 patterns.
-/
import Derived.Test.YtekjejbcdnghjaaDoorZf
import Derived.Test.YtekjejbcdnghjaaDoorZBoo
import Derived.Test.YtekjejbcdnghjaaDoorZd
import Derived.Test.YtekjejbcdnghjaaDoorZROf
import Derived.Test.YtekjejbcdnghjaaDoorZb
import Derived.Test.YtekjejbcdnghjaaDoorZHtw
set_option linter.unusedVariables false
set_option linter.unusedSimpArgs false
namespace Go.Proofs.YtekjejbcdnghjaaDoor
open Go.ChangeShapes Go.WideShapes Go.ChangeAt Go.RowKit Go.Sort

/-- a letter by its Word class -/
def isL (c : Int) : Prop := (ofP c).wd = 1
instance (c : Int) : Decidable (isL c) := by unfold isL; exact inferInstance
theorem rof_w (r : Int) (p : Pr) (hp : ofP r = p) (w : World) : Calls Tryd.prog 46 #[.int .i32 r] w fun e w' => e = .returned (.agg #[.int .i64 p.bidi, .int .i64 p.cl, .int .i64 p.br, .int .i64 p.sc, .int .i64 p.jn, .int .i64 p.wd, .int .i32 p.mi, .int .i32 p.pa, .bool p.op]) ∧ Below w.heap.size w w' :=
  (rof_ok r w).mono fun e w' ⟨he, hu⟩ => ⟨by rw [he, hp]; rfl, hu.1⟩
theorem fieldW (p : Pr) (w : World) : (Instr.field 72 (.agg #[.int .i64 p.bidi, .int .i64 p.cl, .int .i64 p.br, .int .i64 p.sc, .int .i64 p.jn, .int .i64 p.wd, .int .i32 p.mi, .int .i32 p.pa, .bool p.op]) 5).run Tryd.prog w = .ok (.int .i64 p.wd) w := by
  simp [Instr.field, go_sem, part, asAgg, Tryd.isAgg72]
/-- soft hyphens ahead of a place -/
def SoftN (t : List Int) (k i : Nat) : Prop := SoftH t i ∧ i ≤ k
theorem softN_zero (t : List Int) (i : Nat) : ¬ SoftN t 0 i := fun h => by have := h.1.1; have := h.2; omega
theorem softN_yes {t : List Int} {k : Nat} (hk : k + 1 < t.length) (h : t.getD k 0 = 173) (i : Nat) : (SoftN t k i ∨ i = k + 1) ↔ SoftN t (k + 1) i := by
  constructor
  · rintro (h1 | rfl)
    · exact ⟨h1.1, by have := h1.2; omega⟩
    · exact ⟨⟨by omega, hk, by rw [Nat.add_sub_cancel]; exact h⟩, Nat.le_refl _⟩
  · rintro ⟨h1, h2⟩
    rcases Nat.lt_or_ge k i with e | e
    · exact Or.inr (by omega)
    · exact Or.inl ⟨h1, e⟩
theorem softN_no {t : List Int} {k : Nat} (h : k + 1 < t.length → t.getD k 0 ≠ 173) (i : Nat) : SoftN t k i ↔ SoftN t (k + 1) i := by
  constructor
  · rintro ⟨h1, h2⟩; exact ⟨h1, by omega⟩
  · rintro ⟨h1, h2⟩
    refine ⟨h1, ?_⟩
    rcases Nat.lt_or_ge k i with e | e
    · have e2 : i = k + 1 := by omega
      subst e2
      exact absurd (by have := h1.2.2; rwa [Nat.add_sub_cancel] at this) (h h1.2.1)
    · exact e
theorem softN_all (t : List Int) (i : Nat) : SoftN t t.length i ↔ SoftH t i := ⟨fun h => h.1, fun h => ⟨h, by have := h.2.1; omega⟩⟩
theorem take_more (r : List Int) (i : Nat) (h : i < r.length) (p : Int) (j : Int) : (∃ z ∈ r.take (i + 1), j = p + z) ↔ (∃ z ∈ r.take i, j = p + z) ∨ j = p + r[i] := by
  rw [List.take_add_one, List.getElem?_eq_getElem h, Option.toList_some]
  constructor
  · rintro ⟨z, hz, e⟩
    rcases List.mem_append.1 hz with h1 | h1
    · exact Or.inl ⟨z, h1, e⟩
    · rw [List.mem_singleton.1 h1] at e; exact Or.inr e
  · rintro (⟨z, hz, e⟩ | e)
    · exact ⟨z, List.mem_append_left _ hz, e⟩
    · exact ⟨r[i], List.mem_append_right _ (List.mem_singleton.2 rfl), e⟩
theorem filter_more (f : Int → Bool) (zs : List Int) (k : Nat) (h : k < zs.length) : (zs.take (k + 1)).filter f = (zs.take k).filter f ++ (if f zs[k] = true then [zs[k]] else []) := by
  rw [List.take_add_one, List.getElem?_eq_getElem h, Option.toList_some, List.filter_append]
  by_cases e : f zs[k] = true
  · rw [if_pos e, List.filter_cons_of_pos e]; rfl
  · rw [if_neg e, List.filter_cons_of_neg e]; rfl
theorem zb_rise (L : List Int) : (zb (bnds L)).Pairwise (· < ·) := by
  unfold zb bnds Bs
  rw [List.pairwise_map]
  exact (List.Pairwise.filter _ List.pairwise_lt_range).imp fun h => by omega
theorem zb_range (L : List Int) : ∀ z ∈ zb (bnds L), 0 ≤ z ∧ z < ((L.length + 1 : Nat) : Int) := by
  intro z hz
  unfold zb at hz
  obtain ⟨j, hj, rfl⟩ := List.mem_map.1 hz
  have := (mem_bnds.1 hj).1
  omega
theorem zb_length (L : List Int) : (zb (bnds L)).length ≤ L.length + 1 := by
  unfold zb bnds
  rw [List.length_map]
  exact Bs_len L _

theorem rise_len : ∀ (l : List Int) (a b : Int), l.Pairwise (· < ·) → (∀ z ∈ l, a ≤ z ∧ z < b) → (l.length : Int) ≤ max 0 (b - a)
  | [], a, b, _, _ => by simp; omega
  | x :: l, a, b, h, hr => by
    have h1 := List.pairwise_cons.1 h
    have hx := hr x (List.mem_cons_self ..)
    have ih := rise_len l (x + 1) b h1.2 (fun z hz => ⟨by have := h1.1 z hz; omega, (hr z (List.mem_cons_of_mem _ hz)).2⟩)
    simp only [List.length_cons]
    omega
theorem InS.length {L : Int → Prop} {W : List Int → Int → Prop} {t r : List Int} (h : InS L W (zb (bnds (cls t))) t r) (ht : t.length ≤ 1000) : r.length ≤ 1001 := by
  have := rise_len r 0 ((t.length + 1 : Nat) : Int) h.1 (fun z hz => by
    have h1 := zb_range (cls t) z ((h.2 z).1 hz).1
    have h2 : (cls t).length = t.length := by simp [cls]
    rw [h2] at h1
    exact h1)
  omega

set_option maxRecDepth 20000 in
set_option maxHeartbeats 4000000 in
theorem rin_ok (A B : Option Addr) (c c' : Nat) (x : List Pat) (t : List Int) (w : World) (hx : x.length ≤ 1000) (ht : t.length ≤ 1000) (hc : t.length ≤ c') (hok : ∀ p ∈ x, OkP p.1 p.2)
    (h1 : ReadsP w (.slice A x.length c) x) (h2 : Has w w.heap.size B (t.map (Value.int .i32))) :
    Calls Tryd.prog 22 #[.slice A x.length c, .slice B t.length c'] w fun e w' => ∃ r, SliceOf .i64 w w' e r ∧ InS isL (PtW x) (zb (bnds (cls t))) t r := by
  obtain ⟨m, hm⟩ : ∃ m : Nat, m = t.length + 1 := ⟨_, rfl⟩
  have hmI : (t.length : Int) + 1 = (m : Int) := by omega
  have hm9 : m ≤ 1001 := by omega
  have HMM := Lib.hid hm
  clear hm
  have HMK := fun W => run_bools m (by omega) W
  have H2 := Lib.hid h2
  have H1 := Lib.hid h1
  have HOK := Lib.hid hok
  clear h1 h2 hok
  go_enter Tryd.func22, Tryd.ntmps22
  go_wp2
  have hb0 := HitS.made (w := w) (n := m) (by omega)
  obtain ⟨W0, hW0⟩ : ∃ W0, w.alloc (.cells (madeCells #[Value.bool false] m) 4) = W0 := ⟨_, rfl⟩
  rw [hW0] at hb0
  simp only [hW0]
  obtain ⟨G, hG⟩ : ∃ G, w.heap.size = G := ⟨_, rfl⟩
  rw [hG] at hb0
  simp only [hG]
  have HB0 := Lib.hid (And.intro hb0 (HitsOf.none_ (fun i => softN_zero t i) m))
  clear hW0 hb0 HMK hmI
  go_loopw [6] (fun i wr => ∃ (k : Nat) (hs : List Bool), k ≤ t.length ∧ i = .int .i64 k ∧ Hid (HitS G m w wr hs ∧ HitsOf (SoftN t k) hs)) (fun i _ => t.length - (intOf i).toNat)
  case atStart => exact ⟨0, _, by omega, rfl, HB0⟩
  case round =>
    clear HB0
    obtain ⟨k, hs, hk, rfl, HS⟩ := hrel
    have hbl := HS.out.1.bel
    by_cases hlt : k < t.length
    · obtain ⟨b, off, rfl, hb, hca⟩ := H2.out.at_int hlt
      have hcc := (hbl.cell (p := ⟨b, off + k, none⟩) hb).trans hca
      have hDD : t.getD k 0 = t[k] := by simp [List.getD, List.getElem?_eq_getElem hlt]
      obtain ⟨X, hX⟩ : ∃ X, t[k] = X := ⟨_, rfl⟩
      rw [hX] at hcc hDD
      have HDD := Lib.hid hDD
      clear hX hDD hca hb
      by_cases hx1 : X = 173
      · subst hx1
        by_cases hn : k + 1 < t.length
        · have hn' : (k : Int) + 1 < (t.length : Int) := by omega
          have him : k + 1 < m := by have := HMM.out; omega
          obtain ⟨hcx, hfx⟩ := HS.out.1.cell him
          have HN := Lib.hid (And.intro (HS.out.1.store him true) ((HS.out.2.set (k + 1)).congr fun i _ => softN_yes hn HDD.out i))
          go_wp2
          go_roundw
          case rel => exact ⟨k + 1, _, by omega, by go_num, HN⟩
          case measure => simp [intOf]; omega
        · have hn' : ¬ (k : Int) + 1 < (t.length : Int) := by omega
          have HN := Lib.hid (And.intro HS.out.1 (HS.out.2.congr fun i _ => softN_no (fun h => absurd h hn) i))
          go_wp2
          go_roundw
          case rel => exact ⟨k + 1, _, by omega, by go_num, HN⟩
          case measure => simp [intOf]; omega
      · have HN := Lib.hid (And.intro HS.out.1 (HS.out.2.congr fun i _ => softN_no (fun _ => by rw [HDD.out]; exact hx1) i))
        go_wp2
        go_roundw
        case rel => exact ⟨k + 1, _, by omega, by go_num, HN⟩
        case measure => simp [intOf]; omega
    · obtain rfl : k = t.length := by omega
      have HS1 := Lib.hid (And.intro HS.out.1 (HS.out.2.congr (Q' := fun i => SoftH t i ∨ DoneH isL (PtW x) t 0 i) fun i _ => (softN_all t i).trans ⟨Or.inl, fun h => h.elim id fun h => absurd h DoneH.zero⟩))
      clear hbl HS
      go_wp2
      go_loopw [7] (fun aa wr => ∃ (p : Nat) (hs : List Bool), p ≤ t.length + 1 ∧ aa = .int .i64 p ∧ (p = 0 ∨ t.length < p ∨ ¬ isL (t.getD (p - 1) 0)) ∧ Hid (HitS G m w wr hs ∧ HitsOf (fun i => SoftH t i ∨ DoneH isL (PtW x) t p i) hs)) (fun aa _ => t.length + 1 - (intOf aa).toNat)
      case atStart => exact ⟨0, _, by omega, rfl, Or.inl rfl, HS1⟩
      case round =>
        clear HS1
        obtain ⟨p, hs, hp, rfl, hleft, HS⟩ := hrel
        have HLF := Lib.hid hleft
        clear hleft
        by_cases hpl : p < t.length
        · obtain ⟨b, off, rfl, hb, _⟩ := H2.out.at_int hpl
          go_wp2
          go_loopw [8] (fun qq wr => ∃ q : Nat, p ≤ q ∧ q ≤ t.length ∧ qq = .int .i64 q ∧ Hid (∀ k, p ≤ k → k < q → isL (t.getD k 0)) ∧ Hid (HitS G m w wr hs)) (fun qq _ => t.length - (intOf qq).toNat)
          case atStart => exact ⟨p, Nat.le_refl _, by omega, rfl, Lib.hid (fun k h1 h2 => absurd h2 (by omega)), Lib.hid HS.out.1⟩
          case round =>
            obtain ⟨q, hpq, hq, rfl, HQ, HI⟩ := hrel
            have hbl := HI.out.bel
            -- what the loop leaves, where a range ends
            have HEND := Lib.hid (fun (hr : q = t.length ∨ ¬ isL (t.getD q 0)) => (⟨hpq, hq, HQ.out, by rcases HLF.out with h | h | h <;> first | exact Or.inl h | omega | exact Or.inr h, hr⟩ : RangeL isL t p q))
            by_cases hql : q < t.length
            · obtain ⟨b2, off2, e2, hb2, hca⟩ := H2.out.at_int hql
              injection e2 with e2
              injection e2 with e3 e4
              subst e3; subst e4
              have hcc := (hbl.cell (p := ⟨b, off + q, none⟩) hb2).trans hca
              have hDD : t.getD q 0 = t[q] := by simp [List.getD, List.getElem?_eq_getElem hql]
              obtain ⟨X, hX⟩ : ∃ X, t[q] = X := ⟨_, rfl⟩
              rw [hX] at hcc hDD
              have HDD := Lib.hid hDD
              obtain ⟨pr, hpr⟩ : ∃ pr, ofP X = pr := ⟨_, rfl⟩
              have cof := fun w => rof_w X pr hpr w
              have hfw := fun w => fieldW pr w
              have HIS : Hid (isL X ↔ pr.wd = 1) := Lib.hid (by unfold isL; rw [hpr])
              obtain ⟨wdv, hwd⟩ : ∃ wdv, pr.wd = wdv := ⟨_, rfl⟩
              simp only [hwd] at cof hfw HIS
              clear hX hDD hca hb2 hpr
              by_cases hw1 : wdv = 1
              · subst hw1
                have HQ2 : Hid (∀ k, p ≤ k → k < q + 1 → isL (t.getD k 0)) := Lib.hid (fun k h1 h2 => by
                  rcases Nat.lt_or_ge k q with e | e
                  · exact HQ.out k h1 e
                  · have : k = q := by omega
                    subst this
                    rw [HDD.out]
                    exact HIS.out.2 rfl)
                clear HEND
                go_wp2_with (go_at_call 46; refine (cof _).mono ?_; rintro e w5 ⟨rfl, hb5⟩)
                go_roundw
                case rel => exact ⟨q + 1, by omega, by omega, by go_num, HQ2, Lib.hid (HI.out.below hb5)⟩
                case measure => simp [intOf]; omega
              · have HRG := Lib.hid (HEND.out (Or.inr (by rw [HDD.out]; exact fun h => hw1 (HIS.out.1 h))))
                clear HEND
                have hqp : (p : Int) ≤ (q : Int) := by omega
                have hqc : (q : Int) ≤ (c' : Int) := by omega
                have hpc : ¬ p = c' := by omega
                have hwl : ((t.drop p).take (q - p)).length = q - p := by rw [List.length_take, List.length_drop]; omega
                have HPT := Lib.hid (fun (W : World) (hb : Below w.heap.size w W) => by
                  have := rpoints_ok A (some ⟨b, off + p, none⟩) c (c' - p) x ((t.drop p).take (q - p)) W hx (by omega) HOK.out (H1.out.carry hb) (((H2.out.carry hb).dropI p).takeI (q - p))
                  rw [hwl] at this
                  exact this)
                have HWL := Lib.hid hwl
                have HIW := Lib.hid (fun (W : World) (hb : Below wr.heap.size wr W) => HI.out.below hb)
                have HBLW := Lib.hid (fun (W : World) (hb : Below wr.heap.size wr W) => hbl.trans (hb.mono hbl.size))
                clear hwl
                go_wp2_with (first
                  | (go_at_call 46; refine (cof _).mono ?_; rintro e w5 ⟨rfl, hb5⟩)
                  | (go_at_call 20; refine (HPT.out _ (HBLW.out _ hb5)).mono ?_; rintro e w6 ⟨r, ⟨v, rfl, A9, c9, rfl, ⟨hc9, hf9⟩, hh9, hb9⟩, hpt⟩))
                have hI6 := (HIW.out _ hb5).below hb9
                have hG6 : ∀ a, A9 = some a → a.block ≠ G := fun a ha e => by have := hf9 a ha; have := (HIW.out _ hb5).lt; omega
                have HG6 := Lib.hid hG6
                have hrl := hpt.length
                have HRI := Lib.hid hpt.rise
                have HPTS := Lib.hid hpt
                have HS4 := Lib.hid (show HitS G m w w6 hs ∧ HitsOf (fun j => (SoftH t j ∨ DoneH isL (PtW x) t p j) ∨ ∃ z ∈ r.take 0, (j : Int) = (p : Int) + z) hs ∧ Has w6 w6.heap.size A9 (r.map (Value.int .i64)) from
                  ⟨hI6, HS.out.2.congr fun j _ => ⟨Or.inl, fun h => h.elim id fun ⟨z, hz, _⟩ => (by simp at hz)⟩, hh9⟩)
                clear hI6 hG6 hpt hh9 hf9 hc9 hb5
                go_loopw [10] (fun ii wr => ∃ (i : Nat) (hs' : List Bool), i ≤ r.length ∧ ii = .int .i64 i ∧ Hid (HitS G m w wr hs' ∧ HitsOf (fun j => (SoftH t j ∨ DoneH isL (PtW x) t p j) ∨ ∃ z ∈ r.take i, (j : Int) = (p : Int) + z) hs' ∧ Has wr wr.heap.size A9 (r.map (Value.int .i64)))) (fun ii _ => r.length - (intOf ii).toNat)
                case atStart => exact ⟨0, hs, by omega, rfl, HS4⟩
                case round =>
                  clear HS4
                  obtain ⟨i, hs', hi, rfl, HS5⟩ := hrel
                  by_cases hil : i < r.length
                  · obtain ⟨b3, o3, hA9, hb3, hcz⟩ := HS5.out.2.2.at_int hil
                    have hrg := HRI.out.2 _ (List.getElem_mem hil)
                    rw [HWL.out] at hrg
                    have HTM := Lib.hid (fun (j : Int) => take_more r i hil p j)
                    obtain ⟨Z, hZ⟩ : ∃ Z, r[i] = Z := ⟨_, rfl⟩
                    rw [hZ] at hcz hrg
                    simp only [hZ] at HTM
                    obtain ⟨j, hj⟩ : ∃ j : Nat, (p : Int) + Z = (j : Int) := ⟨((p : Int) + Z).toNat, by omega⟩
                    have hjm : j < m := by have := HMM.out; omega
                    obtain ⟨hcx, hfx⟩ := HS5.out.1.cell hjm
                    have hjI : (j : Int) < (m : Int) := by omega
                    have HN := Lib.hid (And.intro (HS5.out.1.store hjm true) (And.intro ((HS5.out.2.1.set j).congr (Q' := fun j' => (SoftH t j' ∨ DoneH isL (PtW x) t p j') ∨ ∃ z ∈ r.take (i + 1), (j' : Int) = (p : Int) + z) fun j' _ => by
                      rw [HTM.out]
                      constructor
                      · rintro ((h | h) | h)
                        · exact Or.inl h
                        · exact Or.inr (Or.inl h)
                        · exact Or.inr (Or.inr (by rw [h]; exact hj.symm))
                      · rintro (h | h | h)
                        · exact Or.inl (Or.inl h)
                        · exact Or.inl (Or.inr h)
                        · exact Or.inr (by omega))
                      (HS5.out.2.2.stays (w' := wr.setCell ⟨G, j, none⟩ (.bool true)) (by simp) fun a ha _ => Below.heap_setCell _ _ _ _ (HG6.out a ha))))
                    clear hZ hrg
                    subst hA9
                    go_wp2
                    go_roundw
                    case rel => exact ⟨i + 1, _, by omega, by go_num, HN⟩
                    case measure => simp [intOf]; omega
                  · obtain rfl : i = r.length := by omega
                    have hd := HS5.out.2.1
                    rw [List.take_length] at hd
                    have HN := Lib.hid (And.intro HS5.out.1 (hd.congr (Q' := fun j => SoftH t j ∨ DoneH isL (PtW x) t (q + 1) j) fun j _ => by
                      rw [DoneH.step (PtW.inside x) HRG.out r (PtW.iff HPTS.out)]
                      exact or_assoc))
                    have hright : q + 1 = 0 ∨ t.length < q + 1 ∨ ¬ isL (t.getD (q + 1 - 1) 0) := by
                      rw [Nat.add_sub_cancel]
                      rcases HRG.out.right with h | h
                      · exact Or.inr (Or.inl (by omega))
                      · exact Or.inr (Or.inr h)
                    have HRT := Lib.hid hright
                    clear hd hright
                    go_wp2
                    go_roundw
                    case rel => exact ⟨q + 1, _, by omega, by go_num, HRT.out, HN⟩
                    case measure => simp [intOf]; omega
            · obtain rfl : q = t.length := by omega
              have HRG := Lib.hid (HEND.out (Or.inl rfl))
              clear HEND
              have hqp : (p : Int) ≤ (t.length : Int) := by omega
              have hqc : (t.length : Int) ≤ (c' : Int) := by omega
              have hpc : ¬ p = c' := by omega
              have hwl : ((t.drop p).take (t.length - p)).length = t.length - p := by rw [List.length_take, List.length_drop]; omega
              have HPT := Lib.hid (fun (W : World) (hb : Below w.heap.size w W) => by
                have := rpoints_ok A (some ⟨b, off + p, none⟩) c (c' - p) x ((t.drop p).take (t.length - p)) W hx (by omega) HOK.out (H1.out.carry hb) (((H2.out.carry hb).dropI p).takeI (t.length - p))
                rw [hwl] at this
                exact this)
              have HWL := Lib.hid hwl
              have HIW := Lib.hid (fun (W : World) (hb : Below wr.heap.size wr W) => HI.out.below hb)
              have HBLW := Lib.hid (fun (W : World) (hb : Below wr.heap.size wr W) => hbl.trans (hb.mono hbl.size))
              clear hwl
              go_wp2_with (first
                | fail
                | (go_at_call 20; refine (HPT.out _ hbl).mono ?_; rintro e w6 ⟨r, ⟨v, rfl, A9, c9, rfl, ⟨hc9, hf9⟩, hh9, hb9⟩, hpt⟩))
              have hI6 := HI.out.below hb9
              have hG6 : ∀ a, A9 = some a → a.block ≠ G := fun a ha e => by have := hf9 a ha; have := HI.out.lt; omega
              have HG6 := Lib.hid hG6
              have hrl := hpt.length
              have HRI := Lib.hid hpt.rise
              have HPTS := Lib.hid hpt
              have HS4 := Lib.hid (show HitS G m w w6 hs ∧ HitsOf (fun j => (SoftH t j ∨ DoneH isL (PtW x) t p j) ∨ ∃ z ∈ r.take 0, (j : Int) = (p : Int) + z) hs ∧ Has w6 w6.heap.size A9 (r.map (Value.int .i64)) from
                ⟨hI6, HS.out.2.congr fun j _ => ⟨Or.inl, fun h => h.elim id fun ⟨z, hz, _⟩ => (by simp at hz)⟩, hh9⟩)
              clear hI6 hG6 hpt hh9 hf9 hc9
              go_loopw [10] (fun ii wr => ∃ (i : Nat) (hs' : List Bool), i ≤ r.length ∧ ii = .int .i64 i ∧ Hid (HitS G m w wr hs' ∧ HitsOf (fun j => (SoftH t j ∨ DoneH isL (PtW x) t p j) ∨ ∃ z ∈ r.take i, (j : Int) = (p : Int) + z) hs' ∧ Has wr wr.heap.size A9 (r.map (Value.int .i64)))) (fun ii _ => r.length - (intOf ii).toNat)
              case atStart => exact ⟨0, hs, by omega, rfl, HS4⟩
              case round =>
                clear HS4
                obtain ⟨i, hs', hi, rfl, HS5⟩ := hrel
                by_cases hil : i < r.length
                · obtain ⟨b3, o3, hA9, hb3, hcz⟩ := HS5.out.2.2.at_int hil
                  have hrg := HRI.out.2 _ (List.getElem_mem hil)
                  rw [HWL.out] at hrg
                  have HTM := Lib.hid (fun (j : Int) => take_more r i hil p j)
                  obtain ⟨Z, hZ⟩ : ∃ Z, r[i] = Z := ⟨_, rfl⟩
                  rw [hZ] at hcz hrg
                  simp only [hZ] at HTM
                  obtain ⟨j, hj⟩ : ∃ j : Nat, (p : Int) + Z = (j : Int) := ⟨((p : Int) + Z).toNat, by omega⟩
                  have hjm : j < m := by have := HMM.out; omega
                  obtain ⟨hcx, hfx⟩ := HS5.out.1.cell hjm
                  have hjI : (j : Int) < (m : Int) := by omega
                  have HN := Lib.hid (And.intro (HS5.out.1.store hjm true) (And.intro ((HS5.out.2.1.set j).congr (Q' := fun j' => (SoftH t j' ∨ DoneH isL (PtW x) t p j') ∨ ∃ z ∈ r.take (i + 1), (j' : Int) = (p : Int) + z) fun j' _ => by
                    rw [HTM.out]
                    constructor
                    · rintro ((h | h) | h)
                      · exact Or.inl h
                      · exact Or.inr (Or.inl h)
                      · exact Or.inr (Or.inr (by rw [h]; exact hj.symm))
                    · rintro (h | h | h)
                      · exact Or.inl (Or.inl h)
                      · exact Or.inl (Or.inr h)
                      · exact Or.inr (by omega))
                    (HS5.out.2.2.stays (w' := wr.setCell ⟨G, j, none⟩ (.bool true)) (by simp) fun a ha _ => Below.heap_setCell _ _ _ _ (HG6.out a ha))))
                  clear hZ hrg
                  subst hA9
                  go_wp2
                  go_roundw
                  case rel => exact ⟨i + 1, _, by omega, by go_num, HN⟩
                  case measure => simp [intOf]; omega
                · obtain rfl : i = r.length := by omega
                  have hd := HS5.out.2.1
                  rw [List.take_length] at hd
                  have HN := Lib.hid (And.intro HS5.out.1 (hd.congr (Q' := fun j => SoftH t j ∨ DoneH isL (PtW x) t (t.length + 1) j) fun j _ => by
                    rw [DoneH.step (PtW.inside x) HRG.out r (PtW.iff HPTS.out)]
                    exact or_assoc))
                  have hright : t.length + 1 = 0 ∨ t.length < t.length + 1 ∨ ¬ isL (t.getD (t.length + 1 - 1) 0) := by
                    rw [Nat.add_sub_cancel]
                    rcases HRG.out.right with h | h
                    · exact Or.inr (Or.inl (by omega))
                    · exact Or.inr (Or.inr h)
                  have HRT := Lib.hid hright
                  clear hd hright
                  go_wp2
                  go_roundw
                  case rel => exact ⟨t.length + 1, _, by omega, by go_num, HRT.out, HN⟩
                  case measure => simp [intOf]; omega
        · have hp1 : t.length ≤ p := by omega
          have HEN := Lib.hid (fun i => DoneH.end_ (i := i) (PtW.inside x) hp1 HLF.out)
          have HH := Lib.hid (HS.out.2.congr (Q' := HitH isL (PtW x) t) fun i _ => by unfold HitH; rw [HEN.out])
          have hbl := HS.out.1.bel
          have cb := rbounds_ok B c' t wr ht hc (H2.out.carry hbl)
          have HZR := Lib.hid (zb_range (cls t))
          have HZS := Lib.hid (zb_rise (cls t))
          have hzl := zb_length (cls t)
          have hcl : (cls t).length = t.length := by simp [cls]
          rw [hcl] at hzl HZR
          obtain ⟨zs, hzs⟩ : ∃ zs, zb (bnds (cls t)) = zs := ⟨_, rfl⟩
          rw [hzs] at cb HZR HZS hzl
          have HZE := Lib.hid hzs
          have HI := Lib.hid HS.out.1
          clear hzs hcl HS HEN
          go_wp2_with (go_at_call 47; refine cb.mono ?_; rintro e w8 ⟨v, rfl, A9, c9, rfl, ⟨hc9, hf9⟩, hh9, hb9⟩)
          have HI8 := Lib.hid (HI.out.below hb9)
          have HH9 := Lib.hid hh9
          have HB9 := Lib.hid (hbl.trans (hb9.mono hbl.size))
          clear hh9 hf9 hc9 hb9
          go_loopw [12, 13] (fun v ii wr => ∃ k : Nat, k ≤ zs.length ∧ ii = .int .i64 k ∧ Mine .i64 3 wr w8.heap.size v ((zs.take k).filter fun z => hs.getD z.toNat false) ∧ Below w8.heap.size w8 wr) (fun _ ii _ => zs.length - (intOf ii).toNat)
          case atStart => exact ⟨0, by omega, rfl, Mine.nil_ _ _ _ _, Below.refl _ _⟩
          case round =>
            obtain ⟨k, hk, rfl, hM, hb5⟩ := hrel
            have hB := hb5.size
            have hfl : ((zs.take k).filter fun z => hs.getD z.toNat false).length ≤ 2000 := by
              have := List.length_filter_le (fun z : Int => hs.getD z.toNat false) (zs.take k)
              rw [List.length_take] at this
              omega
            by_cases hlt : k < zs.length
            · obtain ⟨b3, o3, rfl, _, hcz⟩ := (HH9.out.carry hb5).at_int hlt
              have hrg := HZR.out _ (List.getElem_mem hlt)
              have HFM := filter_more (fun z => hs.getD z.toNat false) zs k hlt
              obtain ⟨Z, hZ⟩ : ∃ Z, zs[k] = Z := ⟨_, rfl⟩
              rw [hZ] at hcz hrg HFM
              obtain ⟨j, hj⟩ : ∃ j : Nat, Z = (j : Int) := ⟨Z.toNat, by omega⟩
              subst hj
              have hjm : j < m := by have := HMM.out; omega
              have hcx := ((HI8.out.below hb5).cell hjm).1
              rw [Int.toNat_natCast] at HFM
              have HFM := Lib.hid HFM
              obtain ⟨Y, hY⟩ : ∃ Y, hs.getD j false = Y := ⟨_, rfl⟩
              rw [hY] at hcx HFM
              obtain ⟨xs, hxs⟩ : ∃ xs, ((zs.take k).filter fun z => hs.getD z.toNat false) = xs := ⟨_, rfl⟩
              rw [hxs] at hM hfl HFM
              clear hZ hY hrg hxs
              cases Y
              · rw [if_neg (by decide), List.append_nil] at HFM
                go_wp2
                go_roundw
                case rel => exact ⟨k + 1, by omega, by go_num, by rw [HFM.out]; exact hM, hb5⟩
                case measure => simp [intOf]; omega
              · rw [if_pos rfl] at HFM
                go_wp2_with (at_builtin; refine wpList_push rfl _ _ 23 rfl Tryd.underlying23 infoI64 (by omega) _ _ xs (j : Int) _ _ hM rfl rfl hb5 hB (by omega) ?_; intro v' w9 hM9 hb10)
                go_roundw
                case rel => exact ⟨k + 1, by omega, by go_num, by rw [HFM.out]; exact hM9, hb10⟩
                case measure => simp [intOf]; omega
            · obtain rfl : k = zs.length := by omega
              rw [List.take_length] at hM
              go_wp2
              go_ret
              refine ⟨_, ⟨_, rfl, hM.give HB9.out hb5⟩, ?_⟩
              rw [HZE.out]
              exact InS.of_filter hs HZS.out (fun z hz => by rw [HI8.out.len, HMM.out]; exact HZR.out z hz) HH.out
end Go.Proofs.YtekjejbcdnghjaaDoor
