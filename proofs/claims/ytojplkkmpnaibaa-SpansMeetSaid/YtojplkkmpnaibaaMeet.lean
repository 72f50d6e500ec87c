/-
  Contracts of both and of the program's Meet, at whole lists: over their values. No condition but bounds on lengths.
-/
import Derived.Test.YtojplkkmpnaibaaEdit
import Derived.Test.YtojplkkmpnaibaaMeetMath
import Derived.Deep.RegionHeld3
set_option linter.unusedVariables false
namespace Go.Proofs.Ytojplkkmpnaibaa
open Go.ChangeShapes Go.WideShapes Go.ChangeAt Go.RowKit

def bothP (x y : Int) : Int := wrap64 (wrap64 (x.tmod 4 * 4) + y.tmod 4)
theorem both_ok (x y : Int) (w : World) : Calls Try.prog 31 #[.int .i64 x, .int .i64 y] w fun e w' => e = .returned (.int .i64 (bothP x y)) ∧ w = w' := by
  go_enter Try.func31, Try.ntmps31
  go_wp2
  go_ret
  exact ⟨rfl, rfl⟩
theorem eqf (w : World) : (binOp .eql 44 (.func (.func 31) #[] #[]) .nilFunc).run Try.prog w = .ok (.bool false) w := by
  have h : (Op.equalIn Op.maxDepth 44 (.func (.func 31) #[] #[]) .nilFunc).run Try.prog w = .ok false w := by
    unfold Op.maxDepth
    unfold Op.equalIn
    simp [go_sem, run_underlying Try.underlying44]
  simp [go_sem, binOp, Op.equal, h, Result.andThen]
theorem HasS.cut {w : World} {B b off c k : Nat} {la : List Sp} (hk : k + 1 ≤ c) (hl : k = la.length) (h : HasS w B (some ⟨b, off + 3, none⟩) la) : HasS w B (if c = 1 then some ⟨b, off, none⟩ else some ⟨b, off + 3, none⟩) la := by
  split
  · have : la = [] := List.eq_nil_of_length_eq_zero (by omega)
    subst this
    exact HasS.nil_
  · exact h
def lenOfV : Value → Nat
  | .slice _ n _ => n
  | _ => 0

set_option maxHeartbeats 4000000 in
theorem meet_ok (A A2 : Option Addr) (c c2 n n2 : Nat) (xs ys : List Int) (w : World) (hn1 : n = (of xs).length) (hn2 : n2 = (of ys).length) (hc : n ≤ c) (hc2 : n2 ≤ c2) (hx : xs.length ≤ 10000) (hy : ys.length ≤ 10000) (hh : HasS w w.heap.size A (of xs)) (hh2 : HasS w w.heap.size A2 (of ys)) :
    Calls Try.prog 32 #[.slice A n c, .slice A2 n2 c2, .func (.func 31) #[] #[]] w fun e w' => MineSOf w w' e (of (List.zipWith bothP xs ys)) := by
  have ha0 := length_of xs
  have hb0 := length_of ys
  have HT1 := Lib.hid (tail_start xs)
  have HT2 := Lib.hid (tail_start ys)
  generalize of xs = l1 at *
  generalize of ys = l2 at *
  have hf := eqf
  go_enter Try.func32, Try.ntmps32
  go_wp2
  go_loopw [0, 1, 7] (fun a b v wr => ∃ (A A2 : Option Addr) (c c2 n n2 : Nat) (la lb : List Sp) (m : Nat), a = .slice A n c ∧ b = .slice A2 n2 c2 ∧ n ≤ c ∧ n2 ≤ c2 ∧ n ≤ 10000 ∧ n2 ≤ 10000 ∧ Hid (n = la.length) ∧ Hid (n2 = lb.length) ∧ Hid (HasS w w.heap.size A la) ∧ Hid (HasS w w.heap.size A2 lb) ∧
    Hid (Tail xs m la) ∧ Hid (Tail ys m lb) ∧ MineS wr w.heap.size v (of (meetK bothP xs ys m)) ∧ Below w.heap.size w wr) (fun a b _ _ => lenOfV a + lenOfV b)
  case atStart => exact ⟨A, A2, c, c2, n, n2, l1, l2, 0, rfl, rfl, hc, hc2, by omega, by omega, Lib.hid hn1, Lib.hid hn2, Lib.hid hh, Lib.hid hh2, HT1, HT2, by rw [meetK_zero]; exact MineS.nil_ _ _, Below.refl _ _⟩
  case round =>
    clear hn1 hn2 hc hc2 hh hh2 ha0 hb0 HT1 HT2
    obtain ⟨A, A2, c, c2, n, n2, la, lb, m, rfl, rfl, hc, hc2, hn, hn2, HN, HN2, HH, HH2, HT, HT2, hown, hbl⟩ := hrel
    cases la with
    | nil =>
      obtain rfl : n = 0 := HN.out
      have hm := HT.out.nil
      rw [meet_end bothP (.inl hm) HT.out.le HT2.out.le] at hown
      clear hm
      go_wp2
      go_ret
      exact ⟨_, rfl, hown, hbl⟩
    | cons p la =>
      obtain ⟨k, rfl⟩ : ∃ k, n = k + 1 := ⟨la.length, by simpa using HN.out⟩
      cases lb with
      | nil =>
        obtain rfl : n2 = 0 := HN2.out
        have hm := HT2.out.nil
        rw [meet_end bothP (.inr hm) HT.out.le HT2.out.le] at hown
        clear hm
        go_wp2
        go_ret
        exact ⟨_, rfl, hown, hbl⟩
      | cons q lb =>
        obtain ⟨k2, rfl⟩ : ∃ k2, n2 = k2 + 1 := ⟨lb.length, by simpa using HN2.out⟩
        have e1 := HT.out.head
        have e2 := HT2.out.head
        have hsz := hbl.size
        obtain ⟨b, off, rfl, hb, hc0, hc1, hc3⟩ := HH.out.at_ (i := 0) (by simp)
        obtain ⟨b2, off2, rfl, hb2, hd0, hd1, hd3⟩ := HH2.out.at_ (i := 0) (by simp)
        simp only [Nat.zero_mul, Nat.add_zero, List.getElem_cons_zero] at hc0 hc1 hc3 hd0 hd1 hd3
        have g1 := (hbl.cell (p := ⟨b, off + 1, none⟩) hb).trans hc1
        have g3 := (hbl.cell (p := ⟨b, off + 2, none⟩) hb).trans hc3
        have j1 := (hbl.cell (p := ⟨b2, off2 + 1, none⟩) hb2).trans hd1
        have j3 := (hbl.cell (p := ⟨b2, off2 + 2, none⟩) hb2).trans hd3
        replace hc1 := Lib.hid hc1
        replace hd1 := Lib.hid hd1
        clear hc0 hd0
        have hT := HH.out.tail
        have hT2 := HH2.out.tail
        have hS := fun (to : Nat) h1 h2 h3 => meet_step bothP HT.out HT2.out to h1 h2 h3
        have hpop := fun (to : Nat) h1 h2 => HT.out.pop to h1 h2
        have hpop2 := fun (to : Nat) h1 h2 => HT2.out.pop to h1 h2
        have hstay := fun (to : Nat) h1 h2 => HT.out.stay to h1 h2
        have hstay2 := fun (to : Nat) h1 h2 => HT2.out.stay to h1 h2
        have hmlen : (of (meetK bothP xs ys m)).length ≤ 100000 := by
          have := length_of (meetK bothP xs ys m)
          rw [meetK_length _ _ _ _ HT.out.le HT2.out.le] at this
          have := HT.out.le
          omega
        obtain ⟨pf, pt, pv⟩ := p
        obtain ⟨qf, qt, qv⟩ := q
        simp only at hc1 hd1 hc3 hd3 g1 g3 j1 j3 hS hpop hpop2 hstay hstay2 e1 e2
        obtain ⟨pt, rfl⟩ : ∃ z : Nat, pt = z := ⟨pt.toNat, by omega⟩
        obtain ⟨qt, rfl⟩ : ∃ z : Nat, qt = z := ⟨qt.toNat, by omega⟩
        have hpt : pt ≤ 10000 := by omega
        have hqt : qt ≤ 10000 := by omega
        generalize of (meetK bothP xs ys m) = acc at hown hS hmlen
        obtain ⟨V, hV⟩ : ∃ V, bothP pv qv = V := ⟨_, rfl⟩
        rw [hV] at hS
        have H31 := Lib.hid (fun w1 => both_ok pv qv w1)
        rw [hV] at H31
        have hlE : ∀ (x : List Sp), k + 1 = (x :: []).length → True := fun _ _ => trivial
        have HL := Lib.hid (show k = la.length by simpa using HN.out)
        have HL2 := Lib.hid (show k2 = lb.length by simpa using HN2.out)
        clear hV hlE
        by_cases hlt : pt < qt
        · have hS' := Lib.hid (hS pt (by omega) (by omega) (by omega))
          have hP := Lib.hid (hpop pt (by omega) rfl)
          have hP2 := Lib.hid (hstay2 pt (by omega) (by omega))
          have HX := Lib.hid (fun w1 (hm : MineS w1 w.heap.size u7 acc) h => ext_ok w.heap.size u7 acc pt V w1 hm h hmlen)
          replace hT := Lib.hid hT
          replace hT2 := Lib.hid hT2
          replace HE1 := Lib.hid e1
          replace HE2 := Lib.hid e2
          replace hown := Lib.hid hown
          clear hS hpop hpop2 hstay hstay2 e1 e2 HT HT2 hmlen
          go_wp2
          go_region_held3 (fun w' => w'.cell? ⟨b, off + 1, none⟩ = some (.int .i64 pt) ∧ w'.cell? ⟨b2, off2 + 1, none⟩ = some (.int .i64 qt)) (go_keep) (fail)
          have hif : ¬ qt < pt := by omega
          try simp only [if_neg hif]
          clear hif
          go_wp2
          go_region_held3 (fun w' => w'.cell? ⟨b, off + 2, none⟩ = some (.int .i64 pv) ∧ w'.cell? ⟨b2, off2 + 2, none⟩ = some (.int .i64 qv)) (first | go_keep | exact ⟨(hbl2.cell (p := ⟨b, off + 2, none⟩) hb).trans hc3, (hbl2.cell (p := ⟨b2, off2 + 2, none⟩) hb2).trans hd3⟩)
            (first
              | (go_at_call 31; refine (H31.out _).mono ?_; rintro e w' ⟨rfl, rfl⟩)
              | (go_at_call 37; refine (HX.out _ (MineS.drew (MineS.drew hown.out)) hsz).mono ?_; rintro e w2 ⟨v2, rfl, hown2, hbz⟩; have hbl2 := hbl.drew.drew.trans hbz))
          have m1 := (hbl2.cell (p := ⟨b, off + 1, none⟩) hb).trans hc1.out
          have m2 := (hbl2.cell (p := ⟨b2, off2 + 1, none⟩) hb2).trans hd1.out
          go_wp2
          exact ⟨⟨_, _, _, _, _, _, la, _, pt, rfl, rfl, by omega, by omega, by omega, by omega, HL, HN2, Lib.hid (HasS.cut hc HL.out hT.out), HH2, hP, hP2, by rw [← hS'.out]; exact hown2, hbl2⟩, by simp [lenOfV] <;> omega⟩
        · by_cases hgt : qt < pt
          · have hS' := Lib.hid (hS qt (by omega) (by omega) (by omega))
            have hP := Lib.hid (hstay qt (by omega) (by omega))
            have hP2 := Lib.hid (hpop2 qt (by omega) rfl)
            have HX := Lib.hid (fun w1 (hm : MineS w1 w.heap.size u7 acc) h => ext_ok w.heap.size u7 acc qt V w1 hm h hmlen)
            replace hT := Lib.hid hT
            replace hT2 := Lib.hid hT2
            replace HE1 := Lib.hid e1
            replace HE2 := Lib.hid e2
            replace hown := Lib.hid hown
            clear hS hpop hpop2 hstay hstay2 e1 e2 HT HT2 hmlen
            go_wp2
            go_region_held3 (fun w' => w'.cell? ⟨b, off + 1, none⟩ = some (.int .i64 pt) ∧ w'.cell? ⟨b2, off2 + 1, none⟩ = some (.int .i64 qt)) (go_keep) (fail)
            have hif : qt < pt := by omega
            try simp only [if_pos hif]
            clear hif
            go_wp2
            go_region_held3 (fun w' => w'.cell? ⟨b, off + 2, none⟩ = some (.int .i64 pv) ∧ w'.cell? ⟨b2, off2 + 2, none⟩ = some (.int .i64 qv)) (first | go_keep | exact ⟨(hbl2.cell (p := ⟨b, off + 2, none⟩) hb).trans hc3, (hbl2.cell (p := ⟨b2, off2 + 2, none⟩) hb2).trans hd3⟩)
              (first
                | (go_at_call 31; refine (H31.out _).mono ?_; rintro e w' ⟨rfl, rfl⟩)
                | (go_at_call 37; refine (HX.out _ (MineS.drew (MineS.drew hown.out)) hsz).mono ?_; rintro e w2 ⟨v2, rfl, hown2, hbz⟩; have hbl2 := hbl.drew.drew.trans hbz))
            have m1 := (hbl2.cell (p := ⟨b, off + 1, none⟩) hb).trans hc1.out
            have m2 := (hbl2.cell (p := ⟨b2, off2 + 1, none⟩) hb2).trans hd1.out
            go_wp2
            exact ⟨⟨_, _, _, _, _, _, _, lb, qt, rfl, rfl, by omega, by omega, by omega, by omega, HN, HL2, HH, Lib.hid (HasS.cut hc2 HL2.out hT2.out), hP, hP2, by rw [← hS'.out]; exact hown2, hbl2⟩, by simp [lenOfV] <;> omega⟩
          · have hS' := Lib.hid (hS pt (by omega) (by omega) (by omega))
            have hP := Lib.hid (hpop pt (by omega) rfl)
            have hP2 := Lib.hid (hpop2 pt (by omega) (by omega))
            have HX := Lib.hid (fun w1 (hm : MineS w1 w.heap.size u7 acc) h => ext_ok w.heap.size u7 acc pt V w1 hm h hmlen)
            replace hT := Lib.hid hT
            replace hT2 := Lib.hid hT2
            replace HE1 := Lib.hid e1
            replace HE2 := Lib.hid e2
            replace hown := Lib.hid hown
            clear hS hpop hpop2 hstay hstay2 e1 e2 HT HT2 hmlen
            go_wp2
            go_region_held3 (fun w' => w'.cell? ⟨b, off + 1, none⟩ = some (.int .i64 pt) ∧ w'.cell? ⟨b2, off2 + 1, none⟩ = some (.int .i64 qt)) (go_keep) (fail)
            have hif : ¬ qt < pt := by omega
            try simp only [if_neg hif]
            clear hif
            go_wp2
            go_region_held3 (fun w' => w'.cell? ⟨b, off + 2, none⟩ = some (.int .i64 pv) ∧ w'.cell? ⟨b2, off2 + 2, none⟩ = some (.int .i64 qv)) (first | go_keep | exact ⟨(hbl2.cell (p := ⟨b, off + 2, none⟩) hb).trans hc3, (hbl2.cell (p := ⟨b2, off2 + 2, none⟩) hb2).trans hd3⟩)
              (first
                | (go_at_call 31; refine (H31.out _).mono ?_; rintro e w' ⟨rfl, rfl⟩)
                | (go_at_call 37; refine (HX.out _ (MineS.drew (MineS.drew hown.out)) hsz).mono ?_; rintro e w2 ⟨v2, rfl, hown2, hbz⟩; have hbl2 := hbl.drew.drew.trans hbz))
            have m1 := (hbl2.cell (p := ⟨b, off + 1, none⟩) hb).trans hc1.out
            have m2 := (hbl2.cell (p := ⟨b2, off2 + 1, none⟩) hb2).trans hd1.out
            go_wp2
            exact ⟨⟨_, _, _, _, _, _, la, lb, pt, rfl, rfl, by omega, by omega, by omega, by omega, HL, HL2, Lib.hid (HasS.cut hc HL.out hT.out), Lib.hid (HasS.cut hc2 HL2.out hT2.out), hP, hP2, by rw [← hS'.out]; exact hown2, hbl2⟩, by simp [lenOfV] <;> omega⟩
end Go.Proofs.Ytojplkkmpnaibaa
