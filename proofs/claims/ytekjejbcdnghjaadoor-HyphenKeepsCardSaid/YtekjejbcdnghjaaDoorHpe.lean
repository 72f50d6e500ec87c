/-
  Weights raised by the patterns that begin at one place of the text ('raise'). No condition.
-/
import Derived.Test.YtekjejbcdnghjaaDoorHtd
import Derived.Test.YtekjejbcdnghjaaDoorHre
import Derived.Test.YtekjejbcdnghjaaDoorMinMax
set_option linter.unusedVariables false
set_option linter.unusedSimpArgs false
namespace Go.Proofs.YtekjejbcdnghjaaDoor
open Go.ChangeShapes Go.WideShapes Go.ChangeAt Go.RowKit Go.Sort

/-- what is contributed at places ahead of a; .. and at a by patterns of at most k letters -/
def CA (x : List Pat) (t : List Int) (a : Nat) (j : Nat) (c : Int) : Prop := ∃ p ∈ x, ∃ a' i, a' < a ∧ a' < t.length ∧ p.1 <+: t.drop a' ∧ p.2[i]? = some c ∧ j = a' + i
def CK (x : List Pat) (t : List Int) (a k : Nat) (j : Nat) (c : Int) : Prop := CA x t a j c ∨ ∃ p ∈ x, p.1 <+: t.drop a ∧ p.1.length ≤ k ∧ ∃ i, p.2[i]? = some c ∧ j = a + i
theorem ca_zero (x : List Pat) (t : List Int) (j : Nat) (c : Int) : ¬ CA x t 0 j c := fun ⟨_, _, _, _, h, _⟩ => by omega
theorem ca_end (x : List Pat) (t : List Int) (j : Nat) (c : Int) : CA x t t.length j c ↔ Contr x t j c := by
  constructor
  · rintro ⟨p, hp, a, i, h1, h2, h3, h4, h5⟩; exact ⟨p, hp, a, i, h2, h3, h4, h5⟩
  · rintro ⟨p, hp, a, i, h2, h3, h4, h5⟩; exact ⟨p, hp, a, i, h2, h2, h3, h4, h5⟩
theorem ck_zero {x : List Pat} {t : List Int} {a : Nat} (h : ∀ p ∈ x, 1 ≤ p.1.length) (j : Nat) (c : Int) : CA x t a j c ↔ CK x t a 0 j c := by
  constructor
  · exact Or.inl
  · rintro (h1 | ⟨p, hp, _, h2, _⟩)
    · exact h1
    · have := h p hp; omega
/-- all that begin at a have been seen -/
theorem ck_all {x : List Pat} {t : List Int} {a k : Nat} (ha : a < t.length) (h : ∀ p ∈ x, p.1 <+: t.drop a → p.1.length ≤ k) (j : Nat) (c : Int) : CK x t a k j c ↔ CA x t (a + 1) j c := by
  constructor
  · rintro (⟨p, hp, a', i, h1, h2⟩ | ⟨p, hp, h1, h2, i, h3, h4⟩)
    · exact ⟨p, hp, a', i, by omega, h2⟩
    · exact ⟨p, hp, a, i, by omega, ha, h1, h3, h4⟩
  · rintro ⟨p, hp, a', i, h1, h2, h3, h4, h5⟩
    rcases Nat.lt_or_ge a' a with e | e
    · exact Or.inl ⟨p, hp, a', i, e, h2, h3, h4, h5⟩
    · obtain rfl : a' = a := by omega
      exact Or.inr ⟨p, hp, h3, h p hp h3, i, h4, h5⟩
theorem pre_tk {q u : List Int} {k : Nat} (h : q <+: u) (hl : q.length = k) : q = u.take k := by
  rw [List.prefix_iff_eq_take] at h
  rw [h, hl]
/-- one letter more: just the pattern with these letters is new, if there is one -/
theorem ck_step {x : List Pat} {t : List Int} {a k : Nat} {ds : List Int} (h : (∃ p ∈ x, p = ((t.drop a).take (k + 1), ds)) ∨ (ds = [] ∧ ∀ p ∈ x, p.1 ≠ (t.drop a).take (k + 1))) (hk : k < (t.drop a).length) (h1 : x.Pairwise fun p q => p.1 ≠ q.1) (j : Nat) (c : Int) :
    (CK x t a k j c ∨ ∃ i, i < ds.length ∧ j = a + i ∧ ds[i]? = some c) ↔ CK x t a (k + 1) j c := by
  constructor
  · rintro ((h2 | ⟨p, hp, h2, h3, h4⟩) | ⟨i, h2, h3, h4⟩)
    · exact Or.inl h2
    · exact Or.inr ⟨p, hp, h2, by omega, h4⟩
    · rcases h with ⟨p, hp, e⟩ | ⟨e, _⟩
      · subst e
        exact Or.inr ⟨_, hp, List.take_prefix _ _, by rw [List.length_take]; omega, i, h4, h3⟩
      · rw [e] at h4; simp at h4
  · rintro (h2 | ⟨p, hp, h2, h3, i, h4, h5⟩)
    · exact Or.inl (Or.inl h2)
    · rcases Nat.lt_or_ge k p.1.length with e | e
      · have e2 := pre_tk (k := k + 1) h2 (by omega)
        rcases h with ⟨p', hp', e3⟩ | ⟨_, e3⟩
        · have e4 : p = p' := by
            obtain ⟨i1, hi1, rfl⟩ := List.mem_iff_getElem.1 hp
            obtain ⟨i2, hi2, rfl⟩ := List.mem_iff_getElem.1 hp'
            have key := List.pairwise_iff_getElem.1 h1
            rcases Nat.lt_trichotomy i1 i2 with g | g | g
            · exact absurd (e2.trans (by rw [e3])) (key i1 i2 hi1 hi2 g)
            · subst g; rfl
            · exact absurd ((by rw [e3] : x[i2].1 = _).trans e2.symm) (key i2 i1 hi2 hi1 g)
          subst e4
          rw [e3] at h4
          exact Or.inr ⟨i, (List.getElem?_eq_some_iff.1 h4).1, h5, h4⟩
        · exact absurd e2 (e3 p hp)
      · exact Or.inl (Or.inr ⟨p, hp, h2, e, i, h4, h5⟩)

section
variable {cnt : Int} {B n R : Nat} {w : World} {P M : Path → Option Nat} {V : Path → Value} {acc : List Pat}
/-- a node's digits: those of the pattern that ends there, or none -/
theorem TrieP.digits (h : TrieP cnt w B n R P M V acc) {q : Path} {b : Nat} (hq : P q = some b) :
    ∃ A ds c, V q = .slice A ds.length c ∧ Has w w.heap.size A (ds.map (Value.int .i64)) ∧ ((∃ p ∈ acc, p = (q, ds)) ∨ (ds = [] ∧ ∀ p ∈ acc, p.1 ≠ q)) := by
  by_cases e : ∃ p ∈ acc, p.1 = q
  · obtain ⟨p, hp, rfl⟩ := e
    obtain ⟨a, c, h1, h2, _⟩ := h.hit p hp
    exact ⟨some a, p.2, c, h1, h2, Or.inl ⟨p, hp, rfl⟩⟩
  · have e2 : ∀ p ∈ acc, p.1 ≠ q := fun p hp e3 => e ⟨p, hp, e3⟩
    exact ⟨none, [], 0, h.miss q b hq e2, Has.nil_, Or.inr ⟨rfl, e2⟩⟩
/-- no child for the next letter: no pattern goes on -/
theorem TrieP.stop (h : TrieP cnt w B n R P M V acc) {u : List Int} {k : Nat} (hk : k < u.length) (hx : P (u.take k ++ [u[k]]) = none) : ∀ p ∈ acc, p.1 <+: u → p.1.length ≤ k := fun p hp hu => by
  rcases Nat.lt_or_ge k p.1.length with e | e
  · exfalso
    have e1 : u.take (k + 1) = u.take k ++ [u[k]] := by rw [List.take_add_one, List.getElem?_eq_getElem hk]; rfl
    have e2 : u.take k ++ [u[k]] <+: p.1 := by
      rw [← e1]
      rw [List.prefix_iff_eq_take] at hu
      rw [hu]
      exact (List.take_prefix_take_left (by omega))
    have := (h.dom (u.take k ++ [u[k]])).2 (Or.inr ⟨p, hp, e2⟩)
    rw [hx] at this
    cases this
  · exact e
end

set_option maxRecDepth 20000 in
set_option maxHeartbeats 8000000 in
theorem raise_ok (cnt : Int) (B n R G m q a : Nat) (P M : Path → Option Nat) (V : Path → Value) (acc : List Pat) (b T : List Int) (TA : Option Addr) (tc : Nat) (w W6 w1 : World)
    (hTP : TrieP cnt w B n R P M V acc) (hok : ∀ p ∈ acc, OkP p.1 p.2) (hT : ∀ z ∈ T, (Lit.int .i32 z).wf = true) (hB : BeS G m w W6 w1 b) (hq : q + a = m) (hm : m = T.length + 1) (ha : a < T.length) (hmm : m ≤ 1000)
    (hTx : Has W6 G TA ((T.drop a).map (Value.int .i32))) (hG : G ≤ W6.heap.size) (hbest : BestOf (CA acc T a) b) :
    Calls Tryd.prog 62 #[.pointer (some ⟨R, 0, none⟩), .slice (some ⟨G, a, none⟩) q q, .slice TA (T.drop a).length tc] w1 fun e w' => ∃ b', e = .returned (.tuple #[]) ∧ BeS G m w W6 w' b' ∧ BestOf (CA acc T (a + 1)) b' := by
  obtain ⟨u, hu⟩ : ∃ u, T.drop a = u := ⟨_, rfl⟩
  have HUL : Hid (u.length = T.length - a) := Lib.hid (by rw [← hu, List.length_drop])
  have hm1 : T.length + 1 ≤ m := by omega
  have hm2 : m ≤ T.length + 1 := by omega
  have hq1 : q + a ≤ m := by omega
  have hq2 : m ≤ q + a := by omega
  clear hm hq
  have hu1000 : u.length ≤ 1000 := by have := HUL.out; omega
  have HTP := Lib.hid hTP
  have HOK := Lib.hid hok
  have HTX := Lib.hid hTx
  have HW : Hid (∀ z ∈ u, (Lit.int .i32 z).wf = true) := Lib.hid (fun z hz => hT z (List.mem_of_mem_drop (hu ▸ hz)))
  have HU := Lib.hid hu
  have HB0 := Lib.hid hB
  have hck : BestOf (CK acc T a 0) b := hbest.congr (ck_zero (fun p hp => by have := (mayB_length (hok p hp).may).1; omega))
  have HCK := Lib.hid hck
  have HR := Lib.hid hTP.root
  rw [hu] at HTX ⊢
  clear hTP hok hT hTx hu hB hck hbest
  go_enter Tryd.func62, Tryd.ntmps62
  go_wp2
  go_loopw [0, 12] (fun nv i wr => ∃ (k bk : Nat) (b' : List Int), k ≤ u.length ∧ i = .int .i64 k ∧ nv = .pointer (some ⟨bk, 0, none⟩) ∧ Hid (P (u.take k) = some bk) ∧ Hid (BeS G m w W6 wr b') ∧ Hid (BestOf (CK acc T a k) b')) (fun _ i _ => u.length - (intOf i).toNat)
  case atStart => exact ⟨0, R, b, by omega, rfl, rfl, Lib.hid HR.out, HB0, HCK⟩
  case round =>
    clear HB0 HCK HR
    obtain ⟨k, bk, b', hk, rfl, rfl, HP, HB, HC⟩ := hrel
    by_cases hlt : k < u.length
    · have hk2 := HB.out.keep.1
      have hTr := (HTX.out.keeps (Nat.le_refl _) (by omega) HB.out.keep)
      obtain ⟨ab, off, rfl, hab, hcc⟩ := hTr.at_int hlt
      have hxw := HW.out _ (List.getElem_mem hlt)
      have HTW := Lib.hid (HTP.out.below HB.out.bel)
      have hTK : u.take (k + 1) = u.take k ++ [u[k]] := by rw [List.take_add_one, List.getElem?_eq_getElem hlt]; rfl
      have HSTOP := Lib.hid (fun h => HTP.out.stop (u := u) (k := k) hlt h)
      have hc0 := HTW.out.tri.cell0 HP.out
      obtain ⟨X, hX⟩ : ∃ X, u[k] = X := ⟨_, rfl⟩
      rw [hX] at hcc hxw hTK
      simp only [hX] at HSTOP
      obtain ⟨p, hp⟩ : ∃ p, u.take k = p := ⟨_, rfl⟩
      rw [hp] at HP hTK hc0
      simp only [hp] at HSTOP
      have HTK := Lib.hid hTK
      have HK := Lib.hid (show k < (T.drop a).length by rw [HU.out]; exact hlt)
      clear hX hp hTK hTr hab
      have hlk : ∀ W' : World, W' = W' := fun _ => rfl
      cases hM : M p with
      | none =>
        rw [hM] at hc0
        have hN := HTW.out.tri.bare p hM X
        have HEND := Lib.hid (HC.out.congr (ck_all ha (fun p hp h => HSTOP.out hN p hp (by rw [← HU.out]; exact h))))
        clear HSTOP
        go_wp2_with (at_lookup; refine wpList_lookup_nil _ rfl _ _ 58 rfl 21 97 .i32 Tryd.underlying21 Tryd.underlying58 (zeroN _) rfl X rfl hxw ?_)
        (try simp only [Exit.inBlock, Exit.then])
        exact bodyPost_ret (results_none rfl _ _ _) rfl ⟨rfl, b', HB.out, HEND.out⟩
      | some mm =>
        rw [hM] at hc0
        have hmap := (HTW.out.tri.kids p mm hM).2
        cases hN : P (p ++ [X]) with
        | none =>
          have HEND := Lib.hid (HC.out.congr (ck_all ha (fun p hp h => HSTOP.out hN p hp (by rw [← HU.out]; exact h))))
          clear HSTOP
          go_wp2_with (at_lookup; refine wpList_lookup_none _ rfl _ _ 58 rfl 21 97 .i32 Tryd.underlying21 Tryd.underlying58 (zeroN _) mm _ (fun x => P (p ++ [x])) rfl hmap X rfl hxw hN ?_)
          (try simp only [Exit.inBlock, Exit.then])
          exact bodyPost_ret (results_none rfl _ _ _) rfl ⟨rfl, b', HB.out, HEND.out⟩
        | some c2 =>
          have hc1 := HTW.out.tri.cell1 hN
          obtain ⟨A, ds, dc, hV, hDs, hcase⟩ := HTP.out.digits hN
          rw [hV] at hc1
          have HDS := Lib.hid hDs
          have hlen : ds.length ≤ k + 2 ∧ ∀ x ∈ ds, 0 ≤ x := by
            rcases hcase with ⟨p', hp', e⟩ | ⟨e, _⟩
            · have ho := HOK.out p' hp'
              have e1 : p'.2 = ds := by rw [e]
              have e2 : p'.1 = p ++ [X] := by rw [e]
              refine ⟨?_, fun x hx => (ho.digits x (by rw [e1]; exact hx)).1⟩
              have h1 := ho.len
              rw [e1, e2, ← HTK.out, List.length_take] at h1
              omega
            · rw [e]; simp
          have HNN := Lib.hid hlen.2
          have hdl := hlen.1
          have HSTEP : Hid (∀ j c, (CK acc T a k j c ∨ ∃ i, i < ds.length ∧ j = a + i ∧ ds[i]? = some c) ↔ CK acc T a (k + 1) j c) := Lib.hid (fun j c => ck_step (by rw [HU.out, HTK.out]; exact hcase) HK.out HTP.out.one j c)
          have HP2 : Hid (P (u.take (k + 1)) = some c2) := Lib.hid (by rw [HTK.out]; exact hN)
          clear hV hDs hcase hlen HSTOP
          go_wp2_with (at_lookup; refine wpList_lookup_some _ rfl _ _ 58 rfl 21 97 .i32 Tryd.underlying21 Tryd.underlying58 (zeroN _) mm _ (fun x => P (p ++ [x])) rfl hmap X rfl hxw c2 hN ?_)
          clear hc0 hc1 hmap hcc
          go_loopw [29] (fun i wx => ∃ (ii : Nat), ii ≤ ds.length ∧ i = .int .i64 ii ∧ Hid (BeS G m w W6 wx (raiseL b' a ds ii))) (fun i _ => ds.length - (intOf i).toNat)
          case atStart => exact ⟨0, by omega, rfl, HB⟩
          case round =>
            obtain ⟨ii, hii, rfl, HBx⟩ := hrel
            by_cases hil : ii < ds.length
            · have hDr := (HDS.out.below HBx.out.bel)
              obtain ⟨b9, off9, rfl, hb9, hcd⟩ := hDr.at_int hil
              have hai : a + ii < m := by have := HUL.out; omega
              have hsp := HBx.out.own.spotG (i := a + ii) (by rw [HBx.out.len]; exact hai)
              have hcw := hsp.2.2.1
              have hfw := hsp.2.2.2.1
              have HST := Lib.hid (HBx.out.store (i := a + ii) hai (max ((raiseL b' a ds ii).getD (a + ii) 0) (ds.getD ii 0)))
              have hdd : ds.getD ii 0 = ds[ii] := by simp [List.getD, List.getElem?_eq_getElem hil]
              rw [hdd] at HST
              obtain ⟨y, hy⟩ : ∃ y, (raiseL b' a ds ii).getD (a + ii) 0 = y := ⟨_, rfl⟩
              obtain ⟨z, hz⟩ : ∃ z, ds[ii] = z := ⟨_, rfl⟩
              obtain ⟨mx, hmx⟩ : ∃ mx, max y z = mx := ⟨_, rfl⟩
              rw [hy, hz, hmx] at HST
              rw [hy] at hcw
              rw [hz] at hcd
              have HRL : Hid (raiseL b' a ds (ii + 1) = (raiseL b' a ds ii).set (a + ii) mx) := Lib.hid (by rw [raiseL, hdd, hy, hz, hmx])
              clear hsp hDr hdd hy hz
              go_wp2_with (at_builtin; refine wpList_max rfl _ _ _ rfl y z rfl rfl mx hmx ?_)
              go_roundw
              case rel => exact ⟨ii + 1, by omega, by go_num, Lib.hid (by rw [HRL.out]; exact HST.out)⟩
              case measure => simp [intOf]; omega
            · obtain rfl : ii = ds.length := by omega
              have HC2 := Lib.hid ((raise_best HC.out a HNN.out ds.length (Nat.le_refl _)).congr HSTEP.out)
              go_wp2
              go_roundw
              case rel => exact ⟨k + 1, c2, _, by omega, by go_num, rfl, HP2, HBx, HC2⟩
              case measure => simp [intOf]; omega
    · obtain rfl : k = u.length := by omega
      have HEND := Lib.hid (HC.out.congr (ck_all ha (fun p hp h => by rw [← HU.out]; exact h.length_le)))
      go_wp2
      go_end0
      exact ⟨b', rfl, HB.out, HEND.out⟩
end Go.Proofs.YtekjejbcdnghjaaDoor
