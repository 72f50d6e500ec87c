/-
  Plain mathematics of Norm: cells, the cells that are passed over, what is painted while one part is laid on. No condition.
-/
import Derived.Test.YtnpcakeagpbgiaaGreatZSpa
import Derived.Test.YtnpcakeagpbgiaaGreatShelfS
import Derived.Lib.OwnBridge
import Derived.Sort.OwnSortedInts
set_option linter.unusedVariables false
set_option linter.unusedSimpArgs false
namespace Go.Proofs.YtnpcakeagpbgiaaGreat.S5

def covers (p : Sp) (x : Int) : Bool := decide (p.f ≤ x ∧ x < p.t)
def cov (l : List Sp) (x : Int) : Bool := l.any (covers · x)
theorem foldl_cov (x : Int) : ∀ (l : List Sp) (v : Int), l.foldl (fun v s => if s.f ≤ x ∧ x < s.t then s.v else v) v = if cov l x then lastVal l x else v
  | [], v => by simp [cov]
  | p :: l, v => by
    have h1 := foldl_cov x l
    unfold lastVal
    simp only [List.foldl_cons]
    rw [h1, h1 (if p.f ≤ x ∧ x < p.t then p.v else 0)]
    by_cases hc : cov l x = true
    · have : cov (p :: l) x = true := by unfold cov at hc ⊢; simp [hc]
      rw [if_pos hc, if_pos this, if_pos hc]
    · rw [if_neg hc, if_neg hc]
      by_cases hp : p.f ≤ x ∧ x < p.t
      · have : cov (p :: l) x = true := by unfold cov covers; simp [hp]
        rw [if_pos hp, if_pos this, if_pos hp]
      · have : ¬ cov (p :: l) x = true := by
          unfold cov covers at hc ⊢
          simp only [List.any_cons, decide_eq_false hp, Bool.false_or]
          exact hc
        rw [if_neg hp, if_neg this]
theorem lastVal_cons (p : Sp) (l : List Sp) (x : Int) : lastVal (p :: l) x = if cov l x then lastVal l x else if covers p x then p.v else 0 := by
  have h := foldl_cov x l (if p.f ≤ x ∧ x < p.t then p.v else 0)
  unfold lastVal
  simp only [List.foldl_cons]
  rw [h]
  unfold covers
  simp only [decide_eq_true_eq]
  rfl
theorem cov_cons (p : Sp) (l : List Sp) (x : Int) : cov (p :: l) x = (cov l x || covers p x) := by
  unfold cov
  rw [List.any_cons, Bool.or_comm]
theorem lastVal_nocov (l : List Sp) (x : Int) (h : cov l x = false) : lastVal l x = 0 := by
  have := foldl_cov x l 0
  rw [h] at this
  unfold lastVal
  rw [this]
  simp

/-- which cells are passed over, and where to: each passed-over cell leads beyond itself, over passed-over cells alone -/
def Inv (nx : List Int) (dn : Nat → Bool) (n : Nat) : Prop :=
  nx.length = n ∧ ∀ c, c < n → (dn c = false → nx[c]? = some (c : Int)) ∧ (dn c = true → ∃ k : Nat, nx[c]? = some (k : Int) ∧ c < k ∧ k < n ∧ ∀ j, c ≤ j → j < k → dn j = true)
theorem Inv.at_ {nx : List Int} {dn : Nat → Bool} {n : Nat} (h : Inv nx dn n) {c : Nat} (hc : c < n) : ∃ k : Nat, nx[c]? = some (k : Int) ∧ c ≤ k ∧ k < n ∧ (k = c ↔ dn c = false) ∧ ∀ j, c ≤ j → j < k → dn j = true := by
  obtain ⟨h1, h2⟩ := h.2 c hc
  cases hd : dn c with
  | false => exact ⟨c, h1 hd, Nat.le_refl _, hc, by simp, fun j a b => absurd a (by omega)⟩
  | true =>
    obtain ⟨k, a, b, c', d⟩ := h2 hd
    exact ⟨k, a, by omega, c', by simp; omega, d⟩
theorem Inv.halve {nx : List Int} {dn : Nat → Bool} {n : Nat} (h : Inv nx dn n) {c k k2 : Nat} (hc : c < n) (hd : dn c = true) (h1 : nx[c]? = some (k : Int)) (h2 : nx[k]? = some (k2 : Int)) (hk : k < n) :
    Inv (nx.set c k2) dn n ∧ c < k2 ∧ k2 < n ∧ ∀ j, c ≤ j → j < k2 → dn j = true := by
  obtain ⟨k', a1, a2, a3, a4⟩ := (h.2 c hc).2 hd
  obtain rfl : k' = k := by rw [h1] at a1; injection a1 with a1; omega
  obtain ⟨k2', b1, b2, b3, b4, b5⟩ := h.at_ hk
  obtain rfl : k2' = k2 := by rw [h2] at b1; injection b1 with b1; omega
  have hall : ∀ j, c ≤ j → j < k2' → dn j = true := fun j j1 j2 => by
    rcases Nat.lt_or_ge j k' with hj | hj
    · exact a4 j j1 hj
    · exact b5 j hj j2
  refine ⟨⟨by rw [List.length_set]; exact h.1, fun j hj => ?_⟩, by omega, b3, hall⟩
  by_cases hjc : c = j
  · subst hjc
    refine ⟨fun hf => absurd hf (by rw [hd]; simp), fun _ => ⟨k2', ?_, by omega, b3, hall⟩⟩
    rw [List.getElem?_set_self (by rw [h.1]; exact hc)]
  · obtain ⟨h3, h4⟩ := h.2 j hj
    rw [List.getElem?_set_ne hjc]
    exact ⟨h3, h4⟩
theorem Inv.paint {nx : List Int} {dn : Nat → Bool} {n : Nat} (h : Inv nx dn n) {c : Nat} (hc : c + 1 < n) : Inv (nx.set c ((c + 1 : Nat) : Int)) (fun j => dn j || decide (j = c)) n := by
  refine ⟨by rw [List.length_set]; exact h.1, fun j hj => ?_⟩
  by_cases hjc : c = j
  · subst hjc
    refine ⟨fun hf => by simp at hf, fun _ => ⟨c + 1, ?_, by omega, hc, fun i h1 h2 => ?_⟩⟩
    · rw [List.getElem?_set_self (by rw [h.1]; omega)]
    · have : i = c := by omega
      simp [this]
  · obtain ⟨h3, h4⟩ := h.2 j hj
    rw [List.getElem?_set_ne hjc]
    have hne : decide (j = c) = false := decide_eq_false (fun h => hjc h.symm)
    simp only [hne, Bool.or_false]
    exact ⟨h3, fun hd => by
      obtain ⟨k, a, b, c', d⟩ := h4 hd
      exact ⟨k, a, b, c', fun i h1 h2 => by simp [d i h1 h2]⟩⟩
theorem Inv.congr {nx : List Int} {dn dn' : Nat → Bool} {n : Nat} (h : Inv nx dn n) (he : ∀ j, j < n → dn j = dn' j) : Inv nx dn' n := by
  refine ⟨h.1, fun c hc => ?_⟩
  rw [← he c hc]
  obtain ⟨h3, h4⟩ := h.2 c hc
  exact ⟨h3, fun hd => by
    obtain ⟨k, a, b, c', d⟩ := h4 hd
    exact ⟨k, a, b, c', fun i h1 h2 => by rw [← he i (by omega)]; exact d i h1 h2⟩⟩
theorem inv_start (n : Nat) : Inv ((List.range n).map (fun (i : Nat) => (i : Int))) (fun _ => false) n :=
  ⟨by simp, fun c hc => ⟨fun _ => by simp [hc], fun h => by cases h⟩⟩

/-- in an increasing list the elements below x come first -/
theorem count_lt : ∀ (es : List Int), es.Pairwise (· < ·) → ∀ (x : Int) (j : Nat) (hj : j < es.length), (es[j] < x ↔ j < es.countP (· < x))
  | [], _, x, j, hj => by simp at hj
  | e :: es, h, x, j, hj => by
    obtain ⟨h1, h2⟩ := List.pairwise_cons.1 h
    rw [List.countP_cons]
    by_cases hx : e < x
    · rw [if_pos (by simpa using hx)]
      cases j with
      | zero => simp [hx]
      | succ j =>
        have := count_lt es h2 x j (by simpa using hj)
        simp only [List.getElem_cons_succ]
        omega
    · rw [if_neg (by simpa using hx)]
      have h0 : es.countP (· < x) = 0 := List.countP_eq_zero.2 fun a ha => by
        have := h1 a ha
        simp
        omega
      rw [h0]
      cases j with
      | zero => simp [hx]
      | succ j =>
        have hj2 : j < es.length := by simpa using hj
        have := h1 es[j] (List.getElem_mem hj2)
        simp only [List.getElem_cons_succ]
        omega
section
variable (es : List Int) (m : Nat)
def eAt (j : Nat) : Int := es.getD j 0
def DN (sfx : List Sp) (j : Nat) : Bool := decide (j < m) && cov sfx (eAt es j)
def VL (sfx : List Sp) : List Int := (List.range m).map fun j => lastVal sfx (eAt es j)
def dnM (sfx : List Sp) (p : Sp) (k0 c : Nat) (j : Nat) : Bool := DN es m sfx j || decide (k0 ≤ j ∧ j < c ∧ j < m ∧ eAt es j < p.t)
def vM (sfx : List Sp) (p : Sp) (k0 c : Nat) (j : Nat) : Int := if DN es m sfx j = true then lastVal sfx (eAt es j) else if k0 ≤ j ∧ j < c ∧ eAt es j < p.t then p.v else 0
def valsM (sfx : List Sp) (p : Sp) (k0 c : Nat) : List Int := (List.range m).map fun j => vM es m sfx p k0 c j
variable {es m} {sfx : List Sp} {p : Sp} {k0 : Nat}
theorem valsM_length (c : Nat) : (valsM es m sfx p k0 c).length = m := by simp [valsM]
theorem start_dn (j : Nat) : dnM es m sfx p k0 k0 j = DN es m sfx j := by
  unfold dnM
  rw [decide_eq_false (by omega), Bool.or_false]
theorem start_vals : valsM es m sfx p k0 k0 = VL es m sfx := by
  unfold valsM VL
  apply List.map_congr_left
  intro j hj
  have hj := List.mem_range.1 hj
  unfold vM
  split
  · rfl
  · rename_i h
    rw [if_neg (by omega)]
    unfold DN at h
    rw [lastVal_nocov]
    simpa [hj] using h
theorem skip_dn {a b : Nat} (hab : a ≤ b) (h : ∀ j, a ≤ j → j < b → dnM es m sfx p k0 a j = true) (j : Nat) : dnM es m sfx p k0 b j = dnM es m sfx p k0 a j := by
  by_cases hj : a ≤ j ∧ j < b
  · rw [h j hj.1 hj.2]
    have := h j hj.1 hj.2
    unfold dnM at this ⊢
    rw [decide_eq_false (show ¬ (k0 ≤ j ∧ j < a ∧ j < m ∧ eAt es j < p.t) by omega), Bool.or_false] at this
    rw [this, Bool.true_or]
  · unfold dnM
    congr 1
    apply decide_eq_decide.2
    omega
theorem skip_vals {a b : Nat} (hab : a ≤ b) (h : ∀ j, a ≤ j → j < b → dnM es m sfx p k0 a j = true) : valsM es m sfx p k0 b = valsM es m sfx p k0 a := by
  unfold valsM
  apply List.map_congr_left
  intro j hj
  unfold vM
  split
  · rfl
  · rename_i hd
    have hnot : ¬ (a ≤ j ∧ j < b) := fun hj2 => by
      have := h j hj2.1 hj2.2
      unfold dnM at this
      rw [decide_eq_false (show ¬ (k0 ≤ j ∧ j < a ∧ j < m ∧ eAt es j < p.t) by omega), Bool.or_false] at this
      exact hd this
    by_cases hc : k0 ≤ j ∧ j < b ∧ eAt es j < p.t
    · rw [if_pos hc, if_pos (by omega)]
    · rw [if_neg hc, if_neg (by omega)]
theorem paint_dn {c : Nat} (hk : k0 ≤ c) (hc : c < m) (ht : eAt es c < p.t) (j : Nat) : (dnM es m sfx p k0 c j || decide (j = c)) = dnM es m sfx p k0 (c + 1) j := by
  unfold dnM
  rw [Bool.or_assoc]
  congr 1
  rw [← Bool.decide_or]
  apply decide_eq_decide.2
  constructor
  · rintro (h | rfl)
    · omega
    · exact ⟨hk, by omega, hc, ht⟩
  · intro h
    by_cases hj : j = c
    · exact .inr hj
    · exact .inl (by omega)
theorem paint_vals {c : Nat} (hk : k0 ≤ c) (hc : c < m) (ht : eAt es c < p.t) (hd : dnM es m sfx p k0 c c = false) : (valsM es m sfx p k0 c).set c p.v = valsM es m sfx p k0 (c + 1) := by
  have hd' : DN es m sfx c = false := by
    unfold dnM at hd
    exact (Bool.or_eq_false_iff.1 hd).1
  apply List.ext_getElem
  · simp [valsM]
  · intro j h1 h2
    have hj : j < m := by simpa [valsM] using h2
    rw [List.getElem_set]
    simp only [valsM, List.getElem_map, List.getElem_range]
    by_cases hjc : c = j
    · subst hjc
      rw [if_pos rfl]
      unfold vM
      rw [if_neg (by rw [hd']; simp), if_pos ⟨hk, by omega, ht⟩]
    · rw [if_neg hjc]
      unfold vM
      split
      · rfl
      · by_cases hq : k0 ≤ j ∧ j < c ∧ eAt es j < p.t
        · rw [if_pos hq, if_pos (by omega)]
        · rw [if_neg hq, if_neg (by omega)]
theorem end_dn {c : Nat} (hs : ∀ j, j ≤ m → (k0 ≤ j ↔ p.f ≤ eAt es j)) (hmono : ∀ i j, i < j → j ≤ m → eAt es i < eAt es j) (hc : c ≤ m) (ht : p.t ≤ eAt es c) (j : Nat) : dnM es m sfx p k0 c j = DN es m (p :: sfx) j := by
  unfold dnM DN
  rw [cov_cons]
  by_cases hj : j < m
  · rw [decide_eq_true hj, Bool.true_and, Bool.true_and]
    congr 1
    unfold covers
    apply decide_eq_decide.2
    have h1 := hs j (by omega)
    constructor
    · intro h
      exact ⟨h1.1 h.1, h.2.2.2⟩
    · intro h
      refine ⟨h1.2 h.1, ?_, hj, h.2⟩
      rcases Nat.lt_or_ge j c with h2 | h2
      · exact h2
      · rcases Nat.eq_or_lt_of_le h2 with h3 | h3
        · subst h3; omega
        · have := hmono c j h3 (by omega)
          omega
  · rw [decide_eq_false hj, Bool.false_and, Bool.false_and, decide_eq_false (by omega)]
    rfl
theorem end_vals {c : Nat} (hs : ∀ j, j ≤ m → (k0 ≤ j ↔ p.f ≤ eAt es j)) (hmono : ∀ i j, i < j → j ≤ m → eAt es i < eAt es j) (hc : c ≤ m) (ht : p.t ≤ eAt es c) : valsM es m sfx p k0 c = VL es m (p :: sfx) := by
  unfold valsM VL
  apply List.map_congr_left
  intro j hj
  have hj := List.mem_range.1 hj
  rw [lastVal_cons]
  unfold vM DN
  rw [decide_eq_true hj, Bool.true_and]
  split
  · rfl
  · have h1 := hs j (by omega)
    unfold covers
    by_cases hq : p.f ≤ eAt es j ∧ eAt es j < p.t
    · have hpos : k0 ≤ j ∧ j < c ∧ eAt es j < p.t := by
        refine ⟨h1.2 hq.1, ?_, hq.2⟩
        rcases Nat.lt_or_ge j c with h2 | h2
        · exact h2
        · rcases Nat.eq_or_lt_of_le h2 with h3 | h3
          · subst h3; omega
          · have := hmono c j h3 (by omega)
            omega
      rw [if_pos hpos, decide_eq_true hq]
      rfl
    · have hneg : ¬ (k0 ≤ j ∧ j < c ∧ eAt es j < p.t) := fun h => hq ⟨h1.1 h.1, h.2.2⟩
      rw [if_neg hneg, decide_eq_false hq]
      rfl
end
theorem VL_nil (es : List Int) (m : Nat) : VL es m [] = List.replicate m 0 := by
  unfold VL
  apply List.ext_getElem
  · simp
  · intro j h1 h2
    simp [lastVal]
theorem DN_nil (es : List Int) (m j : Nat) : DN es m [] j = false := by simp [DN, cov]
end Go.Proofs.YtnpcakeagpbgiaaGreat.S5

/-
  Contract of the program's clip. No condition but bounds on lengths.
-/
set_option linter.unusedVariables false
set_option linter.unusedSimpArgs false
namespace Go.Proofs.YtnpcakeagpbgiaaGreat.S5
open Go.ChangeShapes Go.WideShapes Go.ChangeAt Go.RowKit

def clip1 (n : Int) (s : Sp) : List Sp := if max s.f 0 < min s.t n then [⟨max s.f 0, min s.t n, s.v⟩] else []
def clipP (n : Int) (l : List Sp) : List Sp := l.flatMap (clip1 n)
theorem clip_take (n : Int) (l : List Sp) (k : Nat) (h : k < l.length) : clipP n (l.take (k + 1)) = clipP n (l.take k) ++ clip1 n l[k] := by
  unfold clipP
  rw [List.take_add_one, List.getElem?_eq_getElem h, List.flatMap_append]
  simp
theorem length_clip (n : Int) : ∀ l : List Sp, (clipP n l).length ≤ l.length
  | [] => by simp [clipP]
  | s :: l => by
    have := length_clip n l
    unfold clipP at this ⊢
    rw [List.flatMap_cons, List.length_append, List.length_cons]
    have : (clip1 n s).length ≤ 1 := by unfold clip1; split <;> simp
    omega
theorem MineS.setNew {w w0 : World} {B : Nat} {v : Value} {l : List Sp} (h0 : MineS w0 B v l) (h : MineS w B v l) {p : Addr} (hp : w0.heap.size ≤ p.block) (u : Value) : MineS (w.setCell p u) B v l :=
  ownsRow_setCell_other h (fun e => by have := (World.ownsRow.lt h0 _ e).2; omega) u
/-- as wpList_pushS, the newest block's number written out -/
theorem wpList_pushS_n {P : Program} {ops : Array Oper} {rest : List Oper} {o : Oper} {a : Act} {Q : Exit → Act → World → Prop} {bytes : Nat} (hgd : o.guard = none) (s x : Operand) (t : TypeId)
    (ho : o.op = .call { callee := .builtin .append, args := #[s, x], argTypes := #[t, t] }) (z : Value)
    (ht : P.underlying t = some (.slice 32)) (hi : (P.info? 32).map (fun i => (i.zero, i.size, i.bytes)) = some (some z, 3, bytes)) (hz : z.cells.size = 3) (hby : bytes ≤ 64)
    (B : Nat) (v : Value) (l : List Sp) (y : Sp) (W0 wr : World) (H : Nat) (hH : wr.heap.size = H) (cs : Array Value) (hcs : cs = (row y).toArray) (hown : MineS wr B v l) (hs : a.eval s = v) (hx : a.eval x = .slice (some ⟨H, 0, none⟩) 1 1)
    (hbl : Below B W0 wr) (hB : B ≤ wr.heap.size) (hn : l.length ≤ 1000000)
    (h : ∀ v' w', MineS w' B v' (l ++ [y]) → Below B W0 w' → wpList P ops Q rest (a.put o.dst v') w') : wpList P ops Q (o :: rest) a (wr.alloc (.cells cs 32)) := by
  subst hH
  exact wpList_pushS hgd s x t ho z ht hi hz hby B v l y W0 wr cs hcs hown hs hx hbl hB hn h

set_option maxHeartbeats 2000000 in
theorem clip_ok (A : Option Addr) (c n : Nat) (l : List Sp) (N : Int) (w : World) (hnl : n = l.length) (hn : n ≤ 10000) (hh : HasS w w.heap.size A l) :
    Calls Tryz.prog 33 #[.slice A n c, .int .i64 N] w fun e w' => MineSOf w w' e (clipP N l) := by
  have HL := Lib.hid hnl
  have HLN := Lib.hid (fun k => length_clip N (l.take k))
  clear hnl
  go_enter Tryz.func33, Tryz.ntmps33
  go_wp2
  go_loopw [5, 10] (fun v j wr => ∃ k : Nat, k ≤ n ∧ j = .int .i64 k ∧ MineS wr w.heap.size v (clipP N (l.take k)) ∧ Below w.heap.size w wr) (fun _ j _ => n - (intOf j).toNat)
  case atStart => exact ⟨0, by omega, rfl, MineS.nil_ _ _, Below.refl _ _⟩
  case round =>
    obtain ⟨k, hk, rfl, hown, hbl⟩ := hrel
    by_cases hlt : k < n
    · have hsz := hbl.size
      have hlt1 : k < l.length := by rw [← HL.out]; exact hlt
      obtain ⟨b, off, rfl, hb, hc0, hc1, hc2⟩ := (hh.carry hbl).at_ hlt1
      have hG := clip_take N l k hlt1
      obtain ⟨X, hX⟩ : ∃ X, l[k] = X := ⟨_, rfl⟩
      rw [hX] at hc0 hc1 hc2 hG
      have hlen := HLN.out k
      rw [List.length_take] at hlen
      generalize clipP N (l.take k) = acc at hown hG hlen
      obtain ⟨f, t, v⟩ := X
      simp only [clip1] at hc0 hc1 hc2 hG
      obtain ⟨F, hF⟩ : ∃ M, max f 0 = M := ⟨_, rfl⟩
      obtain ⟨T, hT⟩ : ∃ M, min t N = M := ⟨_, rfl⟩
      rw [hF, hT] at hG
      have hlen2 : acc.length ≤ 1000000 := by have := Nat.min_le_left k l.length; omega
      have h3 := Lib.hid (hown.alloc (.cells #[.int .i64 F, .int .i64 T, .int .i64 v] 32))
      have hb3 := Lib.hid (hbl.alloc hsz (.cells #[.int .i64 F, .int .i64 T, .int .i64 v] 32))
      replace hF := Lib.hid hF
      replace hT := Lib.hid hT
      clear hX hown hlen
      by_cases hFT : F < T
      · rw [if_pos hFT] at hG
        replace hG := Lib.hid hG
        go_wp2_with (first
          | (refine wpList_max rfl _ _ _ rfl f 0 rfl rfl F hF.out ?_)
          | (refine wpList_min rfl _ _ _ rfl t N rfl rfl T hT.out ?_)
          | (at_builtin; refine wpList_pushS_n rfl _ _ 24 rfl (.agg #[.int .i64 0, .int .i64 0, .int .i64 0]) Tryz.underlying24 full32 rfl (by omega) w.heap.size _ acc ⟨F, T, v⟩ w _ (wr.heap.size + 1) (by simp) _ rfl h3.out rfl rfl hb3.out (by simp; omega) hlen2 ?_; intro v' w1 hown' hbl'))
        go_roundw
        case rel => exact ⟨k + 1, by omega, by go_num, by rw [hG.out]; exact hown', hbl'⟩
        case measure => simp [intOf]; omega
      · rw [if_neg hFT, List.append_nil] at hG
        replace hG := Lib.hid hG
        go_wp2_with (first
          | (refine wpList_max rfl _ _ _ rfl f 0 rfl rfl F hF.out ?_)
          | (refine wpList_min rfl _ _ _ rfl t N rfl rfl T hT.out ?_))
        go_roundw
        case rel => exact ⟨k + 1, by omega, by go_num, by rw [hG.out]; exact h3.out, hb3.out⟩
        case measure => simp [intOf]; omega
    · obtain rfl : k = n := by omega
      rw [List.take_of_length_le (by rw [← HL.out]; omega)] at hown
      go_wp2
      go_ret
      exact ⟨_, rfl, hown, hbl⟩
end Go.Proofs.YtnpcakeagpbgiaaGreat.S5

/-
  Contract of the program's cellEnds: 0, n and the ends of the parts, increasing. No condition but bounds on lengths.
-/
set_option linter.unusedVariables false
set_option linter.unusedSimpArgs false
namespace Go.Proofs.YtnpcakeagpbgiaaGreat.S5
open Go.ChangeShapes Go.WideShapes Go.ChangeAt Go.RowKit Go.Sort

def ends0 (N : Int) (l : List Sp) : List Int := [0, N] ++ l.flatMap (fun s => [s.f, s.t])
def endsP (N : Int) (l : List Sp) : List Int := Lib.compact ((ends0 N l).mergeSort fun x y => decide (x ≤ y))
theorem ends0_take (N : Int) (l : List Sp) (k : Nat) (h : k < l.length) : ends0 N (l.take (k + 1)) = ends0 N (l.take k) ++ [l[k].f, l[k].t] := by
  unfold ends0
  rw [List.take_add_one, List.getElem?_eq_getElem h, List.flatMap_append]
  simp
theorem length_ends0 (N : Int) : ∀ l : List Sp, (ends0 N l).length = 2 + 2 * l.length
  | [] => rfl
  | s :: l => by
    have := length_ends0 N l
    unfold ends0 at this ⊢
    rw [List.flatMap_cons]
    simp at this ⊢
    omega

/-- of a sorted list 'compact' keeps each element once -/
theorem compact_sorted (d : Array Int) (hs : ∀ i j, i ≤ j → j < d.size → d[i]! ≤ d[j]!) : ∀ m, m ≤ d.size → (Lib.compactUpTo d m).Pairwise (· < ·) ∧ (∀ x, x ∈ Lib.compactUpTo d m ↔ ∃ j, j < m ∧ d[j]! = x) ∧ (∀ x ∈ Lib.compactUpTo d m, ∀ j, m ≤ j + 1 → j < d.size → x ≤ d[j]!)
  | 0, _ => ⟨by simp [Lib.compactUpTo], fun x => by simp [Lib.compactUpTo], fun x hx => by simp [Lib.compactUpTo] at hx⟩
  | m + 1, hm => by
    obtain ⟨h1, h2, h3⟩ := compact_sorted d hs m (by omega)
    rw [Lib.compactUpTo_succ]
    cases hk : Lib.keeps d m with
    | true =>
      simp only [if_true]
      refine ⟨?_, ?_, ?_⟩
      · rw [List.pairwise_append]
        refine ⟨h1, by simp, fun a ha b hb => ?_⟩
        simp at hb
        subst hb
        have h4 := (h2 a).1 ha
        obtain ⟨j, hj, rfl⟩ := h4
        have h5 := h3 _ ha (m - 1) (by omega) (by omega)
        have h6 := hs (m - 1) m (by omega) (by omega)
        have h7 : d[m]! ≠ d[m - 1]! := by
          simp [Lib.keeps] at hk
          exact hk.resolve_left (by omega)
        omega
      · intro x
        rw [List.mem_append, h2]
        constructor
        · rintro (⟨j, hj, rfl⟩ | hx)
          · exact ⟨j, by omega, rfl⟩
          · simp at hx
            exact ⟨m, by omega, hx.symm⟩
        · rintro ⟨j, hj, rfl⟩
          rcases Nat.lt_or_ge j m with h | h
          · exact .inl ⟨j, h, rfl⟩
          · obtain rfl : j = m := by omega
            exact .inr (by simp)
      · intro x hx j hj hjs
        rcases List.mem_append.1 hx with hx | hx
        · exact h3 x hx j (by omega) hjs
        · simp at hx
          subst hx
          exact hs m j (by omega) hjs
    | false =>
      have hmp : m ≠ 0 ∧ d[m]! = d[m - 1]! := by
        simp [Lib.keeps] at hk
        exact hk
      simp only [Bool.false_eq_true, if_false, List.append_nil]
      refine ⟨h1, ?_, fun x hx j hj hjs => h3 x hx j (by omega) hjs⟩
      intro x
      rw [h2]
      constructor
      · rintro ⟨j, hj, rfl⟩
        exact ⟨j, by omega, rfl⟩
      · rintro ⟨j, hj, rfl⟩
        rcases Nat.lt_or_ge j m with h | h
        · exact ⟨j, h, rfl⟩
        · obtain rfl : j = m := by omega
          exact ⟨j - 1, by omega, hmp.2.symm⟩
theorem compact_spec (s : List Int) (hs : s.Pairwise (· ≤ ·)) : (Lib.compact s).Pairwise (· < ·) ∧ ∀ x, x ∈ Lib.compact s ↔ x ∈ s := by
  have hs' : ∀ i j, i ≤ j → j < s.toArray.size → s.toArray[i]! ≤ s.toArray[j]! := fun i j hij hj => by
    have hj' : j < s.length := by simpa using hj
    have e1 : s.toArray[i]! = s[i] := by simp [getElem!_pos, show i < s.length by omega]
    have e2 : s.toArray[j]! = s[j] := by simp [getElem!_pos, hj']
    rw [e1, e2]
    rcases Nat.lt_or_ge i j with h | h
    · exact List.pairwise_iff_getElem.1 hs i j (by omega) hj' h
    · obtain rfl : i = j := by omega
      exact Int.le_refl _
  obtain ⟨h1, h2, _⟩ := compact_sorted s.toArray hs' s.length (by simp)
  refine ⟨h1, fun x => ?_⟩
  unfold Lib.compact
  rw [h2]
  constructor
  · rintro ⟨j, hj, rfl⟩
    have e1 : s.toArray[j]! = s[j] := by simp [getElem!_pos, hj]
    rw [e1]
    exact List.getElem_mem hj
  · intro hx
    obtain ⟨j, hj, rfl⟩ := List.getElem_of_mem hx
    exact ⟨j, hj, by simp [getElem!_pos, hj]⟩
theorem endsP_spec (N : Int) (l : List Sp) : (endsP N l).Pairwise (· < ·) ∧ ∀ x, x ∈ endsP N l ↔ x ∈ ends0 N l := by
  have hp : ((ends0 N l).mergeSort fun x y => decide (x ≤ y)).Pairwise (fun a b => decide (a ≤ b) = true) := List.pairwise_mergeSort (fun a b c h1 h2 => by simp at *; omega) (fun a b => by simp; omega) _
  obtain ⟨h1, h2⟩ := compact_spec _ (hp.imp (fun h => by simpa using h))
  exact ⟨h1, fun x => (h2 x).trans (List.mem_mergeSort)⟩
theorem length_endsP (N : Int) (l : List Sp) : (endsP N l).length ≤ 2 + 2 * l.length := by
  unfold endsP
  have := Lib.compact_length_le ((ends0 N l).mergeSort fun x y => decide (x ≤ y))
  rw [List.length_mergeSort, length_ends0] at this
  exact this

theorem _root_.Go.Proofs.YtnpcakeagpbgiaaGreat.Mine.lits {w : World} (B : Nat) (k : IntKind) (e : TypeId) (xs : List Int) (hB : B ≤ w.heap.size) (cs : Array Value) (hcs : cs = (xs.map (Value.int k)).toArray) (n : Nat) (hn : n = xs.length) (hm : n ≤ 1000000) :
    Mine k e (w.alloc (.cells cs e)) B (.slice (some ⟨w.heap.size, 0, none⟩) n n) xs := by
  subst hcs; subst hn
  exact ⟨by simp, .inr ⟨w.heap.size, xs.length, _, rfl, hB, heap_alloc_new w _, Nat.le_refl _, by unfold maxLen; omega, by simp, by rw [Nat.mul_one]; exact List.take_of_length_le (by simp)⟩⟩
theorem wpList_pushs_n {P : Program} {ops : Array Oper} {rest : List Oper} {o : Oper} {a : Act} {Q : Exit → Act → World → Prop} {k : IntKind} {e : TypeId} {bytes : Nat} (hgd : o.guard = none) (s x : Operand) (t : TypeId)
    (ho : o.op = .call { callee := .builtin .append, args := #[s, x], argTypes := #[t, t] })
    (ht : P.underlying t = some (.slice e)) (hi : (P.info? e).map (fun i => (i.zero, i.size, i.bytes)) = some (some (.int k 0), 1, bytes)) (hby : bytes ≤ 64)
    (B : Nat) (v : Value) (xs : List Int) (ys : List Int) (W0 wr : World) (H : Nat) (hH : wr.heap.size = H) (cs : Array Value) (hcs : cs = (ys.map (Value.int k)).toArray) (hown : Mine k e wr B v xs) (hs : a.eval s = v) (n : Nat) (hys : n = ys.length) (hx : a.eval x = .slice (some ⟨H, 0, none⟩) n n)
    (hbl : Below B W0 wr) (hB : B ≤ wr.heap.size) (hn : xs.length ≤ 1000000000) (hm : ys.length ≤ 1000)
    (h : ∀ v' w', Mine k e w' B v' (xs ++ ys) → Below B W0 w' → wpList P ops Q rest (a.put o.dst v') w') : wpList P ops Q (o :: rest) a (wr.alloc (.cells cs e)) := by
  subst hH
  exact wpList_pushs hgd s x t ho ht hi hby B v xs ys W0 wr cs hcs hown hs n hys hx hbl hB hn hm h

/-- Sort of a slice of the call's own -/
theorem sort_ok (B : Nat) (v : Value) (zs : List Int) (w : World) (hown : Mine .i64 3 w B v zs) (hne : zs ≠ []) (hlen : zs.length ≤ 1000000) :
    Calls Tryz.prog 55 #[v] w fun e w' => e = .returned (.tuple #[]) ∧ Mine .i64 3 w' B v (zs.mergeSort fun x y => decide (x ≤ y)) ∧ Below B w w' := by
  have hv : v ≠ .slice none 0 0 := fun e => by
    subst e
    rcases hown.2 with ⟨_, h0⟩ | ⟨g, cap, cur, h, _⟩
    · exact hne (List.eq_nil_of_length_eq_zero h0)
    · cases h
  obtain ⟨g, cap, hv', hbg, hgl, hn, hm, hl, hH⟩ := Lib.holds_of_ownsRow hown hv
  subst hv'
  refine (Tryz.slices_Sort_int g 0 cap zs w hH hgl (by omega)).mono fun e w' he => ?_
  obtain ⟨rfl, n, os, rfl⟩ := he
  refine ⟨rfl, ?_, ?_⟩
  · rcases hown.2 with ⟨a, _⟩ | ⟨g', cap', cur, a, _, hg, hc, hm, hs, ht⟩
    · cases a
    · injection a with a1 a2 a3
      injection a1 with a1
      injection a1 with a1
      subst a1; subst a3
      have := ownsRow_sortedI (n := n) (os := os) (ss := zs) (ts := zs.mergeSort fun x y => decide (x ≤ y)) (List.length_mergeSort _) hbg hg hc hm hs
      unfold Mine
      rw [List.length_mergeSort]
      exact this
  · have h1 : Below B w (putRow (Value.int .i64) (Sort.ahead w n) g 0 (zs.mergeSort fun x y => decide (x ≤ y)).toArray) := Lib.below_putRow (Below.refl _ _) hbg
    refine ⟨h1.os, h1.tape, h1.output, by have := h1.size; simp [grow] <;> omega, fun k hk => ?_⟩
    rw [← h1.block k hk]
    have hks : k < (putRow (Value.int .i64) (Sort.ahead w n) g 0 (zs.mergeSort fun x y => decide (x ≤ y)).toArray).heap.size := by
      have := h1.size
      have : g < w.heap.size := hgl
      omega
    exact Array.getElem?_append_left hks
/-- Compact of a slice of the call's own -/
theorem compact_ok (B : Nat) (v : Value) (zs : List Int) (w : World) (hown : Mine .i64 3 w B v zs) (hne : zs ≠ []) (hlen : zs.length ≤ 1000000) :
    Calls Tryz.prog 56 #[v] w fun e w' => ∃ v', e = .returned v' ∧ Mine .i64 3 w' B v' (Lib.compact zs) ∧ Below B w w' := by
  have hv : v ≠ .slice none 0 0 := fun e => by
    subst e
    rcases hown.2 with ⟨_, h0⟩ | ⟨g, cap, cur, h, _⟩
    · exact hne (List.eq_nil_of_length_eq_zero h0)
    · cases h
  obtain ⟨g, cap, hv', hbg, hgl, hn, hm, hl, hH⟩ := Lib.holds_of_ownsRow hown hv
  subst hv'
  refine (Tryz.slices_Compact_int g 0 cap zs w hH (by omega) hn).mono fun e w' he => ?_
  obtain ⟨rfl, q, rfl⟩ := he
  have hcl := Lib.compact_length_le zs
  refine ⟨_, rfl, ?_, Lib.below_putRow (Below.refl _ _) hbg⟩
  have := Lib.ownsRow_putRow (q := q) (k := (Lib.compact zs).length) (ys := Lib.compact zs ++ List.replicate (zs.length - (Lib.compact zs).length) 0) hown (by simp; omega) hcl
  rw [List.take_left] at this
  exact this

set_option maxHeartbeats 2000000 in
theorem cellEnds_ok (A : Option Addr) (c n : Nat) (l : List Sp) (N : Int) (w : World) (hnl : n = l.length) (hn : n ≤ 10000) (hh : HasS w w.heap.size A l) :
    Calls Tryz.prog 34 #[.slice A n c, .int .i64 N] w fun e w' => MineOf w w' e (endsP N l) := by
  have HL := Lib.hid hnl
  clear hnl
  have hlen0 := fun k => length_ends0 N (l.take k)
  replace hlen0 := Lib.hid hlen0
  go_enter Tryz.func34, Tryz.ntmps34
  go_wp2
  go_loopw [5, 12] (fun v j wr => ∃ k : Nat, k ≤ n ∧ j = .int .i64 k ∧ Mine .i64 3 wr w.heap.size v (ends0 N (l.take k)) ∧ Below w.heap.size w wr) (fun _ j _ => n - (intOf j).toNat)
  case atStart => exact ⟨0, by omega, rfl, Mine.lits _ _ _ [0, N] (Nat.le_refl _) _ rfl 2 rfl (by omega), (Below.refl _ _).alloc (Nat.le_refl _) _⟩
  case round =>
    obtain ⟨k, hk, rfl, hown, hbl⟩ := hrel
    by_cases hlt : k < n
    · have hsz := hbl.size
      have hlt1 : k < l.length := by rw [← HL.out]; exact hlt
      obtain ⟨b, off, rfl, hb, hc0, hc1, hc2⟩ := (hh.carry hbl).at_ hlt1
      have hG := ends0_take N l k hlt1
      obtain ⟨X, hX⟩ : ∃ X, l[k] = X := ⟨_, rfl⟩
      rw [hX] at hc0 hc1 hc2 hG
      have hlen := hlen0.out k
      rw [List.length_take] at hlen
      generalize ends0 N (l.take k) = acc at hown hG hlen
      obtain ⟨f, t, v⟩ := X
      simp only at hc0 hc1 hc2 hG
      have hlen2 : acc.length ≤ 1000000000 := by have := Nat.min_le_left k l.length; omega
      have h3 := Lib.hid (hown.alloc (.cells #[.int .i64 f, .int .i64 t, .int .i64 v] 32))
      have hb3 := Lib.hid (hbl.alloc hsz (.cells #[.int .i64 f, .int .i64 t, .int .i64 v] 32))
      replace hG := Lib.hid hG
      clear hX hown hlen
      go_wp2_with (at_builtin; refine wpList_pushs_n rfl _ _ 33 rfl Tryz.underlying33 full3 (by omega) w.heap.size _ acc [f, t] w _ (wr.heap.size + 1) (by simp) _ rfl h3.out rfl 2 rfl rfl hb3.out (by simp; omega) hlen2 (by simp) ?_; intro v' w1 hown' hbl')
      go_roundw
      case rel => exact ⟨k + 1, by omega, by go_num, by rw [hG.out]; exact hown', hbl'⟩
      case measure => simp [intOf]; omega
    · obtain rfl : k = n := by omega
      rw [List.take_of_length_le (by rw [← HL.out]; omega)] at hown
      have hl0 : (ends0 N l).length ≤ 1000000 := by rw [length_ends0, ← HL.out]; omega
      have hne : ends0 N l ≠ [] := by unfold ends0; simp
      have H41 := Lib.hid (sort_ok w.heap.size u5 (ends0 N l) wr hown hne hl0)
      have hl1 : ((ends0 N l).mergeSort fun x y => decide (x ≤ y)).length ≤ 1000000 := by rw [List.length_mergeSort]; exact hl0
      have hne1 : ((ends0 N l).mergeSort fun x y => decide (x ≤ y)) ≠ [] := fun h => by
        have := List.length_mergeSort (le := fun x y => decide (x ≤ y)) (ends0 N l)
        rw [h] at this
        exact hne (List.eq_nil_of_length_eq_zero this.symm)
      have hP : Hid (endsP N l = Lib.compact ((ends0 N l).mergeSort fun x y => decide (x ≤ y))) := Lib.hid rfl
      generalize ((ends0 N l).mergeSort fun x y => decide (x ≤ y)) = zs at H41 hl1 hne1 hP
      have H42 := Lib.hid (fun w1 h => compact_ok w.heap.size u5 zs w1 h hne1 hl1)
      clear hown hl0 hne hl1 hne1
      go_wp2_with (first
        | (go_at_call 55; refine H41.out.mono ?_; rintro e w1 ⟨rfl, hown1, hb1⟩)
        | (go_at_call 56; refine (H42.out _ hown1).mono ?_; rintro e w2 ⟨v2, rfl, hown2, hb2⟩))
      go_ret
      exact ⟨_, rfl, by rw [hP.out]; exact hown2, (hbl.trans hb1).trans hb2⟩
end Go.Proofs.YtnpcakeagpbgiaaGreat.S5

/-
  Plain mathematics of Norm: cells between the ends of the parts, put together. No condition.
-/
set_option linter.unusedVariables false
set_option linter.unusedSimpArgs false
namespace Go.Proofs.YtnpcakeagpbgiaaGreat.S5

theorem clip_mem {N : Int} : ∀ {l : List Sp} {s : Sp}, s ∈ clipP N l → 0 ≤ s.f ∧ s.f < s.t ∧ s.t ≤ N := by
  intro l s hs
  unfold clipP at hs
  obtain ⟨a, ha, h⟩ := List.mem_flatMap.1 hs
  unfold clip1 at h
  split at h
  · simp at h
    subst h
    simp only
    omega
  · cases h
theorem ends0_bounds {N : Int} {l : List Sp} (hN : 0 ≤ N) : ∀ x ∈ ends0 N (clipP N l), 0 ≤ x ∧ x ≤ N := by
  intro x hx
  unfold ends0 at hx
  rcases List.mem_append.1 hx with h | h
  · simp at h; omega
  · obtain ⟨s, hs, h2⟩ := List.mem_flatMap.1 h
    have := clip_mem hs
    simp at h2
    omega
theorem clip_foldl {N i : Int} (h0 : 0 ≤ i) (hN : i < N) : ∀ (l : List Sp) (v : Int), (clipP N l).foldl (fun v s => if s.f ≤ i ∧ i < s.t then s.v else v) v = l.foldl (fun v s => if s.f ≤ i ∧ i < s.t then s.v else v) v
  | [], v => rfl
  | s :: l, v => by
    have ih := clip_foldl h0 hN l
    unfold clipP at ih ⊢
    rw [List.flatMap_cons, List.foldl_append, ih, List.foldl_cons]
    congr 1
    unfold clip1
    split
    · simp only [List.foldl_cons, List.foldl_nil]
      by_cases h : s.f ≤ i ∧ i < s.t
      · rw [if_pos h, if_pos (by omega)]
      · rw [if_neg h, if_neg (by omega)]
    · simp only [List.foldl_nil]
      rw [if_neg (by omega)]
theorem lastVal_clip {N i : Int} (h0 : 0 ≤ i) (hN : i < N) (l : List Sp) : lastVal (clipP N l) i = lastVal l i := clip_foldl h0 hN l 0
theorem lastVal_congr {l : List Sp} {i j : Int} (h : ∀ s ∈ l, (s.f ≤ i ↔ s.f ≤ j) ∧ (i < s.t ↔ j < s.t)) : lastVal l i = lastVal l j := by
  unfold lastVal
  have : ∀ (l : List Sp) (v : Int), (∀ s ∈ l, (s.f ≤ i ↔ s.f ≤ j) ∧ (i < s.t ↔ j < s.t)) → l.foldl (fun v s => if s.f ≤ i ∧ i < s.t then s.v else v) v = l.foldl (fun v s => if s.f ≤ j ∧ j < s.t then s.v else v) v := by
    intro l
    induction l with
    | nil => intro v _; rfl
    | cons s l ih =>
      intro v h
      simp only [List.foldl_cons]
      obtain ⟨h1, h2⟩ := h s (by simp)
      rw [ih _ (fun s hs => h s (by simp [hs]))]
      congr 1
      by_cases hc : s.f ≤ i ∧ i < s.t
      · rw [if_pos hc, if_pos ⟨h1.1 hc.1, h2.1 hc.2⟩]
      · rw [if_neg hc, if_neg (fun hd => hc ⟨h1.2 hd.1, h2.2 hd.2⟩)]
  exact this l 0 h
section
variable {N : Int} {l : List Sp} {m : Nat}
theorem ends_lt (hm : m + 1 = (endsP N (clipP N l)).length) {i j : Nat} (hij : i < j) (hj : j ≤ m) : eAt (endsP N (clipP N l)) i < eAt (endsP N (clipP N l)) j := by
  have h := (endsP_spec N (clipP N l)).1
  have e1 : eAt (endsP N (clipP N l)) j = (endsP N (clipP N l))[j]'(by omega) := by unfold eAt; simp [List.getD, List.getElem?_eq_getElem (show j < (endsP N (clipP N l)).length by omega)]
  have e2 : eAt (endsP N (clipP N l)) i = (endsP N (clipP N l))[i]'(by omega) := by unfold eAt; simp [List.getD, List.getElem?_eq_getElem (show i < (endsP N (clipP N l)).length by omega)]
  rw [e1, e2]
  exact List.pairwise_iff_getElem.1 h i j (by omega) (by omega) hij
theorem ends_mem (hm : m + 1 = (endsP N (clipP N l)).length) {j : Nat} (hj : j ≤ m) : eAt (endsP N (clipP N l)) j ∈ ends0 N (clipP N l) := by
  have e1 : eAt (endsP N (clipP N l)) j = (endsP N (clipP N l))[j]'(by omega) := by unfold eAt; simp [List.getD, List.getElem?_eq_getElem (show j < (endsP N (clipP N l)).length by omega)]
  rw [e1]
  exact ((endsP_spec N (clipP N l)).2 _).1 (List.getElem_mem _)
theorem ends_idx (hm : m + 1 = (endsP N (clipP N l)).length) {x : Int} (hx : x ∈ ends0 N (clipP N l)) : ∃ j, j ≤ m ∧ eAt (endsP N (clipP N l)) j = x := by
  obtain ⟨j, hj, he⟩ := List.getElem_of_mem (((endsP_spec N (clipP N l)).2 x).2 hx)
  exact ⟨j, by omega, by unfold eAt; simp [List.getD, List.getElem?_eq_getElem hj, he]⟩
theorem ends_zero (hN : 0 ≤ N) (hm : m + 1 = (endsP N (clipP N l)).length) : eAt (endsP N (clipP N l)) 0 = 0 := by
  obtain ⟨j, hj, he⟩ := ends_idx hm (x := 0) (by simp [ends0])
  have h0 := (ends0_bounds hN _ (ends_mem hm (j := 0) (by omega))).1
  cases j with
  | zero => exact he
  | succ j =>
    have := ends_lt hm (i := 0) (j := j + 1) (by omega) hj
    omega
theorem ends_last (hN : 0 ≤ N) (hm : m + 1 = (endsP N (clipP N l)).length) : eAt (endsP N (clipP N l)) m = N := by
  obtain ⟨j, hj, he⟩ := ends_idx hm (x := N) (by simp [ends0])
  have h0 := (ends0_bounds hN _ (ends_mem hm (j := m) (by omega))).2
  rcases Nat.eq_or_lt_of_le hj with h | h
  · subst h; exact he
  · have := ends_lt hm h (Nat.le_refl _)
    omega
/-- within a cell one value stands -/
theorem cell_val (hN : 0 ≤ N) (hm : m + 1 = (endsP N (clipP N l)).length) {k : Nat} (hk : k < m) {i : Int} (h1 : eAt (endsP N (clipP N l)) k ≤ i) (h2 : i < eAt (endsP N (clipP N l)) (k + 1)) :
    lastVal l i = lastVal (clipP N l) (eAt (endsP N (clipP N l)) k) := by
  have b1 := (ends0_bounds hN _ (ends_mem hm (j := k) (by omega))).1
  have b2 := (ends0_bounds hN _ (ends_mem hm (j := k + 1) (by omega))).2
  rw [← lastVal_clip (N := N) (by omega) (by omega)]
  apply lastVal_congr
  intro s hs
  have key : ∀ x ∈ ends0 N (clipP N l), (x ≤ i ↔ x ≤ eAt (endsP N (clipP N l)) k) := fun x hx => by
    obtain ⟨j, hj, he⟩ := ends_idx hm hx
    constructor
    · intro hxi
      rcases Nat.lt_or_ge k j with h | h
      · rcases Nat.eq_or_lt_of_le h with h' | h'
        · have : j = k + 1 := by omega
          subst this
          omega
        · have := ends_lt hm h' hj
          have e : Nat.succ k = k + 1 := rfl
          rw [e] at this
          omega
      · rcases Nat.eq_or_lt_of_le h with h' | h'
        · subst h'; omega
        · have := ends_lt hm h' (by omega)
          omega
    · intro h; omega
  have k1 := key s.f (by unfold ends0; exact List.mem_append_right _ (List.mem_flatMap.2 ⟨s, hs, by simp⟩))
  have k2 := key s.t (by unfold ends0; exact List.mem_append_right _ (List.mem_flatMap.2 ⟨s, hs, by simp⟩))
  constructor
  · exact k1
  · omega
theorem norm_step (hN : 0 ≤ N) (hm : m + 1 = (endsP N (clipP N l)).length) {k : Nat} (hk : k < m) :
    ext (of ((vals l N).take (eAt (endsP N (clipP N l)) k).toNat)) (eAt (endsP N (clipP N l)) (k + 1)) (lastVal (clipP N l) (eAt (endsP N (clipP N l)) k)) = of ((vals l N).take (eAt (endsP N (clipP N l)) (k + 1)).toNat) := by
  have b1 := ends0_bounds hN _ (ends_mem hm (j := k) (by omega))
  have b2 := ends0_bounds hN _ (ends_mem hm (j := k + 1) (by omega))
  have b3 := ends_lt hm (i := k) (j := k + 1) (by omega) (by omega)
  have hl := length_vals l N
  rw [ext_of, List.length_take, hl]
  congr 1
  apply List.ext_getElem
  · simp [hl]; omega
  · intro i h1 h2
    have hi : (i : Int) < eAt (endsP N (clipP N l)) (k + 1) := by simp [hl] at h2; omega
    rw [List.getElem_take]
    have hv : (vals l N)[i]'(by rw [hl]; omega) = lastVal l i := by simp [vals]
    rw [hv]
    by_cases hc : (i : Int) < eAt (endsP N (clipP N l)) k
    · rw [List.getElem_append_left (by simp [hl]; omega), List.getElem_take, hv]
    · rw [List.getElem_append_right (by simp [hl]; omega), List.getElem_replicate]
      exact (cell_val hN hm hk (by omega) hi).symm
theorem norm_end (hN : 0 ≤ N) (hm : m + 1 = (endsP N (clipP N l)).length) : (vals l N).take (eAt (endsP N (clipP N l)) m).toNat = vals l N := by
  rw [ends_last hN hm, List.take_of_length_le (by rw [length_vals]; exact Nat.le_refl _)]
theorem ends_two (hN : 0 < N) : ∃ m, m + 1 = (endsP N (clipP N l)).length ∧ 0 < m := by
  have h1 := ((endsP_spec N (clipP N l)).2 0).2 (by simp [ends0])
  have h2 := ((endsP_spec N (clipP N l)).2 N).2 (by simp [ends0])
  match h : endsP N (clipP N l), h1, h2 with
  | [], h1, _ => simp at h1
  | [x], h1, h2 => simp at h1 h2; omega
  | x :: y :: r, _, _ => exact ⟨r.length + 1, by simp, by omega⟩
end
end Go.Proofs.YtnpcakeagpbgiaaGreat.S5
