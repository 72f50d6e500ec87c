/-
  A pattern put into the tree ('add'): what stays, what is new. No condition.
-/
import Derived.Test.YtekjejbcdnghjaaDoorHtb
set_option linter.unusedVariables false
set_option linter.unusedSimpArgs false
namespace Go.Proofs.YtekjejbcdnghjaaDoor
open Go.ChangeShapes Go.WideShapes Go.ChangeAt Go.RowKit Go.Sort

/-- what is new on the way along l's first k letters, and what stays -/
structure GrowT (cnt : Int) (B n : Nat) (w wr : World) (P M : Path → Option Nat) (V : Path → Value) (P' M' : Path → Option Nat) (V' : Path → Value) (l : Path) (k : Nat) : Prop where
  tri : TrieAt (kN cnt) wr B P' M' V' (n + k)
  old : ∀ q b, P q = some b → P' q = some b
  dom : ∀ q b, P' q = some b → P q = some b ∨ (P q = none ∧ q <+: l ∧ V' q = nilS)
  all : ∀ q, q <+: l → q.length ≤ k → (P' q).isSome
  val : ∀ q b, P q = some b → V' q = V q
  far : ∀ c, c < w.heap.size → (∀ q, P q ≠ some c) → (∀ q, M q ≠ some c) → wr.heap[c]? = w.heap[c]? ∧ (∀ q, P' q ≠ some c) ∧ (∀ q, M' q ≠ some c)
  bel : Below B w wr
section
variable {cnt : Int} {B n : Nat} {w wr w' : World} {P M P' M' P'' M'' : Path → Option Nat} {V V' V'' : Path → Value} {l : Path} {k : Nat}
theorem GrowT.start (h : TrieAt (kN cnt) w B P M V n) (l : Path) {b : Nat} (h0 : P [] = some b) : GrowT cnt B n w w P M V P M V l 0 :=
  ⟨h, fun _ _ h => h, fun _ _ h => Or.inl h, fun q _ hk => by have e : q = [] := List.eq_nil_of_length_eq_zero (by omega); rw [e, h0]; rfl, fun _ _ _ => rfl, fun _ _ h1 h2 => ⟨rfl, h1, h2⟩, Below.refl B w⟩
theorem GrowT.step (h : GrowT cnt B n w wr P M V P' M' V' l k) (hk : k < l.length) {c : Nat} (g : GrR cnt B (n + k + 1) wr w' P' M' V' P'' M'' V'' (l.take k ++ [l[k]])) (hc : P'' (l.take k ++ [l[k]]) = some c) : GrowT cnt B n w w' P M V P'' M'' V'' l (k + 1) := by
  have hpre : l.take k ++ [l[k]] <+: l := by
    have : l.take k ++ [l[k]] = l.take (k + 1) := by rw [List.take_add_one, List.getElem?_eq_getElem hk]; rfl
    rw [this]; exact List.take_prefix _ _
  have hs := h.bel.size
  refine ⟨g.tri, fun q b hq => g.old q b (h.old q b hq), fun q b hq => ?_, fun q hq hl => ?_, fun q b hq => ?_, fun c hc h1 h2 => ?_, h.bel.trans g.bel⟩
  · rcases g.dom q b hq with h1 | ⟨e, h1, h2⟩
    · rcases h.dom q b h1 with h3 | ⟨h3, h4, h5⟩
      · exact Or.inl h3
      · exact Or.inr ⟨h3, h4, by rw [g.val q b h1]; exact h5⟩
    · subst e
      refine Or.inr ⟨?_, hpre, h2⟩
      cases e2 : P (l.take k ++ [l[k]]) with
      | none => rfl
      | some b2 => rw [h.old _ _ e2] at h1; cases h1
  · rcases Nat.lt_or_ge k q.length with e | e
    · rw [pre_snoc hq hk (by omega), hc]; rfl
    · obtain ⟨b, hb⟩ := Option.isSome_iff_exists.1 (h.all q hq e)
      rw [g.old q b hb]; rfl
  · rw [g.val q b (h.old q b hq), h.val q b hq]
  · obtain ⟨g1, g2, g3⟩ := h.far c hc h1 h2
    obtain ⟨k1, k2, k3⟩ := g.far c (by omega) g2 g3
    exact ⟨k1.trans g1, k2, k3⟩
end

/-- the value that a path had -/
def hadV (P : Path → Option Nat) (V : Path → Value) (l : Path) : Value := if P l = none then nilS else V l
/-- what add makes of the tree -/
structure AddR (cnt : Int) (B n : Nat) (w w' : World) (P M : Path → Option Nat) (V : Path → Value) (P' M' : Path → Option Nat) (V' : Path → Value) (l : Path) : Prop where
  tri : TrieAt (kN cnt) w' B P' M' V' n
  ext : ∀ q b, P q = some b → P' q = some b
  dom : ∀ q, (P' q).isSome ↔ (P q).isSome ∨ q <+: l
  old : ∀ q b, P q = some b → q ≠ l → V' q = V q
  new : ∀ q b, P' q = some b → P q = none → q ≠ l → V' q = nilS
  far : ∀ c, c < w.heap.size → (∀ q, P q ≠ some c) → (∀ q, M q ≠ some c) → w'.heap[c]? = w.heap[c]? ∧ (∀ q, P' q ≠ some c) ∧ (∀ q, M' q ≠ some c)
  bel : Below B w w'

set_option maxRecDepth 20000 in
set_option maxHeartbeats 4000000 in
theorem add_ok (cnt : Int) (A : Option Addr) (c : Nat) (l : List Int) (v : Value) (B n R : Nat) (P M : Path → Option Nat) (V : Path → Value) (w : World) (hw : ∀ z ∈ l, (Lit.int .i32 z).wf = true) (hn : n + l.length ≤ 1000000) (hl : l.length ≤ 1000)
    (hT : TrieAt (kN cnt) w B P M V n) (hR : P [] = some R) (hB : B ≤ w.heap.size) (hV : ∀ q b, P q = some b → ∃ A n c, V q = .slice A n c) (hv : ∃ A n c, v = .slice A n c)
    (hL : Has w w.heap.size A (l.map (Value.int .i32))) (hLf : ∀ a, A = some a → (∀ q, P q ≠ some a.block) ∧ (∀ q, M q ≠ some a.block)) :
    Calls Tryd.prog 38 #[.pointer (some ⟨R, 0, none⟩), .slice A l.length c, v] w fun e w' =>
      ∃ P' M' V', AddR cnt B (n + l.length) w w' P M V P' M' V' l ∧ ∃ A0 n0 c0, hadV P V l = .slice A0 n0 c0 ∧ ((A0 = none ∧ e = .returned (.bool true) ∧ V' l = v) ∨ (A0 ≠ none ∧ e = .returned (.bool false) ∧ V' l = V l)) := by
  obtain ⟨vA, vn, vc, rfl⟩ := hv
  have nes := neslice
  have HT := Lib.hid hT
  have HV := Lib.hid hV
  have HW := Lib.hid hw
  have HL := Lib.hid hL
  have HLf := Lib.hid hLf
  have HR := Lib.hid hR
  clear hT hV hw hL hLf hR
  go_enter Tryd.func38, Tryd.ntmps38
  go_wp2
  go_loopw [0, 11] (fun nv i wr => ∃ (k : Nat) (P' M' : Path → Option Nat) (V' : Path → Value) (b : Nat), k ≤ l.length ∧ i = .int .i64 k ∧ nv = .pointer (some ⟨b, 0, none⟩) ∧ Hid (P' (l.take k) = some b) ∧ Hid (GrowT cnt B n w wr P M V P' M' V' l k)) (fun _ i _ => l.length - (intOf i).toNat)
  case atStart => exact ⟨0, P, M, V, R, by omega, rfl, rfl, HR, Lib.hid (GrowT.start HT.out l HR.out)⟩
  case round =>
    obtain ⟨k, P', M', V', b, hk, rfl, rfl, HP, HG⟩ := hrel
    have hsz := HG.out.bel.size
    have hBw : B ≤ wr.heap.size := by omega
    by_cases hlt : k < l.length
    · obtain ⟨ab, off, rfl, hab, hca⟩ := HL.out.at_int hlt
      have hfa := HLf.out _ rfl
      have hcc : wr.cell? ⟨ab, off + k, none⟩ = some (.int .i32 l[k]) := by
        rw [← hca]; unfold World.cell?; rw [(HG.out.far ab hab hfa.1 hfa.2).1]
      have hxw := HW.out _ (List.getElem_mem hlt)
      have HSTEP := Lib.hid (fun (w' : World) (P'' M'' : Path → Option Nat) (V'' : Path → Value) (c : Nat) g hc => HG.out.step (w' := w') (P'' := P'') (M'' := M'') (V'' := V'') hlt (c := c) g hc)
      have hTK : l.take (k + 1) = l.take k ++ [l[k]] := by rw [List.take_add_one, List.getElem?_eq_getElem hlt]; rfl
      have cg := grown_ok cnt B (n + k) b P' M' V' (l.take k) l[k] wr hxw (by omega) HG.out.tri HP.out hBw
      obtain ⟨X, hX⟩ : ∃ X, l[k] = X := ⟨_, rfl⟩
      rw [hX] at hcc hxw hTK cg
      simp only [hX] at HSTEP
      obtain ⟨p, hp⟩ : ∃ p, l.take k = p := ⟨_, rfl⟩
      rw [hp] at HP hTK cg
      simp only [hp] at HSTEP
      have HTK := Lib.hid hTK
      clear hX hp hTK hca hab hfa
      go_wp2_with (go_at_call 60; refine cg.mono ?_; rintro e w5 ⟨c5, P5, M5, V5, rfl, hc5, hg5⟩)
      have HN2 : Hid (P5 (l.take (k + 1)) = some c5) := Lib.hid (by rw [HTK.out]; exact hc5)
      have HS2 := Lib.hid (HSTEP.out w5 P5 M5 V5 c5 hg5 hc5)
      clear hg5 hc5
      go_roundw
      case rel => exact ⟨k + 1, P5, M5, V5, c5, by omega, by go_num, rfl, HN2, HS2⟩
      case measure => simp [intOf]; omega
    · obtain rfl : k = l.length := by omega
      have hP := HP.out
      rw [List.take_length] at hP
      have hc1 := HG.out.tri.cell1 hP
      have hVl : V' l = hadV P V l := by
        unfold hadV
        cases e : P l with
        | none =>
          rw [if_pos rfl]
          rcases HG.out.dom l b hP with h1 | ⟨_, _, h4⟩
          · rw [e] at h1; cases h1
          · exact h4
        | some b0 => rw [if_neg (by simp), HG.out.val l b0 e]
      have hform : ∃ A0 n0 c0, hadV P V l = .slice A0 n0 c0 := by
        unfold hadV
        cases e : P l with
        | none => exact ⟨none, 0, 0, rfl⟩
        | some b0 => rw [if_neg (by simp)]; exact HV.out l b0 e
      obtain ⟨A0, n0, c0, hF⟩ := hform
      rw [hVl, hF] at hc1
      have HF := Lib.hid hF
      have HVL := Lib.hid hVl
      have hdom : ∀ q, (P' q).isSome ↔ (P q).isSome ∨ q <+: l := fun q => by
        constructor
        · intro h
          obtain ⟨c1, hc⟩ := Option.isSome_iff_exists.1 h
          rcases HG.out.dom q c1 hc with h1 | ⟨_, h2, _⟩
          · rw [h1]; exact Or.inl rfl
          · exact Or.inr h2
        · rintro (h | h)
          · obtain ⟨c1, hc⟩ := Option.isSome_iff_exists.1 h
            rw [HG.out.old q c1 hc]; rfl
          · exact HG.out.all q h h.length_le
      have hnew : ∀ q c1, P' q = some c1 → P q = none → V' q = nilS := fun q c1 h1 h2 => by
        rcases HG.out.dom q c1 h1 with h3 | ⟨_, _, h4⟩
        · rw [h2] at h3; cases h3
        · exact h4
      have HDOM := Lib.hid hdom
      have HNEW := Lib.hid hnew
      have hfr := (HG.out.tri.node l b hP).2.noFrost 1
      have hPH := Lib.hid hP
      clear hVl hF hdom hnew hP
      cases A0 with
      | none =>
        have HR1 : Hid (AddR cnt B (n + l.length) w (wr.setCell ⟨b, 1, none⟩ (.slice vA vn vc)) P M V P' M' (atP V' l (.slice vA vn vc)) l) := Lib.hid
          ⟨HG.out.tri.setVal hPH.out _, HG.out.old, HDOM.out, fun q c1 h1 h2 => by rw [atP_other _ _ h2]; exact HG.out.val q c1 h1, fun q c1 h1 h2 h3 => by rw [atP_other _ _ h3]; exact HNEW.out q c1 h1 h2,
            fun c1 h1 h2 h3 => ⟨(Below.heap_setCell _ _ _ _ (fun e => (HG.out.far c1 h1 h2 h3).2.1 l (by rw [hPH.out, e]))).trans (HG.out.far c1 h1 h2 h3).1, (HG.out.far c1 h1 h2 h3).2⟩, HG.out.bel.setCell (p := ⟨b, 1, none⟩) (HG.out.tri.node l b hPH.out).1 _⟩
        go_wp2
        go_ret
        exact ⟨P', M', _, HR1.out, none, n0, c0, HF.out, Or.inl ⟨rfl, rfl, atP_same _ _ _⟩⟩
      | some a0 =>
        have HR1 : Hid (AddR cnt B (n + l.length) w wr P M V P' M' V' l) := Lib.hid
          ⟨HG.out.tri, HG.out.old, HDOM.out, fun q c1 h1 _ => HG.out.val q c1 h1, fun q c1 h1 h2 _ => HNEW.out q c1 h1 h2, HG.out.far, HG.out.bel⟩
        have HVV : Hid (V' l = V l) := Lib.hid (by
          rw [HVL.out]
          have := HF.out
          unfold hadV at this ⊢
          cases e : P l with
          | none =>
            rw [e, if_pos rfl] at this
            cases this
          | some b0 => rw [if_neg (by simp)])
        go_wp2
        go_ret
        exact ⟨P', M', V', HR1.out, some a0, n0, c0, HF.out, Or.inr ⟨by simp, rfl, HVV.out⟩⟩
end Go.Proofs.YtekjejbcdnghjaaDoor
