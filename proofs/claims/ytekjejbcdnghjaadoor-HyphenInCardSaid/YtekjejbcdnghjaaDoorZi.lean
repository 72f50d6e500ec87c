/-
  A tree that holds patterns; New, the program's. Condition: texts of at most a million bytes, at most 100000 of them.
-/
import Derived.Test.YtekjejbcdnghjaaDoorZg
import Derived.Test.YtekjejbcdnghjaaDoorZh
import Derived.Test.YtekjejbcdnghjaaDoorZe
import Derived.Test.YtekjejbcdnghjaaDoorZf
import Derived.Test.YtekjejbcdnghjaaDoorZMinMax
import Derived.Deep.RegionLaw
set_option linter.unusedVariables false
set_option linter.unusedSimpArgs false
namespace Go.Proofs.YtekjejbcdnghjaaDoor
open Go.ChangeShapes Go.WideShapes Go.ChangeAt Go.RowKit Go.Sort

/-- digits in memory, apart from the tree's blocks -/
def DigR (w : World) (P M : Path → Option Nat) (v : Value) (ds : List Int) : Prop :=
  ∃ (a : Addr) (c : Nat), v = .slice (some a) ds.length c ∧ Has w w.heap.size (some a) (ds.map (Value.int .i64)) ∧ a.block < w.heap.size ∧ (∀ q, P q ≠ some a.block) ∧ (∀ q, M q ≠ some a.block)
/-- the tree holds just these patterns -/
structure TrieP (cnt : Int) (w : World) (B n R : Nat) (P M : Path → Option Nat) (V : Path → Value) (acc : List Pat) : Prop where
  tri : TrieAt (kN cnt) w B P M V n
  root : P [] = some R
  dom : ∀ q, (P q).isSome ↔ q = [] ∨ ∃ p ∈ acc, q <+: p.1
  hit : ∀ p ∈ acc, DigR w P M (V p.1) p.2
  miss : ∀ q b, P q = some b → (∀ p ∈ acc, p.1 ≠ q) → V q = nilS
  one : acc.Pairwise fun p q => p.1 ≠ q.1
section
variable {cnt : Int} {B n R : Nat} {w w' : World} {P M P' M' : Path → Option Nat} {V V' : Path → Value} {acc : List Pat} {l : Path}
theorem DigR.same {v : Value} {ds : List Int} (h : DigR w P M v ds) (hs : w.heap.size ≤ w'.heap.size) (hk : ∀ c, c < w.heap.size → (∀ q, P q ≠ some c) → (∀ q, M q ≠ some c) → w'.heap[c]? = w.heap[c]? ∧ (∀ q, P' q ≠ some c) ∧ (∀ q, M' q ≠ some c)) : DigR w' P' M' v ds := by
  obtain ⟨a, c, h1, h2, h3, h5, h6⟩ := h
  obtain ⟨k1, k2, k3⟩ := hk a.block h3 h5 h6
  exact ⟨a, c, h1, h2.stays hs fun a' ha _ => by injection ha with ha; rw [← ha]; exact k1, by omega, k2, k3⟩
theorem TrieP.below (h : TrieP cnt w B n R P M V acc) (hb : Below w.heap.size w w') : TrieP cnt w' B n R P M V acc :=
  ⟨h.tri.below hb, h.root, h.dom, fun p hp => (h.hit p hp).same hb.size fun c hc h1 h2 => ⟨hb.block c hc, h1, h2⟩, h.miss, h.one⟩
theorem TrieP.forms (h : TrieP cnt w B n R P M V acc) : ∀ q b, P q = some b → ∃ A n c, V q = .slice A n c := fun q b hq => by
  by_cases e : ∃ p ∈ acc, p.1 = q
  · obtain ⟨p, hp, rfl⟩ := e
    obtain ⟨a, c, h1, _⟩ := h.hit p hp
    exact ⟨_, _, _, h1⟩
  · exact ⟨none, 0, 0, h.miss q b hq fun p hp e2 => e ⟨p, hp, e2⟩⟩
theorem TrieP.at_ (h : TrieP cnt w B n R P M V acc) {p : Pat} (hp : p ∈ acc) : ∃ b, P p.1 = some b := Option.isSome_iff_exists.1 ((h.dom p.1).2 (Or.inr ⟨p, hp, List.prefix_refl _⟩))
theorem TrieP.had_nil (h : TrieP cnt w B n R P M V acc) (hn : ∀ q ∈ acc, q.1 ≠ l) : hadV P V l = nilS := by
  unfold hadV
  cases e : P l with
  | none => rfl
  | some b => rw [if_neg (by simp)]; exact h.miss l b e hn
theorem TrieP.had_some (h : TrieP cnt w B n R P M V acc) {q : Pat} (hq : q ∈ acc) (e : q.1 = l) : ∃ a n c, hadV P V l = .slice (some a) n c := by
  subst e
  obtain ⟨b, hb⟩ := h.at_ hq
  obtain ⟨a, c, h1, _⟩ := h.hit q hq
  unfold hadV
  rw [if_neg (by rw [hb]; simp)]
  exact ⟨a, _, c, h1⟩
theorem TrieP.add {p : Pat} {v : Value} (h : TrieP cnt w B n R P M V acc) {n' : Nat} (hA : AddR cnt B n' w w' P M V P' M' V' p.1) (hv : V' p.1 = v) (hD : DigR w P M v p.2) (hn : ∀ q ∈ acc, q.1 ≠ p.1) (hs : w.heap.size ≤ w'.heap.size) : TrieP cnt w' B n' R P' M' V' (acc ++ [p]) := by
  refine ⟨hA.tri, hA.ext [] R h.root, fun q => ?_, fun q hq => ?_, fun q b hq hne => ?_, ?_⟩
  · rw [hA.dom q, h.dom q]
    constructor
    · rintro ((h1 | ⟨r, hr, h1⟩) | h1)
      · exact Or.inl h1
      · exact Or.inr ⟨r, List.mem_append_left _ hr, h1⟩
      · exact Or.inr ⟨p, by simp, h1⟩
    · rintro (h1 | ⟨r, hr, h1⟩)
      · exact Or.inl (Or.inl h1)
      · rcases List.mem_append.1 hr with hr | hr
        · exact Or.inl (Or.inr ⟨r, hr, h1⟩)
        · rw [List.mem_singleton.1 hr] at h1; exact Or.inr h1
  · rcases List.mem_append.1 hq with hq | hq
    · obtain ⟨b, hb⟩ := h.at_ hq
      rw [hA.old q.1 b hb (hn q hq)]
      exact (h.hit q hq).same hs fun c hc h1 h2 => hA.far c hc h1 h2
    · rw [List.mem_singleton.1 hq, hv]
      exact hD.same hs fun c hc h1 h2 => hA.far c hc h1 h2
  · have hne1 : q ≠ p.1 := fun e => hne p (by simp) e.symm
    cases e : P q with
    | none => exact hA.new q b hq e hne1
    | some b0 => rw [hA.old q b0 e hne1]; exact h.miss q b0 e fun r hr => hne r (List.mem_append_left _ hr)
  · rw [List.pairwise_append]
    exact ⟨h.one, List.pairwise_singleton .., fun q hq r hr => by rw [List.mem_singleton.1 hr]; exact hn q hq⟩
end

theorem patS_valid {s : ByteArray} {p : Pat} (h : patS s = some p) : ∀ c ∈ p.1, 0 ≤ c ∧ c ≤ 1114111 := by
  unfold patS at h
  split at h
  · rename_i h0
    have hb := (decP_back _ (byteZ_of s) h0).1
    have ha : allP (losP (bytesS s)) = true := (losG_facts _ (byteZ_of s) _ 0 [] (by omega) (by simp) rfl).2
    rw [← hb] at ha
    unfold parseS at h
    cases e : pz 0 false (decP (bytesS s)).1 with
    | none => rw [e] at h; cases h
    | some z =>
      rw [e] at h
      simp only at h
      split at h
      · injection h with h
        subst h
        intro c hc
        have h2 := (pz_letters _ 0 false (l := z.1) (d := z.2) e c hc).1
        unfold allP at ha
        rw [List.all_eq_true] at ha
        exact valid_range (ha c h2)
      · cases h
  · cases h
theorem wf_rune {c : Int} (h : 0 ≤ c ∧ c ≤ 1114111) : (Lit.int .i32 c).wf = true := WalkArith.wf_i32 (by omega)
/-- a trie of these patterns -/
def TrieV (w : World) (v : Value) (acc : List Pat) : Prop :=
  ∃ R B n P M V, v = .pointer (some ⟨R, 0, none⟩) ∧ TrieP (acc.length : Int) w B n R P M V acc ∧ ∀ p ∈ acc, OkP p.1 p.2
def NewR (w : World) (v : Value) (r : List Pat × Nat × Int) : Prop := (r.2.2 = 0 → TrieV w v r.1) ∧ (r.2.2 ≠ 0 → v = .pointer none)
theorem TrieV.below {w w' : World} {v : Value} {acc : List Pat} (h : TrieV w v acc) (hb : Below w.heap.size w w') : TrieV w' v acc := by
  obtain ⟨R, B, n, P, M, V, h1, h2, h3⟩ := h
  exact ⟨R, B, n, P, M, V, h1, h2.below hb, h3⟩
theorem TrieV.ptr {w : World} {v : Value} {acc : List Pat} (h : TrieV w v acc) : ∃ X, v = .pointer (some ⟨X, 0, none⟩) := by
  obtain ⟨R, B, n, P, M, V, h1, h2⟩ := h
  exact ⟨R, h1⟩

set_option maxRecDepth 20000 in
set_option maxHeartbeats 4000000 in
theorem pnew_ok (A : Option Addr) (c : Nat) (zs : List ByteArray) (w : World) (hn : zs.length ≤ 1000) (hz : ∀ z ∈ zs, z.size ≤ 1000000) (h : Has w w.heap.size A (zs.map Value.string)) (hT : Lib.Utf8Tabs 0 1 w) :
    Calls Tryd.prog 15 #[.slice A zs.length c] w fun e w' => ∃ v, e = .returned (.tuple #[v, .int .i64 (newS zs).2.1, .int .i64 (newS zs).2.2]) ∧ NewR w' v (newS zs) ∧ Below w.heap.size w w' := by
  obtain ⟨V0, hV⟩ : ∃ V0, newS zs = V0 := ⟨_, rfl⟩
  rw [hV]
  unfold newS at hV
  by_cases hm : 512 < zs.length
  · rw [if_pos hm] at hV
    have HV := Lib.hid hV
    have hm' : (zs.length : Int) > 512 := by omega
    clear hV h hz
    go_enter Tryd.func15, Tryd.ntmps15
    go_wp2
    go_ret3
    rw [← HV.out]
    exact ⟨_, rfl, ⟨fun h => absurd h (by decide), fun _ => rfl⟩, Below.refl _ _⟩
  · rw [if_neg hm] at hV
    have HV := Lib.hid hV
    have hm' : ¬ (zs.length : Int) > 512 := by omega
    have HZ := Lib.hid hz
    have HH := Lib.hid h
    clear hV h hz
    have HTB := Lib.hid hT
    clear hT
    go_enter Tryd.func15, Tryd.ntmps15
    go_wp2
    have hR0 : At (w.alloc (.cells #[.map none, .slice none 0 0, .int .i64 (zs.length : Int)] 62)) w.heap.size 62 #[.map none, nilS, .int .i64 (zs.length : Int)] := at_new w _ _
    have hb0 : Below w.heap.size w (w.alloc (.cells #[.map none, .slice none 0 0, .int .i64 (zs.length : Int)] 62)) := (Below.refl _ _).alloc (Nat.le_refl _) _
    obtain ⟨W0, hW0⟩ : ∃ W0, w.alloc (.cells #[.map none, .slice none 0 0, .int .i64 (zs.length : Int)] 62) = W0 := ⟨_, rfl⟩
    rw [hW0] at hR0 hb0
    simp only [hW0]
    obtain ⟨R, hR⟩ : ∃ R, w.heap.size = R := ⟨_, rfl⟩
    rw [hR] at hR0 hb0
    simp only [hR]
    have hd0 : ∀ q : Path, ((fun p => if p = [] then some R else none : Path → Option Nat) q).isSome ↔ q = [] ∨ ∃ p ∈ ([] : List Pat), q <+: p.1 := fun q => by
      show (if q = [] then some R else none).isSome = true ↔ _
      by_cases e : q = []
      · rw [if_pos e]; simp [e]
      · rw [if_neg e]; simp [e]
    have hTP : TrieP (zs.length : Int) W0 R 0 R (fun p => if p = [] then some R else none) (fun _ => none) (fun _ => nilS) [] :=
      ⟨TrieAt.root (by rw [show kN (zs.length : Int) [] = _ from if_pos rfl]; exact hR0) (Nat.le_refl _), rfl, hd0, fun p hp => (by cases hp), fun q b hq _ => rfl, List.Pairwise.nil⟩
    have HST := Lib.hid (And.intro hTP hb0)
    clear hR0 hTP hb0 hW0 hd0
    go_loopw [20] (fun i wr => ∃ (k n : Nat) (P M : Path → Option Nat) (V : Path → Value) (acc : List Pat), k ≤ zs.length ∧ i = .int .i64 k ∧ acc.length = k ∧ n ≤ 18 * k ∧ Hid (TrieP (zs.length : Int) wr R n R P M V acc ∧ Below R w wr) ∧ Hid (newG k acc (zs.drop k) = V0) ∧ Hid (∀ p ∈ acc, OkP p.1 p.2)) (fun i _ => zs.length - (intOf i).toNat)
    case atStart => exact ⟨0, 0, _, _, _, [], by omega, rfl, rfl, by omega, HST, HV, Lib.hid (by simp)⟩
    case round =>
      clear HST
      obtain ⟨k, n, P, M, V, acc, hk, rfl, hal, hnk, HS, HG, HP⟩ := hrel
      have hbl := HS.out.2
      have hB : R ≤ wr.heap.size := by have := hbl.size; omega
      by_cases hlt : k < zs.length
      · obtain ⟨b, off, rfl, hb, hcs⟩ := HH.out.at_str hlt
        have hcc := (hbl.cell (p := ⟨b, off + k, none⟩) (by rw [← hR]; exact hb)).trans hcs
        have HNO := fun q => Lib.hid (newG_none (acc := acc) hlt q)
        have HTW := fun (p : Pat) q => Lib.hid (fun (i : Nat) hi he => newG_twice (acc := acc) (p := p) (i := i) hlt q hi he)
        have HNX := fun (p : Pat) q => Lib.hid (fun hn => newG_next (acc := acc) (p := p) hlt q hn)
        have hsz := HZ.out _ (List.getElem_mem hlt)
        obtain ⟨s, hs⟩ : ∃ s, zs[k] = s := ⟨_, rfl⟩
        rw [hs] at hcc hsz
        simp only [hs] at HNO HTW HNX
        have cp := pparse_ok s wr hsz (Utf8Tabs_below HTB.out (by rw [hR]; exact hbl))
        clear hs hcs hb hsz
        obtain ⟨Pt, hPt⟩ : ∃ Pt, patS s = Pt := ⟨_, rfl⟩
        rw [hPt] at cp HNO
        cases Pt with
        | none =>
          have HN := Lib.hid ((HNO rfl).out.symm.trans HG.out)
          clear HNO HTW HNX hPt
          go_wp2_with (go_at_call 9; refine cp.mono ?_; rintro e w3 ⟨rfl, hb3⟩)
          go_ret3
          rw [← HN.out]
          exact ⟨_, rfl, ⟨fun h => absurd h (by simp), fun _ => rfl⟩, by rw [hR]; exact hbl.trans (hb3.mono hB)⟩
        | some p =>
          have HT := HTW p hPt
          have HX := HNX p hPt
          have hpo := patS_ok hPt
          have hpv := patS_valid hPt
          have hpl := mayB_len hpo
          have HPO := Lib.hid hpo
          have HPV := Lib.hid hpv
          clear HNO HTW HNX hPt hpo hpv
          by_cases he : ∃ q ∈ acc, q.1 = p.1
          · obtain ⟨q0, hq0, hqe⟩ := he
            obtain ⟨i0, hi0, hie⟩ := List.mem_iff_getElem.1 hq0
            have HN := Lib.hid ((HT.out i0 hi0 (by rw [hie]; exact hqe)).symm.trans HG.out)
            clear HT HX hie hi0
            go_wp2_with (first
              | (go_at_call 9; refine cp.mono ?_; rintro e w3 ⟨v8, v9, rfl, hs8, hs9⟩; have hb3 := hs8.choose_spec.choose_spec.2.2.2; obtain ⟨A8, c8, rfl, hf8, hl8, hh8⟩ := sliceV_lt hs8 hpl.1; obtain ⟨A9, c9, rfl, hf9, hl9, hh9⟩ := sliceV_lt hs9 hpl.2.2.1; clear hs8 hs9 cp; have HT3 := Lib.hid (HS.out.1.below hb3); have hlt3 : ∀ (a : Addr), wr.heap.size ≤ a.block → (∀ q, P q ≠ some a.block) ∧ (∀ q, M q ≠ some a.block) := (fun a ha => ⟨fun q e => (by have := HS.out.1.tri.lt e; omega), fun q e => (by have := HS.out.1.tri.mlt e; omega)⟩); have hB3 : R ≤ w3.heap.size := Nat.le_trans hB hb3.size; have ca := add_ok (zs.length : Int) A8 c8 p.1 (.slice A9 p.2.length c9) R n R P M V w3 (fun z hz => wf_rune (HPV.out z hz)) (by omega) (by omega) HT3.out.tri HT3.out.root hB3 HT3.out.forms ⟨_, _, _, rfl⟩ hh8 (fun a ha => hlt3 a (hf8 a ha)); have HB3 := Lib.hid hb3; have HF9 := Lib.hid hf9; have HH9 := Lib.hid hh9; have HLT3 := Lib.hid hlt3; clear hf8 hl8 hh8 hf9 hl9 hh9 hlt3 hb3)
              | (go_at_call 38; refine ca.mono ?_; rintro e w5 ⟨P', M', V', hA, A0, n0, c0, hF, hcase⟩; obtain ⟨a1, n1, c1, hF2⟩ := HT3.out.had_some hq0 hqe; rw [hF2] at hF; injection hF with hF3 hF4 hF5; rcases hcase with ⟨h1, _, _⟩ | ⟨_, rfl, _⟩; · rw [← hF3] at h1; cases h1))
            go_ret3
            rw [← HN.out]
            exact ⟨_, rfl, ⟨fun h => absurd h (by simp), fun _ => rfl⟩, by rw [hR]; exact (hbl.trans (HB3.out.mono hB)).trans hA.bel⟩
          · have hne : ∀ q ∈ acc, q.1 ≠ p.1 := fun q hq e => he ⟨q, hq, e⟩
            have HN := Lib.hid ((HX.out (fun i hi => hne _ (List.getElem_mem hi))).symm.trans HG.out)
            have HNE := Lib.hid hne
            clear HT HX he hne
            go_wp2_with (first
              | (go_at_call 9; refine cp.mono ?_; rintro e w3 ⟨v8, v9, rfl, hs8, hs9⟩; have hb3 := hs8.choose_spec.choose_spec.2.2.2; obtain ⟨A8, c8, rfl, hf8, hl8, hh8⟩ := sliceV_lt hs8 hpl.1; obtain ⟨A9, c9, rfl, hf9, hl9, hh9⟩ := sliceV_lt hs9 hpl.2.2.1; clear hs8 hs9 cp; have HT3 := Lib.hid (HS.out.1.below hb3); have hlt3 : ∀ (a : Addr), wr.heap.size ≤ a.block → (∀ q, P q ≠ some a.block) ∧ (∀ q, M q ≠ some a.block) := (fun a ha => ⟨fun q e => (by have := HS.out.1.tri.lt e; omega), fun q e => (by have := HS.out.1.tri.mlt e; omega)⟩); have hB3 : R ≤ w3.heap.size := Nat.le_trans hB hb3.size; have ca := add_ok (zs.length : Int) A8 c8 p.1 (.slice A9 p.2.length c9) R n R P M V w3 (fun z hz => wf_rune (HPV.out z hz)) (by omega) (by omega) HT3.out.tri HT3.out.root hB3 HT3.out.forms ⟨_, _, _, rfl⟩ hh8 (fun a ha => hlt3 a (hf8 a ha)); have HB3 := Lib.hid hb3; have HF9 := Lib.hid hf9; have HH9 := Lib.hid hh9; have HLT3 := Lib.hid hlt3; clear hf8 hl8 hh8 hf9 hl9 hh9 hlt3 hb3)
              | (go_at_call 38; refine ca.mono ?_; rintro e w5 ⟨P', M', V', hA, A0, n0, c0, hF, hcase⟩; rw [HT3.out.had_nil HNE.out] at hF; injection hF with hF3 hF4 hF5; subst hF3; subst hF4; subst hF5; rcases hcase with ⟨_, rfl, hv5⟩ | ⟨h1, _, _⟩; rotate_left; exact absurd rfl h1; have HAD := Lib.hid hA; have HV5 := Lib.hid hv5; clear hA hv5))
            have hD : DigR w3 P M (.slice A9 p.2.length c9) p.2 := by
              obtain ⟨b9, o9, e9, hb9, _⟩ := HH9.out (by intro e; rw [List.map_eq_nil_iff] at e; have := hpl.2.2.1; rw [e] at this; simp at this)
              subst e9
              have h9 := HF9.out _ rfl
              exact ⟨_, c9, rfl, HH9.out, hb9, (HLT3.out _ h9).1, (HLT3.out _ h9).2⟩
            have hs5 : w3.heap.size ≤ w5.heap.size := by
              have := HAD.out.bel.size
              omega
            have hT5 := HT3.out.add HAD.out HV5.out hD HNE.out hs5
            have HFIN : Hid (TrieP (zs.length : Int) w5 R (n + p.1.length) R P' M' V' (acc ++ [p]) ∧ Below R w w5) := Lib.hid
              ⟨hT5, (hbl.trans (HB3.out.mono hB)).trans HAD.out.bel⟩
            go_roundw
            case rel => exact ⟨k + 1, n + p.1.length, P', M', V', acc ++ [p], by omega, by go_num, by simp; omega, by omega, HFIN, HN, Lib.hid (fun x hx => by
              rcases List.mem_append.1 hx with h1 | h1
              · exact HP.out x h1
              · rw [List.mem_singleton.1 h1]; exact HPO.out)⟩
            case measure => simp [intOf]; omega
      · obtain rfl : k = zs.length := by omega
        have HN := Lib.hid ((newG_end zs.length acc zs).symm.trans HG.out)
        go_wp2
        go_ret3
        rw [← HN.out]
        exact ⟨_, rfl, ⟨fun _ => ⟨R, R, n, P, M, V, rfl, by show TrieP ((acc.length : Nat) : Int) _ _ _ _ _ _ _ _; rw [hal]; exact HS.out.1, HP.out⟩, fun h => absurd rfl h⟩, by rw [hR]; exact hbl⟩
end Go.Proofs.YtekjejbcdnghjaaDoor

/-
  Weights raised by the patterns that begin at one place of the text ('raise'). No condition.
-/
set_option linter.unusedVariables false
set_option linter.unusedSimpArgs false
namespace Go.Proofs.YtekjejbcdnghjaaDoor
open Go.ChangeShapes Go.WideShapes Go.ChangeAt Go.RowKit Go.Sort

/-- what is contributed at places ahead of a; .. and at a by patterns of at most k letters -/
def CA (x : List Pat) (t : List Int) (a : Nat) (j : Nat) (c : Int) : Prop := ∃ p ∈ x, ∃ a' i, a' < a ∧ a' < t.length ∧ p.1 <+: t.drop a' ∧ p.2[i]? = some c ∧ j = a' + i
def CK (x : List Pat) (t : List Int) (a k : Nat) (j : Nat) (c : Int) : Prop := CA x t a j c ∨ ∃ p ∈ x, p.1 <+: t.drop a ∧ p.1.length ≤ k ∧ ∃ i, p.2[i]? = some c ∧ j = a + i
theorem ca_zero (x : List Pat) (t : List Int) (j : Nat) (c : Int) : ¬ CA x t 0 j c := fun ⟨_, _, _, _, h, _⟩ => by omega
theorem ca_end (x : List Pat) (t : List Int) (j : Nat) (c : Int) : CA x t t.length j c ↔ Contr x t j c := by
  constructor
  · rintro ⟨p, hp, a, i, h1, h2, h3, h4, h5⟩; exact ⟨p, hp, a, i, h2, h3, h4, h5⟩
  · rintro ⟨p, hp, a, i, h2, h3, h4, h5⟩; exact ⟨p, hp, a, i, h2, h2, h3, h4, h5⟩
theorem ck_zero {x : List Pat} {t : List Int} {a : Nat} (h : ∀ p ∈ x, 1 ≤ p.1.length) (j : Nat) (c : Int) : CA x t a j c ↔ CK x t a 0 j c := by
  constructor
  · exact Or.inl
  · rintro (h1 | ⟨p, hp, _, h2, _⟩)
    · exact h1
    · have := h p hp; omega
/-- all that begin at a have been seen -/
theorem ck_all {x : List Pat} {t : List Int} {a k : Nat} (ha : a < t.length) (h : ∀ p ∈ x, p.1 <+: t.drop a → p.1.length ≤ k) (j : Nat) (c : Int) : CK x t a k j c ↔ CA x t (a + 1) j c := by
  constructor
  · rintro (⟨p, hp, a', i, h1, h2⟩ | ⟨p, hp, h1, h2, i, h3, h4⟩)
    · exact ⟨p, hp, a', i, by omega, h2⟩
    · exact ⟨p, hp, a, i, by omega, ha, h1, h3, h4⟩
  · rintro ⟨p, hp, a', i, h1, h2, h3, h4, h5⟩
    rcases Nat.lt_or_ge a' a with e | e
    · exact Or.inl ⟨p, hp, a', i, e, h2, h3, h4, h5⟩
    · obtain rfl : a' = a := by omega
      exact Or.inr ⟨p, hp, h3, h p hp h3, i, h4, h5⟩
theorem pre_tk {q u : List Int} {k : Nat} (h : q <+: u) (hl : q.length = k) : q = u.take k := by
  rw [List.prefix_iff_eq_take] at h
  rw [h, hl]
/-- one letter more: just the pattern with these letters is new, if there is one -/
theorem ck_step {x : List Pat} {t : List Int} {a k : Nat} {ds : List Int} (h : (∃ p ∈ x, p = ((t.drop a).take (k + 1), ds)) ∨ (ds = [] ∧ ∀ p ∈ x, p.1 ≠ (t.drop a).take (k + 1))) (hk : k < (t.drop a).length) (h1 : x.Pairwise fun p q => p.1 ≠ q.1) (j : Nat) (c : Int) :
    (CK x t a k j c ∨ ∃ i, i < ds.length ∧ j = a + i ∧ ds[i]? = some c) ↔ CK x t a (k + 1) j c := by
  constructor
  · rintro ((h2 | ⟨p, hp, h2, h3, h4⟩) | ⟨i, h2, h3, h4⟩)
    · exact Or.inl h2
    · exact Or.inr ⟨p, hp, h2, by omega, h4⟩
    · rcases h with ⟨p, hp, e⟩ | ⟨e, _⟩
      · subst e
        exact Or.inr ⟨_, hp, List.take_prefix _ _, by rw [List.length_take]; omega, i, h4, h3⟩
      · rw [e] at h4; simp at h4
  · rintro (h2 | ⟨p, hp, h2, h3, i, h4, h5⟩)
    · exact Or.inl (Or.inl h2)
    · rcases Nat.lt_or_ge k p.1.length with e | e
      · have e2 := pre_tk (k := k + 1) h2 (by omega)
        rcases h with ⟨p', hp', e3⟩ | ⟨_, e3⟩
        · have e4 : p = p' := by
            obtain ⟨i1, hi1, rfl⟩ := List.mem_iff_getElem.1 hp
            obtain ⟨i2, hi2, rfl⟩ := List.mem_iff_getElem.1 hp'
            have key := List.pairwise_iff_getElem.1 h1
            rcases Nat.lt_trichotomy i1 i2 with g | g | g
            · exact absurd (e2.trans (by rw [e3])) (key i1 i2 hi1 hi2 g)
            · subst g; rfl
            · exact absurd ((by rw [e3] : x[i2].1 = _).trans e2.symm) (key i2 i1 hi2 hi1 g)
          subst e4
          rw [e3] at h4
          exact Or.inr ⟨i, (List.getElem?_eq_some_iff.1 h4).1, h5, h4⟩
        · exact absurd e2 (e3 p hp)
      · exact Or.inl (Or.inr ⟨p, hp, h2, e, i, h4, h5⟩)

section
variable {cnt : Int} {B n R : Nat} {w : World} {P M : Path → Option Nat} {V : Path → Value} {acc : List Pat}
/-- a node's digits: those of the pattern that ends there, or none -/
theorem TrieP.digits (h : TrieP cnt w B n R P M V acc) {q : Path} {b : Nat} (hq : P q = some b) :
    ∃ A ds c, V q = .slice A ds.length c ∧ Has w w.heap.size A (ds.map (Value.int .i64)) ∧ ((∃ p ∈ acc, p = (q, ds)) ∨ (ds = [] ∧ ∀ p ∈ acc, p.1 ≠ q)) := by
  by_cases e : ∃ p ∈ acc, p.1 = q
  · obtain ⟨p, hp, rfl⟩ := e
    obtain ⟨a, c, h1, h2, _⟩ := h.hit p hp
    exact ⟨some a, p.2, c, h1, h2, Or.inl ⟨p, hp, rfl⟩⟩
  · have e2 : ∀ p ∈ acc, p.1 ≠ q := fun p hp e3 => e ⟨p, hp, e3⟩
    exact ⟨none, [], 0, h.miss q b hq e2, Has.nil_, Or.inr ⟨rfl, e2⟩⟩
/-- no child for the next letter: no pattern goes on -/
theorem TrieP.stop (h : TrieP cnt w B n R P M V acc) {u : List Int} {k : Nat} (hk : k < u.length) (hx : P (u.take k ++ [u[k]]) = none) : ∀ p ∈ acc, p.1 <+: u → p.1.length ≤ k := fun p hp hu => by
  rcases Nat.lt_or_ge k p.1.length with e | e
  · exfalso
    have e1 : u.take (k + 1) = u.take k ++ [u[k]] := by rw [List.take_add_one, List.getElem?_eq_getElem hk]; rfl
    have e2 : u.take k ++ [u[k]] <+: p.1 := by
      rw [← e1]
      rw [List.prefix_iff_eq_take] at hu
      rw [hu]
      exact (List.take_prefix_take_left (by omega))
    have := (h.dom (u.take k ++ [u[k]])).2 (Or.inr ⟨p, hp, e2⟩)
    rw [hx] at this
    cases this
  · exact e
end

set_option maxRecDepth 20000 in
set_option maxHeartbeats 8000000 in
theorem raise_ok (cnt : Int) (B n R G m q a : Nat) (P M : Path → Option Nat) (V : Path → Value) (acc : List Pat) (b T : List Int) (TA : Option Addr) (tc : Nat) (w W6 w1 : World)
    (hTP : TrieP cnt w B n R P M V acc) (hok : ∀ p ∈ acc, OkP p.1 p.2) (hT : ∀ z ∈ T, (Lit.int .i32 z).wf = true) (hB : BeS G m w W6 w1 b) (hq : q + a = m) (hm : m = T.length + 1) (ha : a < T.length) (hmm : m ≤ 1000)
    (hTx : Has W6 G TA ((T.drop a).map (Value.int .i32))) (hG : G ≤ W6.heap.size) (hbest : BestOf (CA acc T a) b) :
    Calls Tryd.prog 62 #[.pointer (some ⟨R, 0, none⟩), .slice (some ⟨G, a, none⟩) q q, .slice TA (T.drop a).length tc] w1 fun e w' => ∃ b', e = .returned (.tuple #[]) ∧ BeS G m w W6 w' b' ∧ BestOf (CA acc T (a + 1)) b' := by
  obtain ⟨u, hu⟩ : ∃ u, T.drop a = u := ⟨_, rfl⟩
  have HUL : Hid (u.length = T.length - a) := Lib.hid (by rw [← hu, List.length_drop])
  have hm1 : T.length + 1 ≤ m := by omega
  have hm2 : m ≤ T.length + 1 := by omega
  have hq1 : q + a ≤ m := by omega
  have hq2 : m ≤ q + a := by omega
  clear hm hq
  have hu1000 : u.length ≤ 1000 := by have := HUL.out; omega
  have HTP := Lib.hid hTP
  have HOK := Lib.hid hok
  have HTX := Lib.hid hTx
  have HW : Hid (∀ z ∈ u, (Lit.int .i32 z).wf = true) := Lib.hid (fun z hz => hT z (List.mem_of_mem_drop (hu ▸ hz)))
  have HU := Lib.hid hu
  have HB0 := Lib.hid hB
  have hck : BestOf (CK acc T a 0) b := hbest.congr (ck_zero (fun p hp => by have := (mayB_length (hok p hp).may).1; omega))
  have HCK := Lib.hid hck
  have HR := Lib.hid hTP.root
  rw [hu] at HTX ⊢
  clear hTP hok hT hTx hu hB hck hbest
  go_enter Tryd.func62, Tryd.ntmps62
  go_wp2
  go_loopw [0, 12] (fun nv i wr => ∃ (k bk : Nat) (b' : List Int), k ≤ u.length ∧ i = .int .i64 k ∧ nv = .pointer (some ⟨bk, 0, none⟩) ∧ Hid (P (u.take k) = some bk) ∧ Hid (BeS G m w W6 wr b') ∧ Hid (BestOf (CK acc T a k) b')) (fun _ i _ => u.length - (intOf i).toNat)
  case atStart => exact ⟨0, R, b, by omega, rfl, rfl, Lib.hid HR.out, HB0, HCK⟩
  case round =>
    clear HB0 HCK HR
    obtain ⟨k, bk, b', hk, rfl, rfl, HP, HB, HC⟩ := hrel
    by_cases hlt : k < u.length
    · have hk2 := HB.out.keep.1
      have hTr := (HTX.out.keeps (Nat.le_refl _) (by omega) HB.out.keep)
      obtain ⟨ab, off, rfl, hab, hcc⟩ := hTr.at_int hlt
      have hxw := HW.out _ (List.getElem_mem hlt)
      have HTW := Lib.hid (HTP.out.below HB.out.bel)
      have hTK : u.take (k + 1) = u.take k ++ [u[k]] := by rw [List.take_add_one, List.getElem?_eq_getElem hlt]; rfl
      have HSTOP := Lib.hid (fun h => HTP.out.stop (u := u) (k := k) hlt h)
      have hc0 := HTW.out.tri.cell0 HP.out
      obtain ⟨X, hX⟩ : ∃ X, u[k] = X := ⟨_, rfl⟩
      rw [hX] at hcc hxw hTK
      simp only [hX] at HSTOP
      obtain ⟨p, hp⟩ : ∃ p, u.take k = p := ⟨_, rfl⟩
      rw [hp] at HP hTK hc0
      simp only [hp] at HSTOP
      have HTK := Lib.hid hTK
      have HK := Lib.hid (show k < (T.drop a).length by rw [HU.out]; exact hlt)
      clear hX hp hTK hTr hab
      have hlk : ∀ W' : World, W' = W' := fun _ => rfl
      cases hM : M p with
      | none =>
        rw [hM] at hc0
        have hN := HTW.out.tri.bare p hM X
        have HEND := Lib.hid (HC.out.congr (ck_all ha (fun p hp h => HSTOP.out hN p hp (by rw [← HU.out]; exact h))))
        clear HSTOP
        go_wp2_with (at_lookup; refine wpList_lookup_nil _ rfl _ _ 58 rfl 21 97 .i32 Tryd.underlying21 Tryd.underlying58 (zeroN _) rfl X rfl hxw ?_)
        (try simp only [Exit.inBlock, Exit.then])
        exact bodyPost_ret (results_none rfl _ _ _) rfl ⟨rfl, b', HB.out, HEND.out⟩
      | some mm =>
        rw [hM] at hc0
        have hmap := (HTW.out.tri.kids p mm hM).2
        cases hN : P (p ++ [X]) with
        | none =>
          have HEND := Lib.hid (HC.out.congr (ck_all ha (fun p hp h => HSTOP.out hN p hp (by rw [← HU.out]; exact h))))
          clear HSTOP
          go_wp2_with (at_lookup; refine wpList_lookup_none _ rfl _ _ 58 rfl 21 97 .i32 Tryd.underlying21 Tryd.underlying58 (zeroN _) mm _ (fun x => P (p ++ [x])) rfl hmap X rfl hxw hN ?_)
          (try simp only [Exit.inBlock, Exit.then])
          exact bodyPost_ret (results_none rfl _ _ _) rfl ⟨rfl, b', HB.out, HEND.out⟩
        | some c2 =>
          have hc1 := HTW.out.tri.cell1 hN
          obtain ⟨A, ds, dc, hV, hDs, hcase⟩ := HTP.out.digits hN
          rw [hV] at hc1
          have HDS := Lib.hid hDs
          have hlen : ds.length ≤ k + 2 ∧ ∀ x ∈ ds, 0 ≤ x := by
            rcases hcase with ⟨p', hp', e⟩ | ⟨e, _⟩
            · have ho := HOK.out p' hp'
              have e1 : p'.2 = ds := by rw [e]
              have e2 : p'.1 = p ++ [X] := by rw [e]
              refine ⟨?_, fun x hx => (ho.digits x (by rw [e1]; exact hx)).1⟩
              have h1 := ho.len
              rw [e1, e2, ← HTK.out, List.length_take] at h1
              omega
            · rw [e]; simp
          have HNN := Lib.hid hlen.2
          have hdl := hlen.1
          have HSTEP : Hid (∀ j c, (CK acc T a k j c ∨ ∃ i, i < ds.length ∧ j = a + i ∧ ds[i]? = some c) ↔ CK acc T a (k + 1) j c) := Lib.hid (fun j c => ck_step (by rw [HU.out, HTK.out]; exact hcase) HK.out HTP.out.one j c)
          have HP2 : Hid (P (u.take (k + 1)) = some c2) := Lib.hid (by rw [HTK.out]; exact hN)
          clear hV hDs hcase hlen HSTOP
          go_wp2_with (at_lookup; refine wpList_lookup_some _ rfl _ _ 58 rfl 21 97 .i32 Tryd.underlying21 Tryd.underlying58 (zeroN _) mm _ (fun x => P (p ++ [x])) rfl hmap X rfl hxw c2 hN ?_)
          clear hc0 hc1 hmap hcc
          go_loopw [29] (fun i wx => ∃ (ii : Nat), ii ≤ ds.length ∧ i = .int .i64 ii ∧ Hid (BeS G m w W6 wx (raiseL b' a ds ii))) (fun i _ => ds.length - (intOf i).toNat)
          case atStart => exact ⟨0, by omega, rfl, HB⟩
          case round =>
            obtain ⟨ii, hii, rfl, HBx⟩ := hrel
            by_cases hil : ii < ds.length
            · have hDr := (HDS.out.below HBx.out.bel)
              obtain ⟨b9, off9, rfl, hb9, hcd⟩ := hDr.at_int hil
              have hai : a + ii < m := by have := HUL.out; omega
              have hsp := HBx.out.own.spotG (i := a + ii) (by rw [HBx.out.len]; exact hai)
              have hcw := hsp.2.2.1
              have hfw := hsp.2.2.2.1
              have HST := Lib.hid (HBx.out.store (i := a + ii) hai (max ((raiseL b' a ds ii).getD (a + ii) 0) (ds.getD ii 0)))
              have hdd : ds.getD ii 0 = ds[ii] := by simp [List.getD, List.getElem?_eq_getElem hil]
              rw [hdd] at HST
              obtain ⟨y, hy⟩ : ∃ y, (raiseL b' a ds ii).getD (a + ii) 0 = y := ⟨_, rfl⟩
              obtain ⟨z, hz⟩ : ∃ z, ds[ii] = z := ⟨_, rfl⟩
              obtain ⟨mx, hmx⟩ : ∃ mx, max y z = mx := ⟨_, rfl⟩
              rw [hy, hz, hmx] at HST
              rw [hy] at hcw
              rw [hz] at hcd
              have HRL : Hid (raiseL b' a ds (ii + 1) = (raiseL b' a ds ii).set (a + ii) mx) := Lib.hid (by rw [raiseL, hdd, hy, hz, hmx])
              clear hsp hDr hdd hy hz
              go_wp2_with (at_builtin; refine wpList_max rfl _ _ _ rfl y z rfl rfl mx hmx ?_)
              go_roundw
              case rel => exact ⟨ii + 1, by omega, by go_num, Lib.hid (by rw [HRL.out]; exact HST.out)⟩
              case measure => simp [intOf]; omega
            · obtain rfl : ii = ds.length := by omega
              have HC2 := Lib.hid ((raise_best HC.out a HNN.out ds.length (Nat.le_refl _)).congr HSTEP.out)
              go_wp2
              go_roundw
              case rel => exact ⟨k + 1, c2, _, by omega, by go_num, rfl, HP2, HBx, HC2⟩
              case measure => simp [intOf]; omega
    · obtain rfl : k = u.length := by omega
      have HEND := Lib.hid (HC.out.congr (ck_all ha (fun p hp h => by rw [← HU.out]; exact h.length_le)))
      go_wp2
      go_end0
      exact ⟨b', rfl, HB.out, HEND.out⟩
end Go.Proofs.YtekjejbcdnghjaaDoor

/-
  The program's Points: a word between dots, its weights. Condition: a word of at most a million letters.
-/
set_option linter.unusedVariables false
set_option linter.unusedSimpArgs false
namespace Go.Proofs.YtekjejbcdnghjaaDoor
open Go.ChangeShapes Go.WideShapes Go.ChangeAt Go.RowKit Go.Sort

theorem small_ok (r : Int) (w : World) : Calls Tryd.prog 77 #[.int .i32 r] w fun e w' => e = .returned (.int .i32 (smallZ r)) ∧ w = w' := by
  unfold smallZ
  by_cases h1 : r ≥ 65
  · by_cases h2 : r ≤ 90
    · rw [if_pos ⟨h1, h2⟩]
      have e1 : IntKind.i32.wrap (r - 65) = r - 65 := IntWalk.i32_in _ (by omega)
      have e2 : IntKind.i32.wrap (r - 65 + 97) = r + 32 := by rw [IntWalk.i32_in _ (by omega)]; omega
      go_enter Tryd.func77, Tryd.ntmps77
      go_wp2
      go_ret
      exact ⟨rfl, rfl⟩
    · rw [if_neg (by omega)]
      go_enter Tryd.func77, Tryd.ntmps77
      go_wp2
      go_ret
      exact ⟨rfl, rfl⟩
  · rw [if_neg (by omega)]
    go_enter Tryd.func77, Tryd.ntmps77
    go_wp2
    go_ret
    exact ⟨rfl, rfl⟩
theorem small_wf {r : Int} (h : (Lit.int .i32 r).wf = true) : (Lit.int .i32 (smallZ r)).wf = true := by
  unfold smallZ
  split
  · exact WalkArith.wf_i32 (by omega)
  · exact h
theorem dots_wf {wd : List Int} (h : ∀ z ∈ wd, (Lit.int .i32 z).wf = true) : ∀ z ∈ dotsW wd, (Lit.int .i32 z).wf = true := fun z hz => by
  unfold dotsW at hz
  simp only [List.cons_append, List.mem_cons, List.mem_append, List.mem_map, List.mem_singleton, List.not_mem_nil, or_false] at hz
  rcases hz with rfl | ⟨r, hr, rfl⟩ | rfl
  · rfl
  · exact small_wf (h r hr)
  · rfl

theorem run_roomR (n : Nat) (hn : n ≤ 1000) (W : World) : (Instr.makeSlice 22 (.int .i64 0) (.int .i64 (n : Int))).run Tryd.prog W = .ok (.slice (some ⟨W.heap.size, 0, none⟩) 0 n) (W.alloc (.cells (madeCells #[Value.int .i32 0] n) 21)) := by
  obtain ⟨i, hi, hzz⟩ := Option.map_eq_some_iff.1 infoI32
  simp only [Prod.mk.injEq] at hzz
  obtain ⟨hz, hs, hb⟩ := hzz
  have := run_make (P := Tryd.prog) W 22 21 i (.int .i32 0) Tryd.underlying22 hi hz .i64 .i64 0 (n : Int) (by omega) (by omega) (by rw [hb]; omega) (by omega)
  rw [this, hs, Nat.mul_one]
  rfl
theorem mine_roomR {w : World} {n : Nat} (hn : n ≤ 1000) : Mine .i32 21 (w.alloc (.cells (madeCells #[Value.int .i32 0] n) 21)) w.heap.size (.slice (some ⟨w.heap.size, 0, none⟩) 0 n) [] := by
  refine ⟨by simp, .inr ⟨w.heap.size, n, _, by simp, Nat.le_refl _, heap_alloc_new w _, by simp, by unfold maxLen; omega, by simp [madeCells], by simp⟩⟩

set_option maxRecDepth 20000 in
set_option maxHeartbeats 4000000 in
theorem dotted_ok (B : Option Addr) (c' : Nat) (wd : List Int) (w : World) (hw : wd.length ≤ 100) (h2 : Has w w.heap.size B (wd.map (Value.int .i32))) :
    Calls Tryd.prog 61 #[.slice B wd.length c'] w fun e w' => SliceOf .i32 w w' e (dotsW wd) := by
  obtain ⟨m, hm⟩ : ∃ m : Nat, m = wd.length + 2 := ⟨_, rfl⟩
  have hmI : (wd.length : Int) + 2 = (m : Int) := by omega
  have hm9 : m ≤ 1000 := by omega
  clear hm
  have HMK := fun W => run_roomR m hm9 W
  have hmine := fun W => mine_roomR (w := W) hm9
  obtain ⟨T, hT⟩ : ∃ T, dotsW wd = T := ⟨_, rfl⟩
  have HTE := Lib.hid hT
  have HB := Lib.hid h2
  rw [hT]
  clear h2 hT
  have hM0 := hmine w
  have hb0 : Below w.heap.size w (w.alloc (.cells (madeCells #[Value.int .i32 0] m) 21)) := (Below.refl _ _).alloc (Nat.le_refl _) _
  obtain ⟨W0, hW0⟩ : ∃ W0, w.alloc (.cells (madeCells #[Value.int .i32 0] m) 21) = W0 := ⟨_, rfl⟩
  have hmk : (Instr.makeSlice 22 (.int .i64 0) (.int .i64 (m : Int))).run Tryd.prog w = .ok (.slice (some ⟨w.heap.size, 0, none⟩) 0 m) W0 := by rw [← hW0]; exact HMK w
  rw [hW0] at hM0 hb0
  have hs0 := hb0.size
  clear HMK hmine hW0
  go_enter Tryd.func61, Tryd.ntmps61
  go_wp2_with (at_builtin; refine wpList_push rfl _ _ 22 rfl Tryd.underlying22 infoI32 (by omega) w.heap.size _ [] 46 w _ hM0 rfl rfl hb0 hs0 (by simp) ?_; intro v1 w1 hM1 hb1)
  have HS := Lib.hid (And.intro hM1 hb1)
  clear hM0 hb0 hs0 hM1 hb1 hmk
  go_loopw [3, 15] (fun v i wr => ∃ k : Nat, k ≤ wd.length ∧ i = .int .i64 k ∧ Mine .i32 21 wr w.heap.size v (46 :: (wd.take k).map smallZ) ∧ Below w.heap.size w wr) (fun _ i _ => wd.length - (intOf i).toNat)
  case atStart => exact ⟨0, by omega, rfl, HS.out.1, HS.out.2⟩
  case round =>
    clear HS
    obtain ⟨k, hk, rfl, hM, hbl⟩ := hrel
    have hB := hbl.size
    have hlen : (46 :: (wd.take k).map smallZ).length ≤ 200 := by simp; omega
    by_cases hlt : k < wd.length
    · obtain ⟨b, off, rfl, hb, hca⟩ := HB.out.at_int hlt
      have hcc := (hbl.cell (p := ⟨b, off + k, none⟩) hb).trans hca
      have HT := dots_take wd k hlt
      obtain ⟨X, hX⟩ : ∃ X, wd[k] = X := ⟨_, rfl⟩
      rw [hX] at hcc HT
      have HT := Lib.hid HT
      have cg := fun w => small_ok X w
      obtain ⟨Y, hY⟩ : ∃ Y, smallZ X = Y := ⟨_, rfl⟩
      rw [hY] at HT
      simp only [hY] at cg
      obtain ⟨xs, hxs⟩ : ∃ xs, 46 :: (wd.take k).map smallZ = xs := ⟨_, rfl⟩
      rw [hxs] at HT hM hlen
      clear hX hY hca hb hxs
      go_wp2_with (first
        | (go_at_call 77; refine (cg _).mono ?_; rintro e w9 ⟨rfl, rfl⟩)
        | (at_builtin; refine wpList_push rfl _ _ 22 rfl Tryd.underlying22 infoI32 (by omega) w.heap.size _ xs Y w _ hM rfl rfl hbl hB (by omega) ?_; intro v' w3 hM3 hb3))
      go_roundw
      case rel => exact ⟨k + 1, by omega, by go_num, by rw [HT.out]; exact hM3, hb3⟩
      case measure => simp [intOf]; omega
    · obtain rfl : k = wd.length := by omega
      have HD := dots_end wd
      rw [HTE.out] at HD
      obtain ⟨xs, hxs⟩ : ∃ xs, 46 :: (wd.take wd.length).map smallZ = xs := ⟨_, rfl⟩
      rw [hxs] at HD hM hlen
      have HD := Lib.hid HD
      clear hxs
      go_wp2_with (at_builtin; refine wpList_push rfl _ _ 22 rfl Tryd.underlying22 infoI32 (by omega) w.heap.size _ xs 46 w _ hM rfl rfl hbl hB (by omega) ?_; intro v' w5 hM5 hb5; rw [HD.out] at hM5)
      go_ret
      exact ⟨_, rfl, hM5.sliceV hb5⟩

set_option maxRecDepth 20000 in
set_option maxHeartbeats 8000000 in
theorem weights_ok (cnt : Int) (B0 n R : Nat) (P M : Path → Option Nat) (V : Path → Value) (acc : List Pat) (B : Option Addr) (c' : Nat) (wd : List Int) (w : World) (hTP : TrieP cnt w B0 n R P M V acc) (hok : ∀ p ∈ acc, OkP p.1 p.2)
    (hw : wd.length ≤ 64) (hwf : ∀ z ∈ wd, (Lit.int .i32 z).wf = true) (h2 : Has w w.heap.size B (wd.map (Value.int .i32))) :
    Calls Tryd.prog 39 #[.pointer (some ⟨R, 0, none⟩), .slice B wd.length c'] w fun e w' =>
      ∃ G m W6 b, e = .returned (.slice (some ⟨G, 1, none⟩) (wd.length + 1) (m - 1)) ∧ m = wd.length + 3 ∧ BeS G m w W6 w' b ∧ BestOf (Contr acc (dotsW wd)) b := by
  have cd := dotted_ok B c' wd w (by omega) h2
  have hTw := dots_wf hwf
  have hTl := dotsW_length wd
  obtain ⟨T, hT⟩ : ∃ T, dotsW wd = T := ⟨_, rfl⟩
  rw [hT] at cd hTw hTl ⊢
  obtain ⟨m, hm⟩ : ∃ m : Nat, m = T.length + 1 := ⟨_, rfl⟩
  have hmI : (T.length : Int) + 1 = (m : Int) := by omega
  have hm1 : T.length + 1 ≤ m := by omega
  have hm2 : m ≤ T.length + 1 := by omega
  have hT66 : T.length ≤ 66 := by omega
  have HMM := Lib.hid hm
  have HTL := Lib.hid hTl
  have HMK := fun W => run_make_row' (P := Tryd.prog) 23 3 (.int .i64 0) 8 Tryd.underlying23 fullI rfl .i64 .i64 m (by omega) (by omega) W
  have HTP := Lib.hid hTP
  have HOK := Lib.hid hok
  have HTW := Lib.hid hTw
  have HW64 := Lib.hid hw
  clear hTP hok hTw hT h2 hwf hm hTl hw
  go_enter Tryd.func39, Tryd.ntmps39
  go_wp2_with (go_at_call 61; refine cd.mono ?_; rintro e w5 ⟨v, rfl, A6, c6, rfl, hc6, hh6, hb5⟩; clear cd)
  obtain ⟨W6, hW6⟩ : ∃ W6, w5.alloc (.cells (madeCells #[Value.int .i64 0] m) 3) = W6 := ⟨_, rfl⟩
  have hbe : BeS w5.heap.size m w W6 W6 (List.replicate m 0) := by rw [← hW6]; exact ⟨mine_zeros (by omega), by simp, Keeps.refl _ _, hb5.alloc hb5.size _, hb5.size⟩
  have h66 : Has W6 w5.heap.size A6 (T.map (Value.int .i32)) := by rw [← hW6]; exact hh6.below ((Below.refl _ _).alloc (Nat.le_refl _) _)
  have hs6 : w5.heap.size ≤ W6.heap.size := by rw [← hW6]; simp
  obtain ⟨G, hG⟩ : ∃ G, w5.heap.size = G := ⟨_, rfl⟩
  rw [hG] at hbe h66 hs6
  have HBE := Lib.hid (And.intro hbe (BestOf.zeros (C := CA acc T 0) (fun j c => ca_zero acc T j c) m))
  have H66 := Lib.hid h66
  have HS6 := Lib.hid hs6
  have hct := hc6.1
  simp only [hW6, hG]
  clear hh6 hb5 hbe h66 hs6 hW6 hG HMK hmI hc6
  go_loopw [16] (fun i wr => ∃ (k : Nat) (b : List Int), k ≤ T.length ∧ i = .int .i64 k ∧ Hid (BeS G m w W6 wr b ∧ BestOf (CA acc T k) b)) (fun i _ => T.length - (intOf i).toNat)
  case atStart => exact ⟨0, _, by omega, rfl, HBE⟩
  case round =>
    clear HBE
    obtain ⟨k, b, hk, rfl, HS⟩ := hrel
    by_cases hlt : k < T.length
    · have hs1 := fun W => is_lo (some ⟨G, 0, none⟩) m m k (k : Int) rfl (by omega) W
      have hs2 := fun W => rs_lo A6 T.length c6 k (k : Int) rfl (by omega) W
      obtain ⟨q, hq⟩ : ∃ q, m - k = q := ⟨_, rfl⟩
      have e1 : subA (some ⟨G, 0, none⟩) m k = some ⟨G, k, none⟩ := by unfold subA; rw [if_neg (by omega)]; simp [Addr.add] <;> omega
      rw [e1, hq] at hs1
      have hx6 := H66.out.sub k c6 (by simpa using hct)
      rw [← List.map_drop] at hx6
      have HRA := Lib.hid (fun (u : World) (hB : BeS G m w W6 u b) => raise_ok cnt B0 n R G m q k P M V acc b T (subA A6 c6 k) (c6 - k) w W6 u HTP.out HOK.out HTW.out hB (by omega) HMM.out hlt (by omega) hx6 HS6.out HS.out.2)
      simp only [List.length_drop] at HRA
      obtain ⟨TA, hTA⟩ : ∃ TA, subA A6 c6 k = TA := ⟨_, rfl⟩
      obtain ⟨tl, htl⟩ : ∃ tl, T.length - k = tl := ⟨_, rfl⟩
      obtain ⟨tc, htc⟩ : ∃ tc, c6 - k = tc := ⟨_, rfl⟩
      rw [hTA, htl, htc] at hs2
      simp only [hTA, htl, htc] at HRA
      clear e1 hq hx6 hTA htl htc
      go_wp2
      go_region_law ((go_simp; go_at_call 62; refine (HRA.out _ (HS.out.1.drewN _)).mono ?_; rintro e w9 ⟨b9, rfl, hB9, hb9⟩))
      all_goals
        have HS9 := Lib.hid (And.intro hB9 hb9)
        clear hB9 hb9 HRA
        go_wp2
        go_roundw
        case rel => exact ⟨k + 1, b9, by omega, by go_num, HS9⟩
        case measure => simp [intOf]; omega
    · obtain rfl : k = T.length := by omega
      have hT2 : 2 ≤ T.length := by have := HTL.out; omega
      have hs1 := fun W => is_lh (some ⟨G, 0, none⟩) m m 1 T.length 1 (T.length : Int) rfl rfl (by omega) (by omega) W
      have e1 : subA (some ⟨G, 0, none⟩) m 1 = some ⟨G, 1, none⟩ := by unfold subA; rw [if_neg (by omega)]; simp [Addr.add] <;> omega
      have e2 : T.length - 1 = wd.length + 1 := by have := HTL.out; omega
      rw [e1, e2] at hs1
      have HF : Hid (BestOf (Contr acc T) b) := Lib.hid (HS.out.2.congr (ca_end acc T))
      clear e1 e2
      go_wp2
      go_ret
      exact ⟨G, m, W6, b, rfl, by have := HMM.out; have := HTL.out; omega, HS.out.1, HF.out⟩
end Go.Proofs.YtekjejbcdnghjaaDoor

/-
  The program's Points, of a trie and of none. Condition: a word of at most a million letters.
-/
set_option linter.unusedVariables false
set_option linter.unusedSimpArgs false
namespace Go.Proofs.YtekjejbcdnghjaaDoor
open Go.ChangeShapes Go.WideShapes Go.ChangeAt Go.RowKit Go.Sort

set_option maxRecDepth 20000 in
set_option maxHeartbeats 8000000 in
theorem ppoints_ok (v : Value) (acc : List Pat) (B : Option Addr) (c : Nat) (wd : List Int) (w : World) (ha : acc.length ≤ 1000) (hok0 : ∀ p ∈ acc, OkP p.1 p.2) (hw : wd.length ≤ 1000000) (hc : wd.length ≤ c) (hwf : ∀ z ∈ wd, (Lit.int .i32 z).wf = true) (hT : TrieV w v acc) (h : Has w w.heap.size B (wd.map (Value.int .i32))) :
    Calls Tryd.prog 19 #[v, .slice B wd.length c] w fun e w' => ∃ r, SliceOf .i64 w w' e r ∧ PointsS acc wd r := by
  obtain ⟨R, B0, n, P, M, V, rfl, hTP, hok⟩ := hT
  by_cases h64 : 64 < wd.length
  · have e : (wd.length : Int) > 64 := by omega
    clear hTP hok
    go_enter Tryd.func19, Tryd.ntmps19
    go_wp2
    go_ret
    refine ⟨[], ⟨_, rfl, sliceV_nil _ _ _ (Below.refl _ _)⟩, ?_⟩
    unfold PointsS
    rw [if_pos h64]
  have e64 : ¬ (wd.length : Int) > 64 := by omega
  have cw := weights_ok _ B0 n R P M V acc B c wd w hTP hok (by omega) hwf h
  clear hTP hok hok0 hwf h
  go_enter Tryd.func19, Tryd.ntmps19
  go_wp2_with (go_at_call 39; refine cw.mono ?_; rintro e wr ⟨G, m, W6, b, rfl, hm, hBS, hbest⟩; clear cw)
  have HMM := Lib.hid hm
  have hmw : wd.length + 3 ≤ m := by omega
  have HPT : Hid (PointsS acc wd (pts wd.length b)) := Lib.hid (by
    unfold PointsS
    rw [if_neg h64]
    exact ⟨b, by rw [hBS.len, hm], hbest, rfl⟩)
  have HCE := Lib.hid (fun (W : World) (hb : Below wr.heap.size wr W) (i : Nat) (hi : i < m) => by
    obtain ⟨_, h2, h3, _, _⟩ := hBS.own.spotG (i := i) (by rw [hBS.len]; exact hi)
    exact (hb.cell (p := ⟨G, i, none⟩) h2).trans h3)
  have HN0 : Hid (∀ i, 0 ≤ b.getD i 0) := Lib.hid (fun i => by
    by_cases e : i < b.length
    · have := (hbest i _ (List.getElem?_eq_getElem e)).1
      simp only [List.getD, List.getElem?_eq_getElem e, Option.getD_some]; exact this
    · simp only [List.getD, List.getElem?_eq_none (show b.length ≤ i by omega), Option.getD_none]; omega)
  have HBL := Lib.hid hBS.bel
  clear hbest hBS hm
  go_loopw [5, 7] (fun v ii w8 => ∃ i : Nat, 2 ≤ i ∧ (i = 2 ∨ i + 2 ≤ wd.length) ∧ ii = .int .i64 i ∧ Mine .i64 3 w8 wr.heap.size v (ptsN b i) ∧ Below wr.heap.size wr w8) (fun _ ii _ => wd.length - (intOf ii).toNat)
  case atStart => exact ⟨2, by omega, by omega, rfl, by rw [ptsN_two]; exact Mine.nil_ _ _ _ _, Below.refl _ _⟩
  case round =>
    obtain ⟨i, hi2, hin, rfl, hM, hbl⟩ := hrel
    have hB := hbl.size
    have HBW := Lib.hid (below_trans HBL.out hbl HBL.out.size)
    have hpl : (ptsN b i).length ≤ i := by
      unfold ptsN
      rw [List.length_map]
      have := List.length_filter_le (fun i => decide (2 ≤ i) && decide (b.getD (i + 1) 0 % 2 = 1)) (List.range i)
      rwa [List.length_range] at this
    by_cases hle : i + 3 ≤ wd.length
    · have hle' : (i : Int) ≤ (wd.length : Int) - 3 := by omega
      have hcx := HCE.out _ hbl (1 + i) (by omega)
      rw [Nat.add_comm 1 i] at hcx
      have hcy : ∀ W : World, W.cell? ⟨G, i + 1, none⟩ = some (.int .i64 (b.getD (i + 1) 0)) → W.cell? ⟨G, 1 + i, none⟩ = some (.int .i64 (b.getD (i + 1) 0)) := fun W h => by rw [Nat.add_comm 1 i]; exact h
      replace hcx := hcy _ hcx
      clear hcy
      have hx9 := HN0.out (i + 1)
      have HPS := ptsN_succ b hi2
      obtain ⟨X, hX⟩ : ∃ X, b.getD (i + 1) 0 = X := ⟨_, rfl⟩
      rw [hX] at hcx hx9 HPS
      have HPS := Lib.hid HPS
      have htm : X.tmod 2 = X % 2 := Int.tmod_eq_emod_of_nonneg hx9
      obtain ⟨R, hR⟩ : ∃ R, X % 2 = R := ⟨_, rfl⟩
      rw [hR] at htm HPS
      have hR2 : 0 ≤ R ∧ R ≤ 1 := by omega
      clear hX hR
      by_cases hr1 : R = 1
      · subst hr1
        rw [if_pos rfl] at HPS
        go_wp2_with (at_builtin; refine wpList_push rfl _ _ 23 rfl Tryd.underlying23 infoI64 (by omega) _ _ _ (i : Int) _ _ hM rfl rfl hbl hB (by omega) ?_; intro v' w9 hM9 hb9)
        go_roundw
        case rel => exact ⟨i + 1, by omega, by omega, by go_num, by rw [HPS.out]; exact hM9, hb9⟩
        case measure => simp [intOf]; omega
      · have hr0 : R = 0 := by omega
        subst hr0
        rw [if_neg (by decide), List.append_nil] at HPS
        go_wp2
        go_roundw
        case rel => exact ⟨i + 1, by omega, by omega, by go_num, by rw [HPS.out]; exact hM, hbl⟩
        case measure => simp [intOf]; omega
    · have hle' : ¬ (i : Int) ≤ (wd.length : Int) - 3 := by omega
      have HE : Hid (ptsN b i = pts wd.length b) := Lib.hid (by
        rw [pts_is]
        rcases hin with rfl | h2
        · rw [ptsN_two, ptsN_small b (by omega)]
        · rw [show wd.length - 2 = i by omega])
      go_wp2
      go_ret
      refine ⟨_, ⟨_, rfl, ?_⟩, HPT.out⟩
      rw [← HE.out]
      exact hM.give HBL.out hbl
end Go.Proofs.YtekjejbcdnghjaaDoor
