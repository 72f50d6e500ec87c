/-
  A tree that holds patterns; New, the program's. Condition: texts of at most a million bytes, at most 100000 of them.
-/
import Derived.Test.YtekjejbcdnghjaaDoorHtc
import Derived.Test.YtekjejbcdnghjaaDoorHpd
import Derived.Test.YtekjejbcdnghjaaDoorHrd
set_option linter.unusedVariables false
set_option linter.unusedSimpArgs false
namespace Go.Proofs.YtekjejbcdnghjaaDoor
open Go.ChangeShapes Go.WideShapes Go.ChangeAt Go.RowKit Go.Sort

/-- digits in memory, apart from the tree's blocks -/
def DigR (w : World) (P M : Path → Option Nat) (v : Value) (ds : List Int) : Prop :=
  ∃ (a : Addr) (c : Nat), v = .slice (some a) ds.length c ∧ Has w w.heap.size (some a) (ds.map (Value.int .i64)) ∧ a.block < w.heap.size ∧ (∀ q, P q ≠ some a.block) ∧ (∀ q, M q ≠ some a.block)
/-- the tree holds just these patterns -/
structure TrieP (cnt : Int) (w : World) (B n R : Nat) (P M : Path → Option Nat) (V : Path → Value) (acc : List Pat) : Prop where
  tri : TrieAt (kN cnt) w B P M V n
  root : P [] = some R
  dom : ∀ q, (P q).isSome ↔ q = [] ∨ ∃ p ∈ acc, q <+: p.1
  hit : ∀ p ∈ acc, DigR w P M (V p.1) p.2
  miss : ∀ q b, P q = some b → (∀ p ∈ acc, p.1 ≠ q) → V q = nilS
  one : acc.Pairwise fun p q => p.1 ≠ q.1
section
variable {cnt : Int} {B n R : Nat} {w w' : World} {P M P' M' : Path → Option Nat} {V V' : Path → Value} {acc : List Pat} {l : Path}
theorem DigR.same {v : Value} {ds : List Int} (h : DigR w P M v ds) (hs : w.heap.size ≤ w'.heap.size) (hk : ∀ c, c < w.heap.size → (∀ q, P q ≠ some c) → (∀ q, M q ≠ some c) → w'.heap[c]? = w.heap[c]? ∧ (∀ q, P' q ≠ some c) ∧ (∀ q, M' q ≠ some c)) : DigR w' P' M' v ds := by
  obtain ⟨a, c, h1, h2, h3, h5, h6⟩ := h
  obtain ⟨k1, k2, k3⟩ := hk a.block h3 h5 h6
  exact ⟨a, c, h1, h2.stays hs fun a' ha _ => by injection ha with ha; rw [← ha]; exact k1, by omega, k2, k3⟩
theorem TrieP.below (h : TrieP cnt w B n R P M V acc) (hb : Below w.heap.size w w') : TrieP cnt w' B n R P M V acc :=
  ⟨h.tri.below hb, h.root, h.dom, fun p hp => (h.hit p hp).same hb.size fun c hc h1 h2 => ⟨hb.block c hc, h1, h2⟩, h.miss, h.one⟩
theorem TrieP.forms (h : TrieP cnt w B n R P M V acc) : ∀ q b, P q = some b → ∃ A n c, V q = .slice A n c := fun q b hq => by
  by_cases e : ∃ p ∈ acc, p.1 = q
  · obtain ⟨p, hp, rfl⟩ := e
    obtain ⟨a, c, h1, _⟩ := h.hit p hp
    exact ⟨_, _, _, h1⟩
  · exact ⟨none, 0, 0, h.miss q b hq fun p hp e2 => e ⟨p, hp, e2⟩⟩
theorem TrieP.at_ (h : TrieP cnt w B n R P M V acc) {p : Pat} (hp : p ∈ acc) : ∃ b, P p.1 = some b := Option.isSome_iff_exists.1 ((h.dom p.1).2 (Or.inr ⟨p, hp, List.prefix_refl _⟩))
theorem TrieP.had_nil (h : TrieP cnt w B n R P M V acc) (hn : ∀ q ∈ acc, q.1 ≠ l) : hadV P V l = nilS := by
  unfold hadV
  cases e : P l with
  | none => rfl
  | some b => rw [if_neg (by simp)]; exact h.miss l b e hn
theorem TrieP.had_some (h : TrieP cnt w B n R P M V acc) {q : Pat} (hq : q ∈ acc) (e : q.1 = l) : ∃ a n c, hadV P V l = .slice (some a) n c := by
  subst e
  obtain ⟨b, hb⟩ := h.at_ hq
  obtain ⟨a, c, h1, _⟩ := h.hit q hq
  unfold hadV
  rw [if_neg (by rw [hb]; simp)]
  exact ⟨a, _, c, h1⟩
theorem TrieP.add {p : Pat} {v : Value} (h : TrieP cnt w B n R P M V acc) {n' : Nat} (hA : AddR cnt B n' w w' P M V P' M' V' p.1) (hv : V' p.1 = v) (hD : DigR w P M v p.2) (hn : ∀ q ∈ acc, q.1 ≠ p.1) (hs : w.heap.size ≤ w'.heap.size) : TrieP cnt w' B n' R P' M' V' (acc ++ [p]) := by
  refine ⟨hA.tri, hA.ext [] R h.root, fun q => ?_, fun q hq => ?_, fun q b hq hne => ?_, ?_⟩
  · rw [hA.dom q, h.dom q]
    constructor
    · rintro ((h1 | ⟨r, hr, h1⟩) | h1)
      · exact Or.inl h1
      · exact Or.inr ⟨r, List.mem_append_left _ hr, h1⟩
      · exact Or.inr ⟨p, by simp, h1⟩
    · rintro (h1 | ⟨r, hr, h1⟩)
      · exact Or.inl (Or.inl h1)
      · rcases List.mem_append.1 hr with hr | hr
        · exact Or.inl (Or.inr ⟨r, hr, h1⟩)
        · rw [List.mem_singleton.1 hr] at h1; exact Or.inr h1
  · rcases List.mem_append.1 hq with hq | hq
    · obtain ⟨b, hb⟩ := h.at_ hq
      rw [hA.old q.1 b hb (hn q hq)]
      exact (h.hit q hq).same hs fun c hc h1 h2 => hA.far c hc h1 h2
    · rw [List.mem_singleton.1 hq, hv]
      exact hD.same hs fun c hc h1 h2 => hA.far c hc h1 h2
  · have hne1 : q ≠ p.1 := fun e => hne p (by simp) e.symm
    cases e : P q with
    | none => exact hA.new q b hq e hne1
    | some b0 => rw [hA.old q b0 e hne1]; exact h.miss q b0 e fun r hr => hne r (List.mem_append_left _ hr)
  · rw [List.pairwise_append]
    exact ⟨h.one, List.pairwise_singleton .., fun q hq r hr => by rw [List.mem_singleton.1 hr]; exact hn q hq⟩
end

theorem patS_valid {s : ByteArray} {p : Pat} (h : patS s = some p) : ∀ c ∈ p.1, 0 ≤ c ∧ c ≤ 1114111 := by
  unfold patS at h
  split at h
  · rename_i h0
    have hb := (decP_back _ (byteZ_of s) h0).1
    have ha : allP (losP (bytesS s)) = true := (losG_facts _ (byteZ_of s) _ 0 [] (by omega) (by simp) rfl).2
    rw [← hb] at ha
    unfold parseS at h
    cases e : pz 0 false (decP (bytesS s)).1 with
    | none => rw [e] at h; cases h
    | some z =>
      rw [e] at h
      simp only at h
      split at h
      · injection h with h
        subst h
        intro c hc
        have h2 := (pz_letters _ 0 false (l := z.1) (d := z.2) e c hc).1
        unfold allP at ha
        rw [List.all_eq_true] at ha
        exact valid_range (ha c h2)
      · cases h
  · cases h
theorem wf_rune {c : Int} (h : 0 ≤ c ∧ c ≤ 1114111) : (Lit.int .i32 c).wf = true := WalkArith.wf_i32 (by omega)
/-- a trie of these patterns -/
def TrieV (w : World) (v : Value) (acc : List Pat) : Prop :=
  ∃ R B n P M V, v = .pointer (some ⟨R, 0, none⟩) ∧ TrieP (acc.length : Int) w B n R P M V acc ∧ ∀ p ∈ acc, OkP p.1 p.2
def NewR (w : World) (v : Value) (r : List Pat × Nat × Int) : Prop := (r.2.2 = 0 → TrieV w v r.1) ∧ (r.2.2 ≠ 0 → v = .pointer none)
theorem TrieV.below {w w' : World} {v : Value} {acc : List Pat} (h : TrieV w v acc) (hb : Below w.heap.size w w') : TrieV w' v acc := by
  obtain ⟨R, B, n, P, M, V, h1, h2, h3⟩ := h
  exact ⟨R, B, n, P, M, V, h1, h2.below hb, h3⟩
theorem TrieV.ptr {w : World} {v : Value} {acc : List Pat} (h : TrieV w v acc) : ∃ X, v = .pointer (some ⟨X, 0, none⟩) := by
  obtain ⟨R, B, n, P, M, V, h1, h2⟩ := h
  exact ⟨R, h1⟩

set_option maxRecDepth 20000 in
set_option maxHeartbeats 4000000 in
theorem pnew_ok (A : Option Addr) (c : Nat) (zs : List ByteArray) (w : World) (hn : zs.length ≤ 1000) (hz : ∀ z ∈ zs, z.size ≤ 1000000) (h : Has w w.heap.size A (zs.map Value.string)) (hT : Lib.Utf8Tabs 0 1 w) :
    Calls Tryd.prog 15 #[.slice A zs.length c] w fun e w' => ∃ v, e = .returned (.tuple #[v, .int .i64 (newS zs).2.1, .int .i64 (newS zs).2.2]) ∧ NewR w' v (newS zs) ∧ Below w.heap.size w w' := by
  obtain ⟨V0, hV⟩ : ∃ V0, newS zs = V0 := ⟨_, rfl⟩
  rw [hV]
  unfold newS at hV
  by_cases hm : 512 < zs.length
  · rw [if_pos hm] at hV
    have HV := Lib.hid hV
    have hm' : (zs.length : Int) > 512 := by omega
    clear hV h hz
    go_enter Tryd.func15, Tryd.ntmps15
    go_wp2
    go_ret3
    rw [← HV.out]
    exact ⟨_, rfl, ⟨fun h => absurd h (by decide), fun _ => rfl⟩, Below.refl _ _⟩
  · rw [if_neg hm] at hV
    have HV := Lib.hid hV
    have hm' : ¬ (zs.length : Int) > 512 := by omega
    have HZ := Lib.hid hz
    have HH := Lib.hid h
    clear hV h hz
    have HTB := Lib.hid hT
    clear hT
    go_enter Tryd.func15, Tryd.ntmps15
    go_wp2
    have hR0 : At (w.alloc (.cells #[.map none, .slice none 0 0, .int .i64 (zs.length : Int)] 62)) w.heap.size 62 #[.map none, nilS, .int .i64 (zs.length : Int)] := at_new w _ _
    have hb0 : Below w.heap.size w (w.alloc (.cells #[.map none, .slice none 0 0, .int .i64 (zs.length : Int)] 62)) := (Below.refl _ _).alloc (Nat.le_refl _) _
    obtain ⟨W0, hW0⟩ : ∃ W0, w.alloc (.cells #[.map none, .slice none 0 0, .int .i64 (zs.length : Int)] 62) = W0 := ⟨_, rfl⟩
    rw [hW0] at hR0 hb0
    simp only [hW0]
    obtain ⟨R, hR⟩ : ∃ R, w.heap.size = R := ⟨_, rfl⟩
    rw [hR] at hR0 hb0
    simp only [hR]
    have hd0 : ∀ q : Path, ((fun p => if p = [] then some R else none : Path → Option Nat) q).isSome ↔ q = [] ∨ ∃ p ∈ ([] : List Pat), q <+: p.1 := fun q => by
      show (if q = [] then some R else none).isSome = true ↔ _
      by_cases e : q = []
      · rw [if_pos e]; simp [e]
      · rw [if_neg e]; simp [e]
    have hTP : TrieP (zs.length : Int) W0 R 0 R (fun p => if p = [] then some R else none) (fun _ => none) (fun _ => nilS) [] :=
      ⟨TrieAt.root (by rw [show kN (zs.length : Int) [] = _ from if_pos rfl]; exact hR0) (Nat.le_refl _), rfl, hd0, fun p hp => (by cases hp), fun q b hq _ => rfl, List.Pairwise.nil⟩
    have HST := Lib.hid (And.intro hTP hb0)
    clear hR0 hTP hb0 hW0 hd0
    go_loopw [20] (fun i wr => ∃ (k n : Nat) (P M : Path → Option Nat) (V : Path → Value) (acc : List Pat), k ≤ zs.length ∧ i = .int .i64 k ∧ acc.length = k ∧ n ≤ 18 * k ∧ Hid (TrieP (zs.length : Int) wr R n R P M V acc ∧ Below R w wr) ∧ Hid (newG k acc (zs.drop k) = V0) ∧ Hid (∀ p ∈ acc, OkP p.1 p.2)) (fun i _ => zs.length - (intOf i).toNat)
    case atStart => exact ⟨0, 0, _, _, _, [], by omega, rfl, rfl, by omega, HST, HV, Lib.hid (by simp)⟩
    case round =>
      clear HST
      obtain ⟨k, n, P, M, V, acc, hk, rfl, hal, hnk, HS, HG, HP⟩ := hrel
      have hbl := HS.out.2
      have hB : R ≤ wr.heap.size := by have := hbl.size; omega
      by_cases hlt : k < zs.length
      · obtain ⟨b, off, rfl, hb, hcs⟩ := HH.out.at_str hlt
        have hcc := (hbl.cell (p := ⟨b, off + k, none⟩) (by rw [← hR]; exact hb)).trans hcs
        have HNO := fun q => Lib.hid (newG_none (acc := acc) hlt q)
        have HTW := fun (p : Pat) q => Lib.hid (fun (i : Nat) hi he => newG_twice (acc := acc) (p := p) (i := i) hlt q hi he)
        have HNX := fun (p : Pat) q => Lib.hid (fun hn => newG_next (acc := acc) (p := p) hlt q hn)
        have hsz := HZ.out _ (List.getElem_mem hlt)
        obtain ⟨s, hs⟩ : ∃ s, zs[k] = s := ⟨_, rfl⟩
        rw [hs] at hcc hsz
        simp only [hs] at HNO HTW HNX
        have cp := pparse_ok s wr hsz (Utf8Tabs_below HTB.out (by rw [hR]; exact hbl))
        clear hs hcs hb hsz
        obtain ⟨Pt, hPt⟩ : ∃ Pt, patS s = Pt := ⟨_, rfl⟩
        rw [hPt] at cp HNO
        cases Pt with
        | none =>
          have HN := Lib.hid ((HNO rfl).out.symm.trans HG.out)
          clear HNO HTW HNX hPt
          go_wp2_with (go_at_call 9; refine cp.mono ?_; rintro e w3 ⟨rfl, hb3⟩)
          go_ret3
          rw [← HN.out]
          exact ⟨_, rfl, ⟨fun h => absurd h (by simp), fun _ => rfl⟩, by rw [hR]; exact hbl.trans (hb3.mono hB)⟩
        | some p =>
          have HT := HTW p hPt
          have HX := HNX p hPt
          have hpo := patS_ok hPt
          have hpv := patS_valid hPt
          have hpl := mayB_len hpo
          have HPO := Lib.hid hpo
          have HPV := Lib.hid hpv
          clear HNO HTW HNX hPt hpo hpv
          by_cases he : ∃ q ∈ acc, q.1 = p.1
          · obtain ⟨q0, hq0, hqe⟩ := he
            obtain ⟨i0, hi0, hie⟩ := List.mem_iff_getElem.1 hq0
            have HN := Lib.hid ((HT.out i0 hi0 (by rw [hie]; exact hqe)).symm.trans HG.out)
            clear HT HX hie hi0
            go_wp2_with (first
              | (go_at_call 9; refine cp.mono ?_; rintro e w3 ⟨v8, v9, rfl, hs8, hs9⟩; have hb3 := hs8.choose_spec.choose_spec.2.2.2; obtain ⟨A8, c8, rfl, hf8, hl8, hh8⟩ := sliceV_lt hs8 hpl.1; obtain ⟨A9, c9, rfl, hf9, hl9, hh9⟩ := sliceV_lt hs9 hpl.2.2.1; clear hs8 hs9 cp; have HT3 := Lib.hid (HS.out.1.below hb3); have hlt3 : ∀ (a : Addr), wr.heap.size ≤ a.block → (∀ q, P q ≠ some a.block) ∧ (∀ q, M q ≠ some a.block) := (fun a ha => ⟨fun q e => (by have := HS.out.1.tri.lt e; omega), fun q e => (by have := HS.out.1.tri.mlt e; omega)⟩); have hB3 : R ≤ w3.heap.size := Nat.le_trans hB hb3.size; have ca := add_ok (zs.length : Int) A8 c8 p.1 (.slice A9 p.2.length c9) R n R P M V w3 (fun z hz => wf_rune (HPV.out z hz)) (by omega) (by omega) HT3.out.tri HT3.out.root hB3 HT3.out.forms ⟨_, _, _, rfl⟩ hh8 (fun a ha => hlt3 a (hf8 a ha)); have HB3 := Lib.hid hb3; have HF9 := Lib.hid hf9; have HH9 := Lib.hid hh9; have HLT3 := Lib.hid hlt3; clear hf8 hl8 hh8 hf9 hl9 hh9 hlt3 hb3)
              | (go_at_call 38; refine ca.mono ?_; rintro e w5 ⟨P', M', V', hA, A0, n0, c0, hF, hcase⟩; obtain ⟨a1, n1, c1, hF2⟩ := HT3.out.had_some hq0 hqe; rw [hF2] at hF; injection hF with hF3 hF4 hF5; rcases hcase with ⟨h1, _, _⟩ | ⟨_, rfl, _⟩; · rw [← hF3] at h1; cases h1))
            go_ret3
            rw [← HN.out]
            exact ⟨_, rfl, ⟨fun h => absurd h (by simp), fun _ => rfl⟩, by rw [hR]; exact (hbl.trans (HB3.out.mono hB)).trans hA.bel⟩
          · have hne : ∀ q ∈ acc, q.1 ≠ p.1 := fun q hq e => he ⟨q, hq, e⟩
            have HN := Lib.hid ((HX.out (fun i hi => hne _ (List.getElem_mem hi))).symm.trans HG.out)
            have HNE := Lib.hid hne
            clear HT HX he hne
            go_wp2_with (first
              | (go_at_call 9; refine cp.mono ?_; rintro e w3 ⟨v8, v9, rfl, hs8, hs9⟩; have hb3 := hs8.choose_spec.choose_spec.2.2.2; obtain ⟨A8, c8, rfl, hf8, hl8, hh8⟩ := sliceV_lt hs8 hpl.1; obtain ⟨A9, c9, rfl, hf9, hl9, hh9⟩ := sliceV_lt hs9 hpl.2.2.1; clear hs8 hs9 cp; have HT3 := Lib.hid (HS.out.1.below hb3); have hlt3 : ∀ (a : Addr), wr.heap.size ≤ a.block → (∀ q, P q ≠ some a.block) ∧ (∀ q, M q ≠ some a.block) := (fun a ha => ⟨fun q e => (by have := HS.out.1.tri.lt e; omega), fun q e => (by have := HS.out.1.tri.mlt e; omega)⟩); have hB3 : R ≤ w3.heap.size := Nat.le_trans hB hb3.size; have ca := add_ok (zs.length : Int) A8 c8 p.1 (.slice A9 p.2.length c9) R n R P M V w3 (fun z hz => wf_rune (HPV.out z hz)) (by omega) (by omega) HT3.out.tri HT3.out.root hB3 HT3.out.forms ⟨_, _, _, rfl⟩ hh8 (fun a ha => hlt3 a (hf8 a ha)); have HB3 := Lib.hid hb3; have HF9 := Lib.hid hf9; have HH9 := Lib.hid hh9; have HLT3 := Lib.hid hlt3; clear hf8 hl8 hh8 hf9 hl9 hh9 hlt3 hb3)
              | (go_at_call 38; refine ca.mono ?_; rintro e w5 ⟨P', M', V', hA, A0, n0, c0, hF, hcase⟩; rw [HT3.out.had_nil HNE.out] at hF; injection hF with hF3 hF4 hF5; subst hF3; subst hF4; subst hF5; rcases hcase with ⟨_, rfl, hv5⟩ | ⟨h1, _, _⟩; rotate_left; exact absurd rfl h1; have HAD := Lib.hid hA; have HV5 := Lib.hid hv5; clear hA hv5))
            have hD : DigR w3 P M (.slice A9 p.2.length c9) p.2 := by
              obtain ⟨b9, o9, e9, hb9, _⟩ := HH9.out (by intro e; rw [List.map_eq_nil_iff] at e; have := hpl.2.2.1; rw [e] at this; simp at this)
              subst e9
              have h9 := HF9.out _ rfl
              exact ⟨_, c9, rfl, HH9.out, hb9, (HLT3.out _ h9).1, (HLT3.out _ h9).2⟩
            have hs5 : w3.heap.size ≤ w5.heap.size := by
              have := HAD.out.bel.size
              omega
            have hT5 := HT3.out.add HAD.out HV5.out hD HNE.out hs5
            have HFIN : Hid (TrieP (zs.length : Int) w5 R (n + p.1.length) R P' M' V' (acc ++ [p]) ∧ Below R w w5) := Lib.hid
              ⟨hT5, (hbl.trans (HB3.out.mono hB)).trans HAD.out.bel⟩
            go_roundw
            case rel => exact ⟨k + 1, n + p.1.length, P', M', V', acc ++ [p], by omega, by go_num, by simp; omega, by omega, HFIN, HN, Lib.hid (fun x hx => by
              rcases List.mem_append.1 hx with h1 | h1
              · exact HP.out x h1
              · rw [List.mem_singleton.1 h1]; exact HPO.out)⟩
            case measure => simp [intOf]; omega
      · obtain rfl : k = zs.length := by omega
        have HN := Lib.hid ((newG_end zs.length acc zs).symm.trans HG.out)
        go_wp2
        go_ret3
        rw [← HN.out]
        exact ⟨_, rfl, ⟨fun _ => ⟨R, R, n, P, M, V, rfl, by show TrieP ((acc.length : Nat) : Int) _ _ _ _ _ _ _ _; rw [hal]; exact HS.out.1, HP.out⟩, fun h => absurd rfl h⟩, by rw [hR]; exact hbl⟩
end Go.Proofs.YtekjejbcdnghjaaDoor
