/-
  The program's reading of a pattern: its letters and digits ('split'), 'Parse'. Conditions: a text of at most a million bytes; the library's two tables of UTF-8 lie in memory.
-/
import Derived.Test.YtekjejbcdnghjaaDoorHpc
import Derived.Test.YtekjejbcdnghjaaDoorShelfV
import Derived.Lib.OthersKept
import Derived.Laws.RangeAny
set_option linter.unusedVariables false
set_option linter.unusedSimpArgs false
namespace Go.Proofs.YtekjejbcdnghjaaDoor
open Go.ChangeShapes Go.WideShapes Go.ChangeAt Go.RowKit Go.Sort

theorem TwoM.block {k1 k2 : IntKind} {e1 e2 : TypeId} {B I : Nat} {w wr W : World} {v u : Value} {l m : List Int} (h : TwoM k1 k2 e1 e2 B w wr v u l m) (hb : Below B wr W) (hk : ∀ b, b < wr.heap.size → b ≠ I → W.heap[b]? = wr.heap[b]?) (h1 : v.ownBlock ≠ some I) (h2 : u.ownBlock ≠ some I) : TwoM k1 k2 e1 e2 B w W v u l m :=
  ⟨h.one.stays fun b hb2 hlt => hk b hlt fun e => h1 (by rw [hb2, e]), h.two.stays fun b hb2 hlt => hk b hlt fun e => h2 (by rw [hb2, e]), h.far, h.bel.trans hb⟩
theorem set_last (d : List Int) (N X : Int) (n : Nat) (hd : d.length = n) : (d ++ [N]).set n X = d ++ [X] := by
  subst hd
  rw [List.set_append_right _ _ (Nat.le_refl _)]
  simp

/-- what the program's splitting holds between two runes; I: the iterator's block -/
structure SpL (s : ByteArray) (T : List Int) (I : Nat) (w wr : World) (v u : Value) (pos : Nat) (left l d : List Int) (N : Int) (S : Bool) : Prop where
  two : TwoM .i32 .i64 21 3 w.heap.size w wr v u l (d ++ [N])
  iter : wr.heap[I]? = some (.stringIter s pos)
  hI : w.heap.size ≤ I
  off1 : v.ownBlock ≠ some I
  off2 : u.ownBlock ≠ some I
  len : d.length = l.length
  le : l.length ≤ pos
  left_ : LeftR s pos left
  rest : RestU T left l d N S
section
variable {s : ByteArray} {T : List Int} {I : Nat} {w wr W : World} {v u v' u' : Value} {pos : Nat} {left l d : List Int} {N : Int} {S : Bool}
theorem SpL.lt (h : SpL s T I w wr v u pos left l d N S) : I < wr.heap.size := (Array.getElem?_eq_some_iff.1 h.iter).1
/-- the iterator goes on by one rune -/
theorem SpL.next (h : SpL s T I w wr v u pos left l d N S) (p : Nat) : TwoM .i32 .i64 21 3 w.heap.size w (wr.iterAt I s p) v u l (d ++ [N]) ∧ (wr.iterAt I s p).heap[I]? = some (.stringIter s p) ∧ w.heap.size ≤ (wr.iterAt I s p).heap.size :=
  ⟨h.two.block (Lib.below_iterAt (Below.refl _ _) h.hI s p) (fun b _ hne => Lib.iterAt_other wr I b s p hne) h.off1 h.off2, Lib.iterAt_heap wr I s pos p h.iter, by rw [Lib.iterAt_size]; exact h.two.bel.size⟩
end
theorem kept_iter {s : ByteArray} {wr W : World} {v v' : Value} {I p : Nat} (hi : wr.heap[I]? = some (.stringIter s p)) (h : v.ownBlock ≠ some I) (hf : ∀ b, b < wr.heap.size → v.ownBlock ≠ some b → v'.ownBlock ≠ some b ∧ W.heap[b]? = wr.heap[b]?) : W.heap[I]? = some (.stringIter s p) ∧ v'.ownBlock ≠ some I := by
  obtain ⟨a, b⟩ := hf I (Array.getElem?_eq_some_iff.1 hi).1 h
  exact ⟨b.trans hi, a⟩
theorem wrap_digit (R : Int) (h : 48 ≤ R ∧ R ≤ 57) : IntKind.i32.wrap (R - 48) = R - 48 := IntWalk.i32_in _ (by omega)

theorem pz_le : ∀ (t : List Int) (now : Int) (wr : Bool) {z : List Int × List Int}, pz now wr t = some z → z.1.length ≤ t.length
  | [], now, wr, z, h => by simp [pz] at h; subst h; simp
  | c :: t, now, wr, z, h => by
    unfold pz at h
    split at h
    · split at h
      · cases h
      · have := pz_le t _ _ h; simp; omega
    · cases e : pz 0 false t with
      | none => rw [e] at h; cases h
      | some y =>
        rw [e] at h
        simp only [Option.map_some, Option.some.injEq] at h
        subst h
        have := pz_le t 0 false e
        simp; omega

set_option maxRecDepth 20000 in
set_option maxHeartbeats 8000000 in
theorem split_ok (s : ByteArray) (w : World) (hn : s.size ≤ 1000000) (hv : (decP (bytesS s)).2.2 = 0) : Calls Tryd.prog 27 #[.string s] w fun e w' => ParseOf w w' e (pz 0 false (decP (bytesS s)).1) := by
  have HL0 := Lib.hid (left_start hv)
  obtain ⟨T, hT⟩ : ∃ T, (decP (bytesS s)).1 = T := ⟨_, rfl⟩
  rw [hT] at HL0 ⊢
  clear hT hv
  obtain ⟨V, hV⟩ : ∃ V, pz 0 false T = V := ⟨_, rfl⟩
  rw [hV]
  have HV := Lib.hid hV
  clear hV
  go_enter Tryd.func27, Tryd.ntmps27
  go_wp2
  have hstart : SpL s T (w.heap.size + 1) w ((w.alloc (.cells #[.int .i64 0] 3)).alloc (.stringIter s 0)) (.slice none 0 0) (.slice (some ⟨w.heap.size, 0, none⟩) 1 1) 0 T [] [] 0 false := by
    refine ⟨⟨Mine.nil_ _ _ _ _, (Mine.one .i64 3 w w.heap.size 0 (Nat.le_refl _)).alloc _, apart_nil _, ((Below.refl w.heap.size w).alloc (Nat.le_refl _) _).alloc (by simp) _⟩, ?_, by omega, by simp [Value.ownBlock], by simp [Value.ownBlock], rfl, Nat.zero_le _, HL0.out, restU_start T⟩
    have h1 : (w.alloc (.cells #[.int .i64 0] 3)).heap.size = w.heap.size + 1 := by simp
    rw [← h1]
    exact World.iter_heap (w.alloc (.cells #[.int .i64 0] 3)) s 0
  have HST := Lib.hid hstart
  clear hstart HL0
  go_loopw [5, 6, 7] (fun v u b wr => ∃ (pos : Nat) (left l d : List Int) (N : Int) (S : Bool), b = .bool S ∧ SpL s T (w.heap.size + 1) w wr v u pos left l d N S) (fun _ _ _ wr => s.size - wr.iterPos (w.heap.size + 1))
  case atStart => exact ⟨0, T, [], [], 0, false, rfl, HST.out⟩
  case round =>
    clear HST
    obtain ⟨pos, left, l, d, N, S, rfl, H⟩ := hrel
    have hI := H.iter
    have hle := H.le
    have hlen := H.len
    by_cases hp : pos < s.size
    · obtain ⟨left', e, HL', hw1, hw2⟩ := left_step H.left_ hp
      have hnx : ∀ ty, (Instr.next (.pointer (some ⟨w.heap.size + 1, 0, none⟩)) true ty).run Tryd.prog wr = _ := fun ty => Lib.run_next_any_at wr (w.heap.size + 1) s pos ty hI hp
      obtain ⟨D, hD⟩ : ∃ D, Utf8.decode s pos = D := ⟨_, rfl⟩
      obtain ⟨R, wd⟩ := D
      rw [hD] at e hnx HL' hw1 hw2
      simp only at e hnx HL' hw1 hw2
      subst e
      obtain ⟨hT2, hi2, hs2⟩ := H.next (pos + wd)
      obtain ⟨W, hW⟩ : ∃ W, wr.iterAt (w.heap.size + 1) s (pos + wd) = W := ⟨_, rfl⟩
      rw [hW] at hT2 hi2 hs2 hnx
      have h1 := hT2.one
      have h2 := hT2.two
      have ho1 := H.off1
      have ho2 := H.off2
      have HR := Lib.hid H.rest
      have HT2 := Lib.hid hT2
      have HI2 := Lib.hid hi2
      have HLL := Lib.hid HL'
      have HO1 := Lib.hid ho1
      have HO2 := Lib.hid ho2
      have hpos : wr.iterPos (w.heap.size + 1) = pos := by simp [World.iterPos, hI]
      have HPOS := Lib.hid hpos
      have hII := H.hI
      clear hW hI hD H HL' hT2 hi2 ho1 ho2 hpos
      by_cases hd : isD (R : Int)
      · have hdr := hd
        unfold isD at hdr
        cases S
        · have HR2 := Lib.hid (restU_digit HR.out hd)
          obtain ⟨A1, c1, hv1, _, _, _⟩ := h1.size
          subst hv1
          have hx1 : (d ++ [N]).length = l.length + 1 := by simp; omega
          obtain ⟨g, c, hu, hgc, hgB, hgl⟩ := h2.formB (by simp)
          subst hu
          rw [hx1] at h2 HT2 HO2 hgc
          have hset := h2.set l.length (by omega) ((R : Int) - 48)
          rw [set_last d N _ _ hlen] at hset
          have hfz := h2.free l.length
          obtain ⟨y, hcl⟩ : ∃ y, W.cell? ⟨g, l.length, none⟩ = some (.int .i64 y) := ⟨_, h2.cellAt l.length (by omega)⟩
          have hwd := wrap_digit (R : Int) hdr
          have HS : Hid (SpL s T (w.heap.size + 1) w (W.setCell ⟨g, l.length, none⟩ (.int .i64 ((R : Int) - 48))) (.slice A1 l.length c1) (.slice (some ⟨g, 0, none⟩) (l.length + 1) c) (pos + wd) left' l d ((R : Int) - 48) true) := Lib.hid
            ⟨⟨HT2.out.one.stays fun b hb _ => Below.heap_setCell _ _ _ _ (fun e => HT2.out.far b hb (by rw [e]; rfl)), hset, HT2.out.far, HT2.out.bel.setCell (p := ⟨g, l.length, none⟩) hgB _⟩, (Below.heap_setCell _ _ _ _ (fun e => HO2.out (by show some g = _; rw [e]))).trans HI2.out, hII, HO1.out, HO2.out, hlen, by omega, HLL.out, HR2.out⟩
          clear hset h2 h1 HR2 hd
          simp only [hx1]
          clear hx1
          go_wp2
          go_roundw
          case rel => exact ⟨pos + wd, left', l, d, (R : Int) - 48, true, rfl, HS.out⟩
          case measure => simp only [World.iterPos, HS.out.iter]; have := HPOS.out; unfold World.iterPos at this; omega
        · have HN : Hid (none = V) := Lib.hid (by rw [← HV.out]; exact (restU_twice HR.out hd).symm)
          have hbe := HT2.out.bel
          clear h1 h2 HR HT2 hd
          go_wp2
          go_ret3
          rw [← HN.out]
          exact ⟨rfl, hbe⟩
      · have HR2 := Lib.hid (restU_letter HR.out hd)
        have hdr : (R : Int) < 48 ∨ (48 ≤ (R : Int) ∧ 57 < (R : Int)) := by unfold isD at hd; omega
        clear hd
        rcases hdr with hr1 | ⟨hr1, hr2⟩
        · have hr3 : ¬ ((R : Int) ≥ 48) := by omega
          clear hr1
          go_wp2_with (first
            | (at_builtin; refine wpList_push_far rfl _ _ 22 rfl Tryd.underlying22 infoI32 (by omega) w.heap.size _ _ (R : Int) _ h1 rfl rfl hs2 (by omega) ?_; intro v' w3 hM3 hb3 hf3; have HM2 := HT2.out.push1 hM3 hb3 hf3; have hi3 := kept_iter HI2.out HO1.out hf3; have ho3 := (hf3 _ (Array.getElem?_eq_some_iff.1 HI2.out).1 HO1.out); have HI3 := Lib.hid hi3.1; have HO3 := Lib.hid hi3.2; have h22 := HM2.two; have hB2 := HM2.bel.size; have HM2 := Lib.hid HM2; clear hM3 hb3 hf3 h1 h2 hs2 hi3 ho3)
            | (at_builtin; refine wpList_push_far rfl _ _ 23 rfl Tryd.underlying23 infoI64 (by omega) w.heap.size _ _ (0 : Int) _ h22 rfl rfl hB2 (by simp; omega) ?_; intro u' w4 hM4 hb4 hf4; have HM3 := Lib.hid (HM2.out.push2 hM4 hb4 hf4); have hi4 := kept_iter HI3.out HO2.out hf4; have HI4 := Lib.hid hi4.1; have HO4 := Lib.hid hi4.2; clear hM4 hb4 hf4 h22 hB2 hi4))
          have HS : Hid (SpL s T (w.heap.size + 1) w w4 v' u' (pos + wd) left' (l ++ [(R : Int)]) (d ++ [N]) 0 false) := Lib.hid
            ⟨HM3.out, HI4.out, hII, HO3.out, HO4.out, by simp; omega, by simp; omega, HLL.out, HR2.out⟩
          go_roundw
          case rel => exact ⟨pos + wd, left', l ++ [(R : Int)], d ++ [N], 0, false, rfl, HS.out⟩
          case measure => simp only [World.iterPos, HS.out.iter]; have := HPOS.out; unfold World.iterPos at this; omega
        · have hr3 : (R : Int) ≥ 48 := by omega
          have hr4 : ¬ ((R : Int) ≤ 57) := by omega
          clear hr1 hr2
          go_wp2_with (first
            | (at_builtin; refine wpList_push_far rfl _ _ 22 rfl Tryd.underlying22 infoI32 (by omega) w.heap.size _ _ (R : Int) _ h1 rfl rfl hs2 (by omega) ?_; intro v' w3 hM3 hb3 hf3; have HM2 := HT2.out.push1 hM3 hb3 hf3; have hi3 := kept_iter HI2.out HO1.out hf3; have ho3 := (hf3 _ (Array.getElem?_eq_some_iff.1 HI2.out).1 HO1.out); have HI3 := Lib.hid hi3.1; have HO3 := Lib.hid hi3.2; have h22 := HM2.two; have hB2 := HM2.bel.size; have HM2 := Lib.hid HM2; clear hM3 hb3 hf3 h1 h2 hs2 hi3 ho3)
            | (at_builtin; refine wpList_push_far rfl _ _ 23 rfl Tryd.underlying23 infoI64 (by omega) w.heap.size _ _ (0 : Int) _ h22 rfl rfl hB2 (by simp; omega) ?_; intro u' w4 hM4 hb4 hf4; have HM3 := Lib.hid (HM2.out.push2 hM4 hb4 hf4); have hi4 := kept_iter HI3.out HO2.out hf4; have HI4 := Lib.hid hi4.1; have HO4 := Lib.hid hi4.2; clear hM4 hb4 hf4 h22 hB2 hi4))
          have HS : Hid (SpL s T (w.heap.size + 1) w w4 v' u' (pos + wd) left' (l ++ [(R : Int)]) (d ++ [N]) 0 false) := Lib.hid
            ⟨HM3.out, HI4.out, hII, HO3.out, HO4.out, by simp; omega, by simp; omega, HLL.out, HR2.out⟩
          go_roundw
          case rel => exact ⟨pos + wd, left', l ++ [(R : Int)], d ++ [N], 0, false, rfl, HS.out⟩
          case measure => simp only [World.iterPos, HS.out.iter]; have := HPOS.out; unfold World.iterPos at this; omega
    · have he := left_end H.left_ hp
      subst he
      have hnx : ∀ ty, (Instr.next (.pointer (some ⟨w.heap.size + 1, 0, none⟩)) true ty).run Tryd.prog wr = _ := fun ty => Lib.run_next_end_at wr (w.heap.size + 1) s pos ty hI hp
      have HN : Hid (some (l, d ++ [N]) = V) := Lib.hid (by rw [← HV.out]; exact (restU_end H.rest).symm)
      have HT := Lib.hid H.two
      clear H hlen hle
      go_wp2
      go_ret3
      rw [← HN.out]
      exact ⟨_, _, rfl, HT.out.one.sliceV HT.out.bel, HT.out.two.sliceV HT.out.bel⟩

set_option maxRecDepth 20000 in
set_option maxHeartbeats 4000000 in
theorem pparse_ok (s : ByteArray) (w : World) (hn : s.size ≤ 1000000) (hT : Lib.Utf8Tabs 0 1 w) : Calls Tryd.prog 9 #[.string s] w fun e w' => ParseOf w w' e (patS s) := by
  obtain ⟨V, hV⟩ : ∃ V, patS s = V := ⟨_, rfl⟩
  rw [hV]
  unfold patS at hV
  have hval := Tryd.utf8_ValidString s w (by omega) hT
  rw [valid_is] at hval
  by_cases hE : (decP (bytesS s)).2.2 = 0
  · rw [if_pos hE] at hV
    rw [decide_eq_true hE] at hval
    have hsp := fun W => split_ok s W hn hE
    have hlen : (decP (bytesS s)).1.length ≤ 1000000 := by have := decP_len (bytesS s); rw [bytesS_length] at this; omega
    obtain ⟨T, hT2⟩ : ∃ T, (decP (bytesS s)).1 = T := ⟨_, rfl⟩
    rw [hT2] at hV hsp hlen
    unfold parseS at hV
    have hzl : ∀ z, pz 0 false T = some z → z.1.length ≤ 1000000 ∧ z.2.length ≤ 1000001 := fun z hz => by
      have h1 := pz_length T 0 false (l := z.1) (d := z.2) hz
      have h2 := pz_le T 0 false hz
      omega
    cases hz : pz 0 false T with
    | none =>
      rw [hz] at hV hsp
      simp only at hV
      subst hV
      clear hzl hT
      go_enter Tryd.func9, Tryd.ntmps9
      go_wp2_with (first
        | (go_at_call 26; refine hval.mono ?_; rintro e w1 ⟨rfl, hb1⟩)
        | (go_at_call 27; refine (hsp _).mono ?_; rintro e w2 ⟨rfl, hb2⟩))
      go_ret3
      exact ⟨rfl, below_trans hb1 hb2 hb1.size⟩
    | some z =>
      obtain ⟨hz1, hz2⟩ := hzl z hz
      rw [hz] at hV hsp
      simp only at hV
      have HV := Lib.hid hV
      clear hzl hT hV hz
      by_cases hm : mayB z.1 = true
      · by_cases ha : anyP z.2 = true
        · have HN : Hid (V = some z) := Lib.hid (by rw [← HV.out, ha, hm]; rfl)
          go_enter Tryd.func9, Tryd.ntmps9
          go_wp2_with (first
            | (go_at_call 26; refine hval.mono ?_; rintro e w1 ⟨rfl, hb1⟩)
            | (go_at_call 27; refine (hsp _).mono ?_; rintro e w2 ⟨v, u, rfl, hs1, hs2⟩; have HS1 := Lib.hid hs1; have HS2 := Lib.hid hs2; obtain ⟨A1, c1, rfl, hc1, hh1, hb2⟩ := hs1; obtain ⟨A2, c2, rfl, hc2, hh2, hb2'⟩ := hs2; have hcf := hform_ok A1 c1 z.1 w2 hz1 hc1.1 hh1; have hca := containsF_ok A2 c2 _ z.2 w2 rfl (by omega) hh2; rw [hm] at hcf; rw [ha] at hca; clear hc1 hc2 hh1 hh2)
            | (go_at_call 28; refine hcf.mono ?_; rintro e w3 ⟨rfl, rfl⟩)
            | (go_at_call 29; refine hca.mono ?_; rintro e w4 ⟨rfl, rfl⟩))
          go_ret3
          rw [HN.out]
          exact ⟨_, _, rfl, HS1.out.trans hb1, HS2.out.trans hb1⟩
        · have HN : Hid (V = none) := Lib.hid (by rw [← HV.out, if_neg (by simp [ha])])
          replace ha : anyP z.2 = false := by simpa using ha
          go_enter Tryd.func9, Tryd.ntmps9
          go_wp2_with (first
            | (go_at_call 26; refine hval.mono ?_; rintro e w1 ⟨rfl, hb1⟩)
            | (go_at_call 27; refine (hsp _).mono ?_; rintro e w2 ⟨v, u, rfl, hs1, hs2⟩; obtain ⟨A1, c1, rfl, hc1, hh1, hb2⟩ := hs1; obtain ⟨A2, c2, rfl, hc2, hh2, hb2'⟩ := hs2; have hcf := hform_ok A1 c1 z.1 w2 hz1 hc1.1 hh1; have hca := containsF_ok A2 c2 _ z.2 w2 rfl (by omega) hh2; rw [hm] at hcf; rw [ha] at hca; clear hc1 hc2 hh1 hh2)
            | (go_at_call 28; refine hcf.mono ?_; rintro e w3 ⟨rfl, rfl⟩)
            | (go_at_call 29; refine hca.mono ?_; rintro e w4 ⟨rfl, rfl⟩))
          go_ret3
          rw [HN.out]
          exact ⟨rfl, below_trans hb1 hb2 hb1.size⟩
      · have HN : Hid (V = none) := Lib.hid (by rw [← HV.out, if_neg (by simp [hm])])
        replace hm : mayB z.1 = false := by simpa using hm
        go_enter Tryd.func9, Tryd.ntmps9
        go_wp2_with (first
          | (go_at_call 26; refine hval.mono ?_; rintro e w1 ⟨rfl, hb1⟩)
          | (go_at_call 27; refine (hsp _).mono ?_; rintro e w2 ⟨v, u, rfl, hs1, hs2⟩; obtain ⟨A1, c1, rfl, hc1, hh1, hb2⟩ := hs1; obtain ⟨A2, c2, rfl, hc2, hh2, hb2'⟩ := hs2; have hcf := hform_ok A1 c1 z.1 w2 hz1 hc1.1 hh1; rw [hm] at hcf; clear hc1 hc2 hh1 hh2)
          | (go_at_call 28; refine hcf.mono ?_; rintro e w3 ⟨rfl, rfl⟩))
        go_ret3
        rw [HN.out]
        exact ⟨rfl, below_trans hb1 hb2 hb1.size⟩
  · rw [if_neg hE] at hV
    subst hV
    rw [decide_eq_false hE] at hval
    clear hT
    go_enter Tryd.func9, Tryd.ntmps9
    go_wp2_with (go_at_call 26; refine hval.mono ?_; rintro e w1 ⟨rfl, hb1⟩)
    go_ret3
    exact ⟨rfl, hb1⟩
end Go.Proofs.YtekjejbcdnghjaaDoor
