/-
  Contracts of slices.Clone at ints and of the program's Resolve. Conditions: at most 1000 characters, sos is L or R.
-/
import Derived.Test.YtlopddiplmjpfaaBso
import Derived.Test.YtlopddiplmjpfaaBpd
import Derived.Test.YtlopddiplmjpfaaBsw
import Derived.Test.YtlopddiplmjpfaaPush
import Derived.Deep.RegionHeld3
import Derived.Lib.SliceRun
set_option linter.unusedVariables false
set_option linter.unusedSimpArgs false
namespace Go.Proofs.Ytlopddiplmjpfaa
open Go.ChangeShapes Go.WideShapes Go.ChangeAt Go.RowKit Go.Sort

theorem has_none {w : World} {B : Nat} {k : IntKind} {xs : List Int} (h : Has w B none (xs.map (Value.int k))) : xs = [] := by
  rcases xs with _ | ⟨y, ys⟩
  · rfl
  · obtain ⟨b, off, e, _⟩ := h (by simp)
    cases e
theorem eqnil (a : Option Addr) (n c n' c' : Nat) (w : World) : (binOp .eql 23 (.slice a n c) (.slice none n' c')).run Try.prog w = .ok (.bool a.isNone) w := Lib.run_eql_slice_nil w _ _ a n c n' c' Try.underlying23
set_option maxHeartbeats 1000000 in
theorem clone_ok (A : Option Addr) (n c : Nat) (xs : List Int) (w : World) (hn : n = xs.length) (hmax : n ≤ 1000) (h : Has w w.heap.size A (xs.map (Value.int .i64))) :
    Calls Try.prog 26 #[.slice A n c] w fun e w' => ∃ v, e = .returned v ∧ Mine .i64 3 w' w.heap.size v xs ∧ Below w.heap.size w w' := by
  cases A with
  | none =>
    obtain rfl := has_none h
    simp only [List.length_nil] at hn
    subst hn
    have q := eqnil none 0 c 0 0
    go_enter Try.func26, Try.ntmps26
    go_wp2
    go_ret
    exact ⟨_, rfl, Mine.nil_ _ _ _ _, Below.refl _ _⟩
  | some a =>
    have hm0 : Mine .i64 3 (w.alloc (.cells #[] 3)) w.heap.size (.slice (some ⟨w.heap.size, 0, none⟩) 0 0) [] := World.ownsRow_made w #[] 0 (Nat.le_refl _) (Nat.zero_le _) (by simp)
    have hb0 : Below w.heap.size w (w.alloc (.cells #[] 3)) := (Below.refl _ _).alloc (Nat.le_refl _) _
    have hh := h.carry hb0
    have HN := Lib.hid hn
    have q := eqnil (some a) n c 0 0
    clear h hn
    go_enter Try.func26, Try.ntmps26
    go_wp2_with (first
      | (at_builtin; refine wpList_pushall (k := .i64) (bytes := 8) rfl _ _ 23 rfl Try.underlying23 fullI (by decide) w.heap.size _ [] xs w _ (some a) n c HN.out (fun e => by cases e) hh hm0 rfl rfl hb0 hb0.size (by simp) (by have := HN.out; omega) ?_; intro v' w1 hM hb1 _))
    go_ret
    exact ⟨_, rfl, by simpa using hM, hb1⟩

theorem Mine.hasAt {k : IntKind} {e : TypeId} {w : World} {B : Nat} {A : Option Addr} {n c : Nat} {xs : List Int} (h : Mine k e w B (.slice A n c) xs) : n = xs.length ∧ Has w w.heap.size A (xs.map (Value.int k)) := by
  obtain ⟨A', c', hv, hh⟩ := h.reads
  injection hv with h1 h2 h3
  subst h1
  exact ⟨h2, hh⟩
theorem Mine.room {k : IntKind} {e : TypeId} {w : World} {B : Nat} {g n c : Nat} {xs : List Int} (h : Mine k e w B (.slice (some ⟨g, 0, none⟩) n c) xs) : n ≤ c := by
  have hn := h.hasAt.1
  rcases h.2 with ⟨hx, _⟩ | ⟨g', cap, cur, hx, _, hg, hc, _⟩
  · cases hx
  · injection hx with h1 h2 h3
    subst h3
    omega
theorem rise_len : ∀ (l : List (Nat × Nat)) (lo n : Nat), l.Pairwise (fun p q => p.1 < q.1) → (∀ p ∈ l, lo ≤ p.1 ∧ p.1 < n) → l.length ≤ n - lo
  | [], lo, n, _, _ => Nat.zero_le _
  | p :: l, lo, n, h, hb => by
    rw [List.pairwise_cons] at h
    have h1 := hb p (by simp)
    have ih := rise_len l (p.1 + 1) n h.2 (fun q hq => ⟨h.1 q hq, (hb q (by simp [hq])).2⟩)
    rw [List.length_cons]
    omega
theorem PairsV.len {ts cs : List Int} {l : List (Nat × Nat)} (h : PairsV ts cs l) : l.length ≤ ts.length := by
  by_cases e : ts.length = cs.length
  · exact rise_len l 0 ts.length (h.2 e).1 (fun p hp => by obtain ⟨_, h3, h4, _⟩ := h.at p hp; omega)
  · rw [h.1 e]; exact Nat.zero_le _
/-- the classes behind the first j pairs -/
theorem resL_take (t : List Int) (own sos : Int) (l : List (Nat × Nat)) (cs : List Int) (j : Nat) (p : Nat × Nat) (h : l[j]? = some p) : resL t own sos (l.take (j + 1)) cs = res1 t own sos (resL t own sos (l.take j) cs) p := by
  rw [List.take_add_one, h]
  exact resL_snoc t own sos (l.take j) p cs

set_option maxRecDepth 20000 in
set_option maxHeartbeats 8000000 in
theorem resolve_ok (A C : Option Addr) (ca cc n nc : Nat) (level sos : Int) (ts cs : List Int) (w : World) (hn : n = ts.length) (hnc : nc = cs.length) (hmax : n ≤ 1000) (hs : sos = 1 ∨ sos = 2)
    (ht : Has w w.heap.size A (ts.map (Value.int .i32))) (hk : Has w w.heap.size C (cs.map (Value.int .i64))) :
    Calls Try.prog 13 #[.slice A n ca, .slice C nc cc, .int .i64 level, .int .i64 sos] w fun e w' => ∃ l, PairsV ts cs l ∧ SliceOf .i64 w w' e (if n = nc then resL ts (ownB level) sos l cs else []) := by
  by_cases hne : n = nc
  rotate_left
  · have hd : ((n : Int) != (nc : Int)) = true := by simp; omega
    have HP : Hid (PairsV ts cs []) := Lib.hid ⟨fun _ => rfl, fun e => absurd (by omega) hne⟩
    simp only [if_neg hne]
    clear hn hnc ht hk hne
    go_enter Try.func13, Try.ntmps13
    go_wp2
    go_ret
    exact ⟨[], HP.out, _, rfl, sliceV_nil _ _ _ (Below.refl _ _)⟩
  subst hne
  simp only [if_true]
  have HN := Lib.hid hn
  have HC := Lib.hid hnc
  have HO := Lib.hid (ownB_or level)
  have HOL := Lib.hid (fun w => ofLevel_ok level w)
  have HSS := Lib.hid hs
  have HTA : Hid (∀ a, A = some a → ts ≠ [] → a.block < w.heap.size) := Lib.hid (fun a ha hne => by
    obtain ⟨b, off, e, hb, _⟩ := ht (by simpa using hne)
    rw [ha] at e
    injection e with e
    rw [e]; exact hb)
  have HT := Lib.hid (fun (w' : World) (hu : Below w.heap.size w w') => (ht.below hu).more hu.size)
  have HCL := Lib.hid (clone_ok C n cc cs w hnc hmax hk)
  have HPA := Lib.hid (fun w' (hu : Below w.heap.size w w') => pairs_ok A C ca cc n n ts cs w' hn hnc hmax ((ht.below hu).more hu.size) ((hk.below hu).more hu.size))
  clear hn hnc ht hk hs
  generalize ownB level = own at *
  go_enter Try.func13, Try.ntmps13
  go_wp2_with (first
    | (go_at_call 26; refine HCL.out.mono ?_; rintro e u1 ⟨v9, rfl, hv9, hb1⟩)
    | (go_at_call 10; refine (HPA.out _ hb1).mono ?_; rintro e u2 ⟨l, ⟨v22, rfl, hv22, hb2⟩, hl⟩; obtain ⟨A2, c2, rfl, hlc2, hfr2, hh2⟩ := hv22.has))
  have hown9 := fun b hb => (hv9.own_lt b hb).2
  have hM9 := hv9.stays (w' := u2) (fun b _ hl => hb2.block b hl)
  have hb3 := below_trans hb1 hb2 hb1.size
  have HL := Lib.hid hl
  have H9 : Hid (∀ b, v9.ownBlock = some b → b < u1.heap.size) := Lib.hid hown9
  have HB2 := Lib.hid hb2.size
  obtain ⟨m, hm⟩ : ∃ m, l.length = m := ⟨_, rfl⟩
  rw [hm] at hv22 hlc2 ⊢
  have HM := Lib.hid hm
  have hm1000 : m ≤ 1000 := by have := hl.len; have := HN.out; omega
  go_loopw [24] (fun v wr => ∃ (j : Nat), j ≤ m ∧ v = .int .i64 j ∧ Hid (Mine .i64 3 wr w.heap.size v9 (resL ts own sos (l.take j) cs) ∧ MineP wr u1.heap.size (.slice A2 m c2) l ∧ Below w.heap.size w wr ∧ u1.heap.size ≤ wr.heap.size)) (fun v _ => m - (intOf v).toNat)
  case atStart => exact ⟨0, by omega, rfl, Lib.hid ⟨hM9, hv22, hb3, HB2.out⟩⟩
  case round =>
    clear hM9 hv22 hb3 hb1 hb2 hv9 hl hown9 hh2 hfr2 hlc2 hm
    obtain ⟨j, hj, rfl, HS⟩ := hrel
    by_cases hlt : j < m
    · have hjl : j < l.length := by have := HM.out; omega
      have hxj : l[j]? = some l[j] := List.getElem?_eq_getElem hjl
      generalize l[j] = p at hxj
      obtain ⟨a, b⟩ := p
      obtain ⟨hee, hab, hbn, _, _⟩ := HL.out.at (a, b) (List.mem_of_getElem? hxj)
      have hstep := resL_take ts own sos l cs j (a, b) hxj
      have hlen : (resL ts own sos (l.take j) cs).length = n := by rw [resL_len]; exact HC.out.symm
      obtain ⟨g2, c2', hv2, _, hBg2, _, hcell⟩ := HS.out.2.1.form (by intro e; rw [e] at hjl; simp at hjl)
      injection hv2 with e1 e2 e3
      subst e1; subst e3
      obtain ⟨p0, p1⟩ := hcell j (a, b) hxj
      rw [Nat.zero_add] at p0 p1
      have q0 : wr.cell? ⟨g2, j * 2, none⟩ = some (.int .i64 (a : Int)) := p0
      have q1 : wr.cell? ⟨g2, j * 2 + 1, none⟩ = some (.int .i64 (b : Int)) := p1
      simp only at hab hbn
      have hbn2 : b < n := by rw [HN.out]; exact hbn
      generalize resL ts own sos (l.take j) cs = cur at *
      obtain ⟨g, cap, hv, hBg, hgw, _⟩ := HS.out.1.form (by intro e; rw [e] at hlen; simp at hlen; omega)
      rw [hlen] at hv
      subst hv
      have hgB := H9.out g rfl
      have hgg : g ≠ g2 := by omega
      have HLEN := Lib.hid hlen
      have HSTEP := Lib.hid hstep
      obtain ⟨d, hd⟩ : ∃ d, wayB cur (a, b) own sos = d := ⟨_, rfl⟩
      have HPD : Hid (∀ W, Below wr.heap.size wr W → Calls Try.prog 27 #[.slice (some ⟨g, 0, none⟩) n cap, .agg #[.int .i64 (a : Int), .int .i64 (b : Int)], .int .i64 own, .int .i64 sos] W fun e w' => e = .returned (.int .i64 d) ∧ Below W.heap.size W w') :=
        Lib.hid (fun W hb => by
          have hm := HS.out.1.stays (w' := W) (fun x _ hl => hb.block x hl)
          rw [← hd]
          exact pairDir_ok (some ⟨g, 0, none⟩) cap n a b own sos cur W HLEN.out.symm hmax hm.room hab hbn2 HO.out HSS.out hm.hasAt.2)
      have HTU : Hid (∀ W (i : Nat) xs, Mine .i64 3 W w.heap.size (.slice (some ⟨g, 0, none⟩) n cap) xs → i < n → Below w.heap.size w W → Calls Try.prog 29 #[.slice A n ca, .slice (some ⟨g, 0, none⟩) n cap, .int .i64 (i : Int), .int .i64 d] W fun e w' => e = .returned (.tuple #[]) ∧ Mine .i64 3 w' w.heap.size (.slice (some ⟨g, 0, none⟩) n cap) (putC ts d i xs) ∧ Below w.heap.size W w' ∧ Keeps g W w') :=
        Lib.hid (fun W i xs hm hi hb => turn_ok A ca g cap n i w.heap.size d ts xs W HN.out hm.hasAt.1 hmax hi (fun ad ha => by have := HTA.out ad ha (by intro e; rw [e] at hbn; simp at hbn); omega) (HT.out W hb) hm)
      have hBw := HS.out.2.2.1.size
      clear hxj hstep hlen hee p0 p1 hcell e2
      by_cases hd0 : d = 0
      · have HR : Hid (res1 ts own sos cur (a, b) = cur) := Lib.hid (by unfold res1; rw [if_pos (by rw [hd]; exact hd0)])
        clear hd HTU
        subst hd0
        have HS2 := HS
        clear HS
        go_wp2_with (first
          | (refine wpList_store_at rfl 35 _ _ rfl wr.heap.size #[.int .i64 a, .int .i64 b] rfl rfl 35 _ (at_new _ _ _) infoPair rfl (by simp [Value.oneCell']) wr ((Up.refl wr).alloc _) (Nat.le_refl _) ?_; intro w1 hat hoth hsz hU1; have r0 := hat.cell 0 _ rfl; have r1 := hat.cell 1 _ rfl; have hgl := hat.lt; clear hoth hsz))
        have hbd : Below w1.heap.size w1 w1.drew := (Below.refl _ _).drew
        go_region_held3 (fun w' => w'.cell? ⟨wr.heap.size, 0, none⟩ = some (.int .i64 a) ∧ w'.cell? ⟨wr.heap.size, 1, none⟩ = some (.int .i64 b))
          (first
            | go_keep
            | exact ⟨(hbX.cell (p := ⟨wr.heap.size, 0, none⟩) hgl).trans r0, (hbX.cell (p := ⟨wr.heap.size, 1, none⟩) hgl).trans r1⟩)
          (first
            | (go_at_call 28; refine (HOL.out _).mono ?_; rintro e wL ⟨rfl, rfl⟩)
            | (go_at_call 27; refine (HPD.out _ (below_trans hU1.1 hbd hU1.1.size)).mono ?_; rintro e wX ⟨rfl, hbX0⟩; have hbX := below_trans hbd hbX0 hbd.size))
        have hbwX := below_trans hU1.1 hbX hU1.1.size
        clear r0 r1
        go_wp2
        go_roundw
        case rel =>
          obtain ⟨s1, s2, s3, s4⟩ := HS2.out
          exact ⟨j + 1, by omega, by go_num, Lib.hid ⟨by rw [HSTEP.out, HR.out]; exact s1.stays (fun x _ hl => hbwX.block x hl), s2.stays (fun x _ hl => hbwX.block x hl), below_trans s3 hbwX s3.size, Nat.le_trans s4 hbwX.size⟩⟩
        case measure => simp [intOf] <;> omega
      · have HR : Hid (res1 ts own sos cur (a, b) = putC ts d b (putC ts d a cur)) := Lib.hid (by unfold res1; rw [if_neg (by rw [hd]; exact hd0), hd])
        have hdz : (d == 0) = false := by simpa using hd0
        clear hd hd0
        have HS2 := HS
        clear HS
        go_wp2_with (first
          | (refine wpList_store_at rfl 35 _ _ rfl wr.heap.size #[.int .i64 a, .int .i64 b] rfl rfl 35 _ (at_new _ _ _) infoPair rfl (by simp [Value.oneCell']) wr ((Up.refl wr).alloc _) (Nat.le_refl _) ?_; intro w1 hat hoth hsz hU1; have r0 := hat.cell 0 _ rfl; have r1 := hat.cell 1 _ rfl; have hgl := hat.lt; clear hoth hsz))
        have hbd : Below w1.heap.size w1 w1.drew := (Below.refl _ _).drew
        go_region_held3 (fun w' => w'.cell? ⟨wr.heap.size, 0, none⟩ = some (.int .i64 a) ∧ w'.cell? ⟨wr.heap.size, 1, none⟩ = some (.int .i64 b))
          (first
            | go_keep
            | exact ⟨(hbX.cell (p := ⟨wr.heap.size, 0, none⟩) hgl).trans r0, (hbX.cell (p := ⟨wr.heap.size, 1, none⟩) hgl).trans r1⟩)
          (first
            | (go_at_call 28; refine (HOL.out _).mono ?_; rintro e wL ⟨rfl, rfl⟩)
            | (go_at_call 27; refine (HPD.out _ (below_trans hU1.1 hbd hU1.1.size)).mono ?_; rintro e wX ⟨rfl, hbX0⟩; have hbX := below_trans hbd hbX0 hbd.size))
        have hbwX := below_trans hU1.1 hbX hU1.1.size
        have t0 := (hbX.cell (p := ⟨wr.heap.size, 0, none⟩) hgl).trans r0
        have t1 := (hbX.cell (p := ⟨wr.heap.size, 1, none⟩) hgl).trans r1
        have hmX := HS2.out.1.stays (w' := wX) (fun x _ hl => hbwX.block x hl)
        have hBX := below_trans HS2.out.2.2.1 hbwX HS2.out.2.2.1.size
        have hszX := hbX.size
        have HAB : Hid (a < n) := Lib.hid (by omega)
        clear r0 r1
        go_wp2_with (first
          | (go_at_call 29; refine (HTU.out _ a cur hmX HAB.out hBX).mono ?_; rintro e w3 ⟨rfl, hm3, hb3, hk3⟩; have t2 := (World.cell?_of_block (a := ⟨wr.heap.size, 1, none⟩) (hk3.2 wr.heap.size (Nat.lt_of_lt_of_le hgl hszX) (by omega))).trans t1; clear t0 t1 hmX)
          | (go_at_call 29; refine (HTU.out _ b (putC ts d a cur) hm3 hbn2 (hBX.trans hb3)).mono ?_; rintro e w4 ⟨rfl, hm4, hb4, hk4⟩))
        go_roundw
        case rel =>
          obtain ⟨s1, s2, s3, s4⟩ := HS2.out
          refine ⟨j + 1, by omega, by go_num, Lib.hid ⟨by rw [HSTEP.out, HR.out]; exact hm4, ?_, (hBX.trans hb3).trans hb4, Nat.le_trans s4 (Nat.le_trans hbwX.size (Nat.le_trans hk3.1 hk4.1))⟩⟩
          refine (s2.stays (w' := wX) (fun x _ hl => hbwX.block x hl)).stays (fun x hx hl => ?_)
          have hx2 : some g2 = some x := hx
          injection hx2 with hx2
          subst hx2
          rw [hk4.2 _ (Nat.lt_of_lt_of_le hl hk3.1) (Ne.symm hgg), hk3.2 _ hl (Ne.symm hgg)]
        case measure => simp [intOf] <;> omega
    · obtain rfl : j = m := by omega
      have hM9 := HS.out.1
      have hb := HS.out.2.2.1
      rw [show l.take j = l by rw [← HM.out]; exact List.take_length] at hM9
      clear HS
      go_wp2
      go_ret
      exact ⟨l, HL.out, _, rfl, hM9.sliceV hb⟩
end Go.Proofs.Ytlopddiplmjpfaa
