/-
  Contract of the document's Runs. Condition: at most 1000 classes, as many levels.
-/
import Derived.Test.YtjdkpnmejkbkiaaSqx
set_option linter.unusedVariables false
set_option linter.unusedSimpArgs false
namespace Go.Proofs.Ytjdkpnmejkbkiaa
open Go.ChangeShapes Go.WideShapes Go.ChangeAt Go.RowKit Go.Sort

set_option maxRecDepth 20000 in
set_option maxHeartbeats 4000000 in
theorem rcuts_ok (A AL : Option Addr) (n c cL b : Nat) (cs : List Int) (w : World) (hn : n = cs.length) (hmax : n ≤ 1000) (h : Has w w.heap.size A (cs.map (Value.int .i64))) (hL : Has w w.heap.size AL ((lvs (lvF b cs) n).map (Value.int .i64))) :
    Calls Try.prog 14 #[.slice A n c, .slice AL n cL] w fun e w' => ∃ v, e = .returned v ∧ MineN LCu 41 w' w.heap.size v (cutsR (rsL b cs)) ∧ Below w.heap.size w w' := by
  have HR := Lib.hid (rruns_ok A AL n c cL (lvF b cs) cs w hn hmax h hL)
  have hrs : runsF (lvF b cs) (keptL cs n) = rsL b cs := by rw [hn]; rfl
  rw [hrs] at HR
  have hfew : (rsL b cs).length ≤ n := by rw [← hrs]; exact runs_len (lvF b cs) cs n
  have HX := Lib.hid (rs_x b cs)
  have hla : ∀ k, k < (rsL b cs).length → laR (rsL b cs) k < 1000 := fun k hk => by have := la_lt (b := b) (cs := cs) hk; omega
  have hrl : ∀ k (hk : k < (rsL b cs).length), ((rsL b cs).getD k []).length ≤ 1000 := fun k hk => by
    have h8 := sorted_len _ 0 cs.length ((rs_x b cs).sort k) (fun y hy => ⟨Nat.zero_le _, (in_kept hy).1⟩)
    rcases h8 with h8 | h8
    · omega
    · rw [h8]; simp
  have HLA := Lib.hid hla
  have HRL := Lib.hid hrl
  clear hn h hL hrs hla hrl
  go_enter Try.func14, Try.ntmps14
  go_wp2_with (go_at_call 34; (refine HR.out.mono ?_); rintro e W1 ⟨v6, rows, rfl, hN, hb1⟩)
  obtain ⟨A6, c6, hv6, hc6, _, _⟩ := hN.own.has
  obtain ⟨R, hRe⟩ : ∃ R, (rsL b cs).length = R := ⟨_, rfl⟩
  rw [hN.len, hRe] at hv6
  subst hv6
  have HRe := Lib.hid hRe
  rw [hRe] at hfew
  have HN1 := Lib.hid (fun (W : World) (hb : Below W1.heap.size W1 W) => hN.below hb)
  have HB1 := Lib.hid hb1
  clear HR hN hb1 hc6 hRe
  go_loopw [5, 7] (fun v5 v7 wr => ∃ i : Nat, i ≤ R ∧ v7 = .int .i64 i ∧ Hid (MineN LCu 41 wr W1.heap.size v5 ((cutsR (rsL b cs)).take i) ∧ Below W1.heap.size W1 wr)) (fun _ v7 _ => R - (intOf v7).toNat)
  case atStart => exact ⟨0, by omega, rfl, Lib.hid ⟨MineN.nil_ _ _ _, Below.refl _ _⟩⟩
  case round =>
    obtain ⟨i, hi, rfl, HS⟩ := hrel
    obtain ⟨h5, hb⟩ := HS.out
    clear HS
    by_cases hlt : i < R
    · have hir : i < (rsL b cs).length := by have := HRe.out; omega
      obtain ⟨g, cg, r, hv, hr, hg1, hg2, k1, k2, k3, k4⟩ := (HN1.out _ hb).row hir
      injection hv with e1 e2 e3
      subst e1; subst e3
      clear e2
      rw [← getD_at hir] at k2 k4
      obtain ⟨m, hm⟩ : ∃ m, ((rsL b cs).getD i []).length = m + 1 := ⟨((rsL b cs).getD i []).length - 1, by have := List.length_pos_iff.2 (HX.out.ne i hir); omega⟩
      have hm1 : m < 1000 := by have := HRL.out i hir; omega
      obtain ⟨A', n', c'⟩ := r
      simp only at k1 k2 k3 k4
      rw [hm] at k2
      subst k2
      obtain ⟨bi, oi, rfl, hbi, f1⟩ := k4.at_int (k := 0) (by rw [ints_len]; omega)
      obtain ⟨bi', oi', hA9, hbi', f2⟩ := k4.at_int (k := m) (by rw [ints_len]; omega)
      injection hA9 with hA9
      injection hA9 with e5 e6
      subst e5; subst e6
      rw [ints_head] at f1
      rw [ints_last _ m hm] at f2
      have f1' : wr.cell? ⟨bi, oi, none⟩ = some (.int .i64 (hdR (rsL b cs) i : Int)) := f1
      have f2' : wr.cell? ⟨bi, oi + m, none⟩ = some (.int .i64 (laR (rsL b cs) i : Int)) := f2
      have hlab := HLA.out i hir
      have hcg := cutsR_get (rsL b cs) i hir
      have htk := take_snoc (cutsR (rsL b cs)) i _ hcg
      obtain ⟨T, hT⟩ : ∃ T, (cutsR (rsL b cs)).take i = T := ⟨_, rfl⟩
      have hTl : T.length ≤ 1000000 := by rw [← hT, List.length_take]; omega
      rw [hT] at htk h5
      have HS2 : Hid (∀ w2 v', MineN LCu 41 w2 W1.heap.size v' (T ++ [((hdR (rsL b cs) i : Int), (laR (rsL b cs) i : Int) + 1)]) → Below W1.heap.size wr w2 → MineN LCu 41 w2 W1.heap.size v' ((cutsR (rsL b cs)).take (i + 1)) ∧ Below W1.heap.size W1 w2) := Lib.hid fun w2 v' g1 g2 => ⟨by rw [htk]; exact g1, hb.trans g2⟩
      generalize hdR (rsL b cs) i = hd at *
      generalize laR (rsL b cs) i = la at *
      obtain ⟨A5, c5, hv5, _, _, _⟩ := h5.has
      have hBs := hb.size
      have i0 : (0 : Int) ≤ (i : Int) := by omega
      have i1 : (i : Int) < (R : Int) := by omega
      have p2 : (m : Int) + 1 - 1 = m := by omega
      have p3 : (m : Int) < (m : Int) + 1 := by omega
      have p4 : (0 : Int) ≤ (m : Int) := by omega
      have p5 : IntKind.i64.wrap (m : Int) = m := Go.IntWalk.i64_in _ (by omega)
      have p6 : IntKind.i64.wrap ((la : Int) + 1) = (la : Int) + 1 := Go.IntWalk.i64_in _ (by omega)
      have p7 : (0 : Int) < (m : Int) + 1 := by omega
      subst hv5
      clear f1 f2 k4 htk hT hcg hm k3
      go_wp2
      go_region_law ((refine stepN_push (R := LCu) (y := ((hd : Int), (la : Int) + 1)) (by rfl) _ _ 32 (by rfl) _ Try.underlying32 fullCu rfl (by decide) (by decide) W1.heap.size _ T wr.heap.size (MineN.alloc (h5.drewN _) _) (by rfl) (by rfl) (cells_newN (R := LCu) (wr.drewN _) ((hd : Int), (la : Int) + 1) _) (by simp; omega) hTl ?_; intro v' w3 hM hb3 hfar))
      all_goals
        have hS := HS2.out w3 v' hM (((below_drewN (Below.refl _ _) _).alloc hBs _).trans hb3)
        clear hM hb3 hfar HS2
        go_wp2
        go_roundw
        case rel => exact ⟨i + 1, by omega, by go_num, Lib.hid hS⟩
        case measure => simp [intOf] <;> omega
    · obtain rfl : i = R := by omega
      have hfin : (cutsR (rsL b cs)).take i = cutsR (rsL b cs) := by rw [← HRe.out, ← cutsR_len, List.take_length]
      rw [hfin] at h5
      go_wp2
      go_ret
      exact ⟨_, rfl, h5.low HB1.out.size, below_trans HB1.out hb HB1.out.size⟩
end Go.Proofs.Ytjdkpnmejkbkiaa
