/-
  Contract of the document's right (which way an FSI's isolate runs); what its Levels holds between two rounds. Condition: at most 1000 classes.
-/
import Derived.Test.YtjdkpnmejkbkiaaXrf
import Derived.Test.YtjdkpnmejkbkiaaRfst
import Derived.Test.YtjdkpnmejkbkiaaXsj
set_option linter.unusedVariables false
set_option linter.unusedSimpArgs false
namespace Go.Proofs.Ytjdkpnmejkbkiaa
open Go.ChangeShapes Go.WideShapes Go.ChangeAt Go.RowKit Go.Sort

set_option maxRecDepth 20000 in
set_option maxHeartbeats 4000000 in
theorem rright_ok (A AM : Option Addr) (n c cM i : Nat) (cs : List Int) (w : World) (hn : n = cs.length) (hc : n ≤ c) (hmax : n ≤ 1000) (hi : i < n) (ho : opnC (cs.getD i 0) = true) (h : Has w w.heap.size A (cs.map (Value.int .i64))) (hM : Has w w.heap.size AM ((matL cs).map (Value.int .i64))) :
    Calls Try.prog 25 #[.slice A n c, .slice AM n cM, .int .i64 i] w fun e w' => e = .returned (.bool (raC (fstI 0 (cs.drop (i + 1))))) ∧ Below w.heap.size w w' := by
  have hml : (matL cs).length = n := by rw [mat_len, hn]
  obtain ⟨b, off, rfl, hb, hcell⟩ := hM.at_int (k := i) (by omega)
  rw [← getD_get] at hcell
  have hfi := first_iso (cs := cs) i (by omega) ho
  have hen : ((matL cs).getD i 0 = -1 ∧ endI cs i = n) ∨ (0 ≤ (matL cs).getD i 0 ∧ endI cs i = (matL cs).getD i 0 ∧ (matL cs).getD i 0 < n) := by
    rcases (inv_mat cs cs.length).vals i (by omega) with hv | ⟨k, k1, k2, _⟩
    · have hv' : (matL cs).getD i 0 = -1 := hv
      exact .inl ⟨hv', by unfold endI; rw [hv', if_pos (by decide), hn]⟩
    · have k1' : (matL cs).getD i 0 = k := k1
      exact .inr ⟨by omega, by unfold endI; rw [k1', if_neg (by omega)], by omega⟩
  have HF := Lib.hid (rfirst_ok A n c cs ((i : Int) + 1) (endI cs i) w hn hc hmax h)
  rw [hfi] at HF
  obtain ⟨E, hE⟩ : ∃ E, endI cs i = E := ⟨_, rfl⟩
  rw [hE] at HF hen
  generalize fstI 0 (cs.drop (i + 1)) = V at *
  generalize (matL cs).getD i 0 = M at *
  clear hfi hn h hM hml ho hE
  have HR : Hid (raC V = (V == 2 || V == 3)) := Lib.hid rfl
  generalize raC V = R at *
  have hq : (V == 2) = true ∨ ((V == 2) = false ∧ ∃ q, (V == 3) = q ∧ R = q) := by
    cases h2 : (V == 2) with
    | true => exact .inl rfl
    | false => exact .inr ⟨rfl, _, rfl, by rw [HR.out, h2]; rfl⟩
  rcases hen with ⟨rfl, rfl⟩ | ⟨h0, rfl, h1⟩
  · rcases hq with h2 | ⟨h2, q, h3, rfl⟩
    · have HR2 : Hid (R = true) := Lib.hid (by rw [HR.out, h2]; rfl)
      go_enter Try.func25, Try.ntmps25
      go_wp2_with (go_at_call 43; refine HF.out.mono ?_; rintro e u ⟨rfl, hbu⟩)
      go_ret
      exact ⟨by rw [HR2.out]; rfl, hbu⟩
    · have H3 := Lib.hid h3
      clear HR
      go_enter Try.func25, Try.ntmps25
      go_wp2_with (go_at_call 43; refine HF.out.mono ?_; rintro e u ⟨rfl, hbu⟩)
      go_ret
      exact ⟨rfl, hbu⟩
  · have h0' : ¬ E < 0 := by omega
    rcases hq with h2 | ⟨h2, q, h3, rfl⟩
    · have HR2 : Hid (R = true) := Lib.hid (by rw [HR.out, h2]; rfl)
      go_enter Try.func25, Try.ntmps25
      go_wp2_with (go_at_call 43; refine HF.out.mono ?_; rintro e u ⟨rfl, hbu⟩)
      go_ret
      exact ⟨by rw [HR2.out]; rfl, hbu⟩
    · have H3 := Lib.hid h3
      clear HR
      go_enter Try.func25, Try.ntmps25
      go_wp2_with (go_at_call 43; refine HF.out.mono ?_; rintro e u ⟨rfl, hbu⟩)
      go_ret
      exact ⟨rfl, hbu⟩

def vOf (A : Option Addr) (c : Nat) (s : Xs) : Value := .agg #[.slice A s.l.length c, .int .i64 (s.isos : Int), .int .i64 (s.embs : Int), .int .i64 (s.vals : Int)]
/-- the document's Levels between two rounds: the matches, two slices that grow, the state in a box -/
structure Rv (w : World) (G : Nat) (A : Option Addr) (c : Nat) (VM v8 v9 : Value) (M lv cl : List Int) (s : Xs) (W : World) : Prop where
  mat : Mine .i64 3 W w.heap.size VM M
  lev : Mine .i64 3 W w.heap.size v8 lv
  out : Mine .i64 3 W w.heap.size v9 cl
  hat : At W G 46 #[.slice A s.l.length c, .int .i64 (s.isos : Int), .int .i64 (s.embs : Int), .int .i64 (s.vals : Int)]
  hc : s.l.length ≤ c
  stk : HasN LE W W.heap.size A s.l
  far : ∀ a, A = some a → a.block ≠ G ∧ v8.ownBlock ≠ some a.block ∧ v9.ownBlock ≠ some a.block
  apart : Apart v8 v9
  m8 : Apart VM v8
  m9 : Apart VM v9
  gM : VM.ownBlock ≠ some G
  g8 : v8.ownBlock ≠ some G
  g9 : v9.ownBlock ≠ some G
  lo : w.heap.size ≤ G
  below : Below w.heap.size w W
  ne : s.l ≠ []
section
variable {w W u : World} {G : Nat} {A : Option Addr} {c : Nat} {VM v8 v9 : Value} {M lv cl : List Int} {s s2 : Xs}
theorem Rv.rst (h : Rv w G A c VM v8 v9 M lv cl s W) : RSt W (vOf A c s) s := ⟨A, c, rfl, h.hc, h.stk⟩
theorem Rv.carry (h : Rv w G A c VM v8 v9 M lv cl s W) (hb : Below W.heap.size W u) : Rv w G A c VM v8 v9 M lv cl s u :=
  ⟨h.mat.below hb, h.lev.below hb, h.out.below hb, h.hat.bel hb, h.hc, h.stk.carry hb, h.far, h.apart, h.m8, h.m9, h.gM, h.g8, h.g9, h.lo, h.below.trans (hb.mono h.below.size), h.ne⟩
/-- another state is stored over the elder one -/
theorem Rv.turnW {v' : Value} (h : Rv w G A c VM v8 v9 M lv cl s W) (hb : Below W.heap.size W u) (hr : RSt u v' s2) (hf : Far W (vOf A c s) v') (hne2 : s2.l ≠ []) :
    ∃ A2 c2, v' = .agg #[.slice A2 s2.l.length c2, .int .i64 (s2.isos : Int), .int .i64 (s2.embs : Int), .int .i64 (s2.vals : Int)] ∧ (∃ old : Array Value, At u G 46 old ∧ old.size = 4) ∧
      ∀ W5, At W5 G 46 #[.slice A2 s2.l.length c2, .int .i64 (s2.isos : Int), .int .i64 (s2.embs : Int), .int .i64 (s2.vals : Int)] → (∀ k, k ≠ G → W5.heap[k]? = u.heap[k]?) → u.heap.size ≤ W5.heap.size → Below w.heap.size u W5 → Rv w G A2 c2 VM v8 v9 M lv cl s2 W5 := by
  obtain ⟨A2, c2, rfl, k1, k2⟩ := hr
  have h2 := h.carry hb
  have far2 : ∀ a, A2 = some a → ∀ b, b < W.heap.size → (∀ a0, A = some a0 → a0.block ≠ b) → a.block ≠ b := fun a ha b hb1 hb2 e => by
    subst ha
    refine hf b hb1 (fun e1 => ?_) (by show some a.block = some b; rw [e])
    cases A with
    | none => cases e1
    | some a0 =>
      have e2 : some a0.block = some b := e1
      injection e2 with e2
      exact hb2 a0 rfl e2
  refine ⟨A2, c2, rfl, ⟨_, h2.hat, rfl⟩, fun W5 hat5 hother hsz hbel => ⟨h2.mat.stays fun b hb1 _ => hother b (fun e => h2.gM (by rw [hb1, e])), h2.lev.stays fun b hb1 _ => hother b (fun e => h2.g8 (by rw [hb1, e])), h2.out.stays fun b hb1 _ => hother b (fun e => h2.g9 (by rw [hb1, e])), hat5, k1,
    k2.stays hsz fun a ha _ => hother _ (far2 a ha G h.hat.lt fun a0 ha0 => (h.far a0 ha0).1), fun a ha => ⟨far2 a ha G h.hat.lt fun a0 ha0 => (h.far a0 ha0).1, fun e => ?_, fun e => ?_⟩, h.apart, h.m8, h.m9, h.gM, h.g8, h.g9, h.lo, h2.below.trans hbel, hne2⟩⟩
  · exact far2 a ha a.block (h.lev.own_lt _ e).2 (fun a0 ha0 e1 => (h.far a0 ha0).2.1 (by rw [e1]; exact e)) rfl
  · exact far2 a ha a.block (h.out.own_lt _ e).2 (fun a0 ha0 e1 => (h.far a0 ha0).2.2 (by rw [e1]; exact e)) rfl
theorem Rv.turn {v' : Value} (h : Rv w G A c VM v8 v9 M lv cl s W) (hb : Below W.heap.size W u) (hr : RSt u v' s2) (hf : Far W (vOf A c s) v') (hne2 : s2.l ≠ []) :
    ∃ A2 c2, v' = .agg #[.slice A2 s2.l.length c2, .int .i64 (s2.isos : Int), .int .i64 (s2.embs : Int), .int .i64 (s2.vals : Int)] ∧ (∃ old : Array Value, At u G 46 old ∧ old.size = 4) ∧
      ∃ W5, u.setRow G #[.slice A2 s2.l.length c2, .int .i64 (s2.isos : Int), .int .i64 (s2.embs : Int), .int .i64 (s2.vals : Int)] = W5 ∧ Rv w G A2 c2 VM v8 v9 M lv cl s2 W5 := by
  obtain ⟨A2, c2, h1, h2, h3⟩ := h.turnW hb hr hf hne2
  obtain ⟨old, o1, o2⟩ := h2
  exact ⟨A2, c2, h1, ⟨old, o1, o2⟩, _, rfl, h3 _ (setRow_heap _ _ _ _ _ _ o1) (fun k hk => setRow_other _ _ _ _ hk) (by simp) ⟨rfl, rfl, rfl, by simp, fun k hk => setRow_other _ _ _ _ (by have := h.lo; omega)⟩⟩
/-- the same, cell by cell -/
theorem Rv.turn4 {v' : Value} (h : Rv w G A c VM v8 v9 M lv cl s W) (hb : Below W.heap.size W u) (hr : RSt u v' s2) (hf : Far W (vOf A c s) v') (hne2 : s2.l ≠ []) :
    ∃ A2 c2, v' = .agg #[.slice A2 s2.l.length c2, .int .i64 (s2.isos : Int), .int .i64 (s2.embs : Int), .int .i64 (s2.vals : Int)] ∧
      ∃ W5, (((u.setCell ⟨G, 0, none⟩ (.slice A2 s2.l.length c2)).setCell ⟨G, 1, none⟩ (.int .i64 (s2.isos : Int))).setCell ⟨G, 2, none⟩ (.int .i64 (s2.embs : Int))).setCell ⟨G, 3, none⟩ (.int .i64 (s2.vals : Int)) = W5 ∧ Rv w G A2 c2 VM v8 v9 M lv cl s2 W5 := by
  obtain ⟨A2, c2, h1, _, h3⟩ := h.turnW hb hr hf hne2
  have h2 := (h.carry hb).hat
  refine ⟨A2, c2, h1, _, rfl, h3 _ ((((h2.setCell 0 (.slice A2 s2.l.length c2)).setCell 1 (.int .i64 (s2.isos : Int))).setCell 2 (.int .i64 (s2.embs : Int))).setCell 3 (.int .i64 (s2.vals : Int))) (fun k hk => ?_) (by simp) ((((Below.refl _ _).setCell h.lo _).setCell h.lo _).setCell h.lo _ |>.setCell h.lo _)⟩
  rw [Below.heap_setCell _ _ _ _ hk, Below.heap_setCell _ _ _ _ hk, Below.heap_setCell _ _ _ _ hk, Below.heap_setCell _ _ _ _ hk]
theorem Rv.push8 {v' : Value} {x : Int} (h : Rv w G A c VM v8 v9 M lv cl s W) (hM : Mine .i64 3 u w.heap.size v' (lv ++ [x])) (hb : Below w.heap.size W u) (hfar : ∀ b, b < W.heap.size → v8.ownBlock ≠ some b → v'.ownBlock ≠ some b ∧ u.heap[b]? = W.heap[b]?) : Rv w G A c VM v' v9 M (lv ++ [x]) cl s u := by
  have hG := hfar G h.hat.lt h.g8
  refine ⟨h.mat.stays fun b h1 h2 => (hfar b h2 (h.m8 b h1)).2, hM, h.out.stays fun b h1 h2 => (hfar b h2 (fun e => h.apart b e h1)).2, by unfold At; rw [hG.2]; exact h.hat, h.hc, h.stk.stays hb.size fun a ha hl => (hfar _ hl (h.far a ha).2.1).2, fun a ha => ?_, fun b h1 h2 => ?_, fun b h1 h2 => ?_, h.m9, h.gM, hG.1, h.g9, h.lo, h.below.trans hb, h.ne⟩
  · obtain ⟨f1, f2, f3⟩ := h.far a ha
    refine ⟨f1, ?_, f3⟩
    rcases Nat.lt_or_ge a.block W.heap.size with hl | hl
    · exact (hfar _ hl f2).1
    · intro e
      obtain ⟨b, off, e1, hlt, _⟩ := h.stk h.ne
      rw [ha] at e1
      injection e1 with e1
      have hab : a.block = b := by rw [e1]
      omega
  · exact (hfar b (h.out.own_lt b h2).2 (fun e => h.apart b e h2)).1 h1
  · exact (hfar b (h.mat.own_lt b h1).2 (h.m8 b h1)).1 h2
theorem Rv.push9 {v' : Value} {x : Int} (h : Rv w G A c VM v8 v9 M lv cl s W) (hM : Mine .i64 3 u w.heap.size v' (cl ++ [x])) (hb : Below w.heap.size W u) (hfar : ∀ b, b < W.heap.size → v9.ownBlock ≠ some b → v'.ownBlock ≠ some b ∧ u.heap[b]? = W.heap[b]?) : Rv w G A c VM v8 v' M lv (cl ++ [x]) s u := by
  have hG := hfar G h.hat.lt h.g9
  refine ⟨h.mat.stays fun b h1 h2 => (hfar b h2 (h.m9 b h1)).2, h.lev.stays fun b h1 h2 => (hfar b h2 (h.apart b h1)).2, hM, by unfold At; rw [hG.2]; exact h.hat, h.hc, h.stk.stays hb.size fun a ha hl => (hfar _ hl (h.far a ha).2.2).2, fun a ha => ?_, fun b h1 h2 => ?_, h.m8, fun b h1 h2 => ?_, h.gM, h.g8, hG.1, h.lo, h.below.trans hb, h.ne⟩
  · obtain ⟨f1, f2, f3⟩ := h.far a ha
    refine ⟨f1, f2, ?_⟩
    obtain ⟨b, off, e1, hlt, _⟩ := h.stk h.ne
    rw [ha] at e1
    injection e1 with e1
    have hab : a.block = b := by rw [e1]
    exact (hfar _ (by omega) f3).1
  · exact (hfar b (h.lev.own_lt b h1).2 (h.apart b h1)).1 h2
  · exact (hfar b (h.mat.own_lt b h1).2 (h.m9 b h1)).1 h2
end
end Go.Proofs.Ytjdkpnmejkbkiaa
