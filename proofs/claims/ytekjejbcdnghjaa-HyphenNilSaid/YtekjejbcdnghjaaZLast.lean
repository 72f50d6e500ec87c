/-
  A region that draws its order, whose operations but the last only read (and whose callees lay blocks of their own), the last one waiting for all others: one walk in the order of the text serves, and the last is taken in any world of the class. No condition.
-/
import Derived.Test.YtekjejbcdnghjaaRows
import Derived.Shelf.SlSortCmp.QuietGrown
import Derived.BigQuiet
set_option linter.unusedVariables false
namespace Go.Proofs.Ytekjejbcdnghjaa
open Go.Sort

section
variable {P : Program} {C : World → Prop}
/-- the last one, told as one that does nothing -/
def idle (s : Oper) : Oper := { s with op := .move (.const undef) }
theorem idle_after (s : Oper) : (idle s).after = s.after := rfl
theorem last_at (l : List Oper) (s : Oper) : (l ++ [s]).toArray[l.length]? = some s := by simp
theorem other_at (l : List Oper) (s s' : Oper) (i : Nat) (h : i ≠ l.length) : (l ++ [s]).toArray[i]? = (l ++ [s']).toArray[i]? := by
  simp only [List.getElem?_toArray]
  rcases Nat.lt_or_ge i l.length with h1 | h1
  · rw [List.getElem?_append_left h1, List.getElem?_append_left h1]
  · rw [List.getElem?_eq_none (by simp; omega), List.getElem?_eq_none (by simp; omega)]
theorem yielded_idle (l : List Oper) (s : Oper) (tmps : Array Value) : yielded (l ++ [idle s]).toArray tmps = yielded (l ++ [s]).toArray tmps := by
  funext j
  unfold yielded
  by_cases h : j = l.length
  · subst h
    rw [last_at, last_at]; rfl
  · rw [other_at l (idle s) s j h]
theorem put_none (a : Act) (v : Value) : a.put none v = a := rfl

theorem quiet_idle (s : Oper) (hg : s.guard = none) (hd : s.dst = none) {Q : Act → Prop} {ops : Array Oper} : ∀ (l : List Oper) (a : Act), wpQuiet P ops C Q l a → wpQuiet P ops C Q (l ++ [idle s]) a
  | [], a, h => by
    have hw : Region.wanted (idle s) (yielded ops a.tmps) = true := by unfold Region.wanted idle; rw [hg]
    show wpQuiet P ops C Q [idle s] a
    unfold wpQuiet
    rw [if_pos hw]
    refine BigFrame.quiet_move (.const undef) rfl ?_
    show wpQuiet P ops C Q [] (a.put s.dst _)
    rw [hd]
    exact h
  | o :: l, a, h => by
    show wpQuiet P ops C Q (o :: (l ++ [idle s])) a
    unfold wpQuiet at h ⊢
    split at h
    · rename_i hw
      rw [if_pos hw]
      exact Oper.quiet_mono (fun a' h' => quiet_idle s hg hd l a' h') h
    · rename_i hw
      rw [if_neg hw]
      exact quiet_idle s hg hd l _ h
theorem quiet_ops {Q : Act → Prop} {ops ops' : Array Oper} (hy : ∀ tmps, yielded ops tmps = yielded ops' tmps) : ∀ (l : List Oper) (a : Act), wpQuiet P ops C Q l a → wpQuiet P ops' C Q l a
  | [], a, h => h
  | o :: l, a, h => by
    unfold wpQuiet at h ⊢
    rw [← hy]
    split at h
    · rename_i hw
      rw [if_pos hw]
      exact Oper.quiet_mono (fun a' h' => quiet_ops hy l a' h') h
    · rename_i hw
      rw [if_neg hw]
      exact quiet_ops hy l _ h

/-- every operation waits for earlier ones only -/
def backB (ops : List Oper) : Bool := (List.range ops.length).all fun k => match ops[k]? with | none => true | some o => o.after.all fun e => !Region.binds .any e || decide (e.on < k)
/-- the last one waits for all -/
def waitsB (n : Nat) (s : Oper) : Bool := (List.range n).all fun j => s.after.any fun e => Region.binds .any e && e.on == j
theorem all_listed {ops : List Oper} {listed : Array Bool} (hb : backB ops = true) (hs : listed.size = ops.length) (hr : Region.ready .any ops.toArray listed = []) : ∀ k, k < ops.length → listed.getD k true = true := by
  intro k
  induction k using Nat.strongRecOn with
  | _ k ih =>
    intro hk
    cases hl : listed.getD k true with
    | true => rfl
    | false =>
      exfalso
      have : k ∈ Region.ready .any ops.toArray listed := by
        refine mem_ready.2 ⟨hl, ops[k], by simp [hk], fun e he hbi => ?_⟩
        unfold backB at hb
        rw [List.all_eq_true] at hb
        have h1 := hb k (List.mem_range.2 hk)
        rw [List.getElem?_eq_getElem hk] at h1
        simp only at h1
        rw [Array.all_eq_true'] at h1
        have h2 := h1 e he
        rw [hbi] at h2
        simp at h2
        have h3 := ih e.on h2 (by omega)
        have h4 : e.on < listed.size := by omega
        rw [Array.getD_eq_getD_getElem?, Array.getElem?_eq_getElem h4] at h3 ⊢
        simpa using h3
      rw [hr] at this
      cases this

theorem any_of_last (l : List Oper) (s : Oper) (hg : s.guard = none) (hd : s.dst = none) (hb : backB (l ++ [s]) = true) (hb' : backB (l ++ [idle s]) = true) (hw : waitsB l.length s = true) {Q : Exit → Act → World → Prop} :
    ∀ (fuel : Nat) (listed : Array Bool) (a : Act) (w : World), C w → listed.size = l.length + 1 → listed.getD l.length true = false →
      wpAnyQ P .any (l ++ [idle s]).toArray C (fun a' => ∀ w', C w' → s.wp P a' w' (fun a'' w'' => Q .normal a'' w'') Q) fuel listed a → wpAny P .any (l ++ [s]).toArray Q fuel listed a w
  | 0, listed, a, w, hC, hs, hl, h => by
    exfalso
    have := all_listed hb' (by simpa using hs) h.1 l.length (by simp)
    rw [hl] at this; cases this
  | fuel + 1, listed, a, w, hC, hs, hl, h => by
    have key : ∀ s', (s' = s ∨ s' = idle s) → Region.ready .any (l ++ [s']).toArray listed = [] → False := fun s' hs' hr => by
      have := all_listed (ops := l ++ [s']) (by rcases hs' with rfl | rfl; exact hb; exact hb') (by simpa using hs) hr l.length (by simp)
      rw [hl] at this; cases this
    have hready : ∀ i, i ∈ Region.ready .any (l ++ [s]).toArray listed → i ∈ Region.ready .any (l ++ [idle s]).toArray listed := fun i hi => by
      obtain ⟨h1, o, h2, h3⟩ := mem_ready.1 hi
      refine mem_ready.2 ⟨h1, ?_⟩
      by_cases he : i = l.length
      · subst he
        rw [last_at] at h2 ⊢
        injection h2 with h2
        subst h2
        exact ⟨_, rfl, h3⟩
      · rw [other_at l (idle s) s i he]
        exact ⟨o, h2, h3⟩
    refine ⟨fun hr => (key s (.inl rfl) hr).elim, fun i hi => ?_⟩
    have hq := h.2 i (hready i hi)
    by_cases he : i = l.length
    · subst he
      obtain ⟨_, o, ho, hall⟩ := mem_ready.1 hi
      rw [last_at] at ho
      injection ho with ho
      subst ho
      -- every other one is listed
      have hlist : ∀ j, j < l.length → listed.getD j false = true := fun j hj => by
        unfold waitsB at hw
        rw [List.all_eq_true] at hw
        have h1 := hw j (List.mem_range.2 hj)
        rw [Array.any_eq_true'] at h1
        obtain ⟨e, he, h2⟩ := h1
        simp only [Bool.and_eq_true, beq_iff_eq] at h2
        rw [← h2.2]
        exact hall e he h2.1
      have hnil : ∀ ops : Array Oper, ops.size = l.length + 1 → Region.ready .any ops (listed.setIfInBounds l.length true) = [] := fun ops hsz => by
        refine List.eq_nil_iff_forall_not_mem.2 fun j hj => ?_
        obtain ⟨h1, o, h2, _⟩ := mem_ready.1 hj
        have hjs : j < ops.size := by
          rcases Nat.lt_or_ge j ops.size with h3 | h3
          · exact h3
          · rw [Array.getElem?_eq_none h3] at h2; cases h2
        by_cases hjl : j = l.length
        · subst hjl
          simp [hs] at h1
        · rw [getD_set_ne true (Ne.symm hjl)] at h1
          have h3 := hlist j (by omega)
          have h4 : j < listed.size := by omega
          rw [Array.getD_eq_getD_getElem?, Array.getElem?_eq_getElem h4] at h1 h3
          simp at h1 h3
          rw [h1] at h3; cases h3
      have h2 : s.wp P a w (fun a'' w'' => Q .normal a'' w'') Q := by
        unfold qOp at hq
        rw [last_at] at hq
        have hwn : Region.wanted (idle s) (yielded (l ++ [idle s]).toArray a.tmps) = true := by unfold Region.wanted idle; rw [hg]
        simp only [hwn, if_true] at hq
        obtain ⟨v, _, hn⟩ := hq
        have hn' : wpAnyQ P .any (l ++ [idle s]).toArray C (fun a' => ∀ w', C w' → s.wp P a' w' (fun a'' w'' => Q .normal a'' w'') Q) fuel (listed.setIfInBounds l.length true) a := by
          have : a.put (idle s).dst v = a := by show a.put s.dst v = a; rw [hd]; rfl
          rwa [this] at hn
        cases fuel with
        | zero => exact hn'.2 w hC
        | succ f => exact hn'.1 (hnil _ (by simp)) w hC
      unfold wpOp
      rw [last_at]
      have hwn : Region.wanted s (yielded (l ++ [s]).toArray a.tmps) = true := by unfold Region.wanted; rw [hg]
      simp only [hwn, if_true]
      refine .inl (Oper.wp_mono (fun a' w' hQ => ?_) h2)
      cases fuel with
      | zero => exact ⟨hnil _ (by simp), hQ⟩
      | succ f => exact ⟨fun _ => hQ, fun j hj => by rw [hnil _ (by simp)] at hj; cases hj⟩
    · have hq2 : qOp P (l ++ [s]).toArray C i (wpAnyQ P .any (l ++ [idle s]).toArray C (fun a' => ∀ w', C w' → s.wp P a' w' (fun a'' w'' => Q .normal a'' w'') Q) fuel (listed.setIfInBounds i true)) a := by
        unfold qOp at hq ⊢
        rw [other_at l s (idle s) i he, ← yielded_idle l s]
        exact hq
      refine wpOp_of_qOp hC (fun a' w' hC' hK => any_of_last l s hg hd hb hb' hw fuel _ a' w' hC' (by simpa using hs) ?_ hK) hq2
      rw [getD_set_ne true he]
      exact hl

theorem wp_region_last {id : Nat} {Q : Exit → Act → World → Prop} {a : Act} {w : World} (l : List Oper) (s : Oper) (hm : P.follows .mixedOrders = true) (hg : s.guard = none) (hd : s.dst = none)
    (hB : (Region.lexB .any (l ++ [idle s]).toArray && backB (l ++ [s]) && backB (l ++ [idle s]) && waitsB l.length s) = true) (hC : C { w with drawn := w.drawn + 1 })
    (h : wpQuiet P (l ++ [s]).toArray C (fun a' => ∀ w', C w' → s.wp P a' w' (fun a'' w'' => Q .normal a'' w'') Q) l a) : (Code.region id (l ++ [s]).toArray true).wp P Q a w := by
  simp only [Bool.and_eq_true] at hB
  obtain ⟨⟨⟨h1, h2⟩, h3⟩, h4⟩ := hB
  simp only [Region.lexB, Bool.and_eq_true] at h1
  refine wp_region_any hm ?_
  have hsz : (l ++ [s]).toArray.size = (l ++ [idle s]).length := by simp
  rw [hsz]
  refine any_of_last (C := C) l s hg hd h2 h3 h4 _ _ _ _ hC (by simp) (by simp) ?_
  have hq := quiet_idle s hg hd l a (quiet_ops (fun t => (yielded_idle l s t).symm) l a h)
  have := wpAnyQ_lex (P := P) (C := C) (md := .any) h1.1 (l ++ [idle s]) 0 (Array.replicate (l ++ [idle s]).toArray.size false) a (by simp) (by simpa using h1.2) hq
  simpa using this
end
/-- at the class 'w after some draws, with some blocks laid behind it' -/
theorem wp_region_last_grown {P : Program} {id : Nat} {Q : Exit → Act → World → Prop} {a : Act} {w : World} (l : List Oper) (s : Oper) (L : Array Oper) (hL : L = (l ++ [s]).toArray) (hm : P.follows .mixedOrders = true) (hg : s.guard = none) (hd : s.dst = none)
    (hB : (Region.lexB .any (l ++ [idle s]).toArray && backB (l ++ [s]) && backB (l ++ [idle s]) && waitsB l.length s) = true)
    (h : wpQuiet P L (fun w' => ∃ p : GrownBy, w' = grow (w.drewN p.n) p.os) (fun a' => ∀ w', (∃ p : GrownBy, w' = grow (w.drewN p.n) p.os) → s.wp P a' w' (fun a'' w'' => Q .normal a'' w'') Q) l a) : (Code.region id L true).wp P Q a w := by
  subst hL
  exact wp_region_last (C := fun w' => ∃ p : GrownBy, w' = grow (w.drewN p.n) p.os) l s hm hg hd hB ⟨⟨1, #[]⟩, by rw [grow_empty]; rfl⟩ h
end Go.Proofs.Ytekjejbcdnghjaa
