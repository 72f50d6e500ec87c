/-
  The stack of entries as it lies in memory, the program's state in a block of its own: what a call leaves of it. No condition.
-/
import Derived.Test.YtjdkpnmejkbkiaaRow
import Derived.Test.YtjdkpnmejkbkiaaXpl
import Derived.Test.YtjdkpnmejkbkiaaLast
set_option linter.unusedVariables false
set_option linter.unusedSimpArgs false
namespace Go.Proofs.Ytjdkpnmejkbkiaa
open Go.ChangeShapes Go.WideShapes Go.ChangeAt Go.RowKit Go.Sort

section
variable {w : World} {g : Nat} {t : TypeId} {cs : Array Value}
theorem At.free (h : At w g t cs) (j : Nat) : w.frozen? ⟨g, j, none⟩ = false := by
  unfold At at h
  simp [World.frozen?, h]
theorem At.setCell (h : At w g t cs) (j : Nat) (v : Value) : At (w.setCell ⟨g, j, none⟩ v) g t (cs.setIfInBounds j v) := by
  have hlt := h.lt
  unfold At at *
  have h' : w.heap[g] = .cells cs t (0, 0) := by simpa [Array.getElem?_eq_getElem hlt] using h
  show (w.heap.modify g _)[g]? = _
  rw [Array.getElem?_eq_getElem (by simpa using hlt), Array.getElem_modify_self, h']
  rfl
theorem At.setCellTo (h : At w g t cs) (j : Nat) (v : Value) (cs' : Array Value) (he : cs.setIfInBounds j v = cs') : At (w.setCell ⟨g, j, none⟩ v) g t cs' := he ▸ h.setCell j v
theorem At.other (h : At w g t cs) (p : Addr) (v : Value) (hp : g ≠ p.block) : At (w.setCell p v) g t cs := by
  unfold At
  rw [Below.heap_setCell _ _ _ _ hp]; exact h
end
theorem grown_cell {W : World} {g : Nat} {t : TypeId} {cs : Array Value} (h : At W g t cs) (j : Nat) (v : Value) (hv : cs[j]? = some v) : ∀ n os, (grow (W.drewN n) os).cell? ⟨g, j, none⟩ = some v := fun n os => cell_grown h.lt (h.cell j v hv) n os
theorem up_grown {f : Nat} {args : Array Value} {v : Value} (h : ∀ w, Calls Try.prog f args w fun e w' => e = .returned v ∧ Up w w') : ∀ w, Calls Try.prog f args w fun e w' => e = .returned v ∧ ∃ q os', w' = grow (w.drewN q) os' :=
  fun w => (h w).mono fun _ _ ⟨he, hu⟩ => ⟨he, hu.grow⟩
theorem Try.info46 : (Try.prog.info? 46).map (·.size) = some 4 := by kernel_rfl
theorem Try.info49 : (Try.prog.info? 49).map (·.size) = some 3 := by kernel_rfl
theorem wp_region_last_lit {P : Program} {id : Nat} {Q : Exit → Act → World → Prop} {a : Act} {w : World} (L : List Oper) (o0 : Oper) (hL : L = L.dropLast ++ [L.getLastD o0]) (hm : P.follows .mixedOrders = true) (hg : (L.getLastD o0).guard = none) (hd : (L.getLastD o0).dst = none)
    (hB : (Region.lexB .any (L.dropLast ++ [idle (L.getLastD o0)]).toArray && backB (L.dropLast ++ [L.getLastD o0]) && backB (L.dropLast ++ [idle (L.getLastD o0)]) && waitsB L.dropLast.length (L.getLastD o0)) = true)
    (h : wpQuiet P L.toArray (fun w' => ∃ p : GrownBy, w' = grow (w.drewN p.n) p.os) (fun a' => ∀ w', (∃ p : GrownBy, w' = grow (w.drewN p.n) p.os) → (L.getLastD o0).wp P a' w' (fun a'' w'' => Q .normal a'' w'') Q) L.dropLast a) : (Code.region id L.toArray true).wp P Q a w :=
  wp_region_last_grown L.dropLast (L.getLastD o0) L.toArray (by rw [← hL]) hm hg hd hB h

/-- how an entry lies: level, override, isolate -/
def LE : Lay En where
  row := fun e => [.int .i64 (e.lv : Int), .int .i64 (e.ov : Int), .bool e.iso]
  C := 3
  len := fun _ => rfl
  one := fun e u hu => by simp at hu; rcases hu with rfl | rfl | rfl <;> rfl
def entV (e : En) : Value := .agg #[.int .i64 (e.lv : Int), .int .i64 (e.ov : Int), .bool e.iso]
/-- the cells of an entry of a slice -/
theorem HasN.ent {w : World} {B : Nat} {A : Option Addr} {l : List En} (h : HasN LE w B A l) {i : Nat} {e : En} (hi : l[i]? = some e) :
    ∃ b off, A = some ⟨b, off, none⟩ ∧ b < B ∧ w.cell? ⟨b, off + i * 3, none⟩ = some (.int .i64 (e.lv : Int)) ∧ w.cell? ⟨b, off + i * 3 + 1, none⟩ = some (.int .i64 (e.ov : Int)) ∧ w.cell? ⟨b, off + i * 3 + 2, none⟩ = some (.bool e.iso) := by
  obtain ⟨b, off, e1, hb, hc⟩ := h (fun e => by subst e; simp at hi)
  exact ⟨b, off, e1, hb, hc i e hi 0 _ rfl, hc i e hi 1 _ rfl, hc i e hi 2 _ rfl⟩
theorem last_get (l : List En) (q : Nat) (h : l.length = q + 1) : l[q]? = some (lastE l) := by
  have hne : l ≠ [] := fun e => by subst e; simp at h
  have hs := split_last l hne
  have hd : l.dropLast.length = q := by rw [List.length_dropLast, h]; rfl
  rw [hs, List.getElem?_append_right (by omega), hd, Nat.sub_self, ← hs]
  rfl
theorem lastE_split (l : List En) : lastE (l.dropLast ++ [lastE l]) = lastE l := lastE_snoc _ _

section
variable {B : Nat} {w w' : World} {g : Nat} {s : Xs}
end
end Go.Proofs.Ytjdkpnmejkbkiaa
