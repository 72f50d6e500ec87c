/-
  The library's FullRune and DecodeRune, and the program's 'truncated' and 'form', at any bytes, in the document's words. No condition beside the library's tables.
-/
import Derived.Test.YtcegaelpbeefaaaDoorFull
set_option linter.unusedVariables false
namespace Go.Proofs.YtcegaelpbeefaaaDoor
open Go.ChangeShapes Go.WideShapes Go.ChangeAt Go.RowKit

/-- a list of bytes as the library tells it -/
def bytesOf (s : List Int) : ByteArray := ⟨(s.map fun z => UInt8.ofNat z.toNat).toArray⟩
theorem bytesOf_size (s : List Int) : (bytesOf s).size = s.length := by simp [bytesOf, ByteArray.size]
theorem bytesOf_get (s : List Int) (hb : ByteZ s) (j : Nat) (hj : j < s.length) : (((bytesOf s).get! j).toNat : Int) = s.getD j 0 := by
  have hz := hb s[j] (List.getElem_mem hj)
  have e : (bytesOf s).get! j = UInt8.ofNat (s[j]).toNat := by
    show (bytesOf s).data[j]! = _
    rw [getElem!_pos (bytesOf s).data j (by simpa [bytesOf] using hj)]
    simp [bytesOf]
  rw [e, List.getD_eq_getElem?_getD, List.getElem?_eq_getElem hj]
  simp
  omega
theorem ByteZ.get {s : List Int} (h : ByteZ s) (j : Nat) : 0 ≤ s.getD j 0 ∧ s.getD j 0 ≤ 255 := by
  rw [List.getD_eq_getElem?_getD]
  by_cases hj : j < s.length
  · rw [List.getElem?_eq_getElem hj]; exact h _ (List.getElem_mem hj)
  · rw [List.getElem?_eq_none (by omega)]; simp
theorem ByteZ.drop {s : List Int} (h : ByteZ s) (k : Nat) : ByteZ (s.drop k) := fun z hz => h z (List.mem_of_mem_drop hz)
theorem ByteZ.take {s : List Int} (h : ByteZ s) (k : Nat) : ByteZ (s.take k) := fun z hz => h z (List.mem_of_mem_take hz)
theorem Has.getD_cell {w : World} {B : Nat} {A : Option Addr} {q : IntKind} {s : List Int} (h : Has w B A (s.map (Value.int q))) (hne : s ≠ []) :
    ∃ b off, A = some ⟨b, off, none⟩ ∧ b < B ∧ ∀ j, j < s.length → w.cell? ⟨b, off + j, none⟩ = some (.int q (s.getD j 0)) := by
  obtain ⟨b, off, e, hb, hc⟩ := h (by simpa using hne)
  refine ⟨b, off, e, hb, fun j hj => hc j _ ?_⟩
  rw [List.getElem?_map, List.getElem?_eq_getElem hj, List.getD_eq_getElem?_getD, List.getElem?_eq_getElem hj]
  rfl

theorem tab_first {w : World} (hT : Lib.Utf8Tabs 0 1 w) (x : Int) (h0 : 0 ≤ x) (h1 : x ≤ 255) : w.cell? ⟨0, x.toNat, none⟩ = some (.int .u8 (Lib.firstT x.toNat)) := hT.1 _ (by omega)
theorem tabs_below {w w' : World} (hT : Lib.Utf8Tabs 0 1 w) (hb : Below w.heap.size w w') : Lib.Utf8Tabs 0 1 w' := by
  refine ⟨fun c hc => ?_, fun i hi => ?_⟩
  · have h := hT.1 c hc
    rw [hb.cell (p := ⟨0, c, none⟩) (block_lt_of_cell h)]; exact h
  · have h := hT.2 i hi
    exact ⟨by rw [hb.cell (p := ⟨1, 2 * i, none⟩) (block_lt_of_cell h.1)]; exact h.1, by rw [hb.cell (p := ⟨1, 2 * i + 1, none⟩) (block_lt_of_cell h.2)]; exact h.2⟩

theorem toNat_get {s : List Int} (hb : ByteZ s) (j : Nat) : ((s.getD j 0).toNat : Int) = s.getD j 0 := by have := hb.get j; omega

/-- the first byte's class -/
theorem first_long (x : Nat) (h : x < 256) : (Lib.firstT x = 240 ∧ longP x = 1) ∨ (Lib.firstT x = 241 ∧ longP x = 0) ∨ (Lib.firstT x = 2 ∧ longP x = 2 ∧ loP x = 128 ∧ hiP x = 191) ∨
    (Lib.firstT x = 19 ∧ longP x = 3 ∧ loP x = 160 ∧ hiP x = 191) ∨ (Lib.firstT x = 3 ∧ longP x = 3 ∧ loP x = 128 ∧ hiP x = 191) ∨ (Lib.firstT x = 35 ∧ longP x = 3 ∧ loP x = 128 ∧ hiP x = 159) ∨
    (Lib.firstT x = 52 ∧ longP x = 4 ∧ loP x = 144 ∧ hiP x = 191) ∨ (Lib.firstT x = 4 ∧ longP x = 4 ∧ loP x = 128 ∧ hiP x = 191) ∨ (Lib.firstT x = 68 ∧ longP x = 4 ∧ loP x = 128 ∧ hiP x = 143) := by
  unfold Lib.firstT longP loP hiP
  by_cases a1 : x < 128
  · left; constructor <;> (repeat' split) <;> omega
  by_cases a2 : x < 194 ∨ 244 < x
  · right; left; constructor <;> (repeat' split) <;> omega
  by_cases a3 : x < 224
  · right; right; left; refine ⟨?_, ?_, ?_, ?_⟩ <;> (repeat' split) <;> omega
  by_cases a4 : x = 224
  · right; right; right; left; refine ⟨?_, ?_, ?_, ?_⟩ <;> (repeat' split) <;> omega
  by_cases a5 : x = 237
  · right; right; right; right; right; left; refine ⟨?_, ?_, ?_, ?_⟩ <;> (repeat' split) <;> omega
  by_cases a6 : x < 240
  · right; right; right; right; left; refine ⟨?_, ?_, ?_, ?_⟩ <;> (repeat' split) <;> omega
  by_cases a7 : x = 240
  · right; right; right; right; right; right; left; refine ⟨?_, ?_, ?_, ?_⟩ <;> (repeat' split) <;> omega
  by_cases a8 : x = 244
  · right; right; right; right; right; right; right; right; refine ⟨?_, ?_, ?_, ?_⟩ <;> (repeat' split) <;> omega
  · right; right; right; right; right; right; right; left; refine ⟨?_, ?_, ?_, ?_⟩ <;> (repeat' split) <;> omega

/-- FullRune at any bytes -/
theorem full_ok (A : Option Addr) (c : Nat) (s : List Int) (w : World) (hT : Lib.Utf8Tabs 0 1 w) (hb : ByteZ s) (hne : s ≠ []) (h : Has w w.heap.size A (s.map (Value.int .u8))) :
    Calls Tryd.prog 43 #[.slice A s.length c] w fun e w' => e = .returned (.bool (!truncP s)) ∧ Below w.heap.size w w' := by
  obtain ⟨b, off, rfl, hlt, hc⟩ := h.getD_cell hne
  have hn : 1 ≤ s.length := by cases s with | nil => exact absurd rfl hne | cons a l => simp
  have g0 := hb.get 0
  have g1 := hb.get 1
  have g2 := hb.get 2
  have c0 := hc 0 (by omega)
  have e0 := toNat_get hb 0
  have e1 := toNat_get hb 1
  have e2 := toNat_get hb 2
  obtain ⟨x0, hx0⟩ : ∃ x0, (s.getD 0 0).toNat = x0 := ⟨_, rfl⟩
  obtain ⟨x1, hx1⟩ : ∃ x1, (s.getD 1 0).toNat = x1 := ⟨_, rfl⟩
  obtain ⟨x2, hx2⟩ : ∃ x2, (s.getD 2 0).toNat = x2 := ⟨_, rfl⟩
  rw [hx0] at e0
  rw [hx1] at e1
  rw [hx2] at e2
  rw [← e0, Nat.add_zero] at c0
  have b0 : x0 < 256 := by omega
  have ht : truncP s = truncN s.length x0 x1 x2 := by unfold truncP; rw [e0, e1, e2]
  have hF := hT.1 x0 b0
  have acc : ∀ i, i < 16 → w.cell? ⟨1, 2 * i, none⟩ = some (.int .u8 (Lib.accLo i)) ∧ w.cell? ⟨1, 2 * i + 1, none⟩ = some (.int .u8 (Lib.accHi i)) := hT.2
  rw [ht]
  have whole : (longP x0 ≤ s.length) → (Calls Tryd.prog 43 #[.slice (some ⟨b, off, none⟩) s.length c] w fun e w' => e = .returned (.bool true) ∧ Below w.heap.size w w') → Calls Tryd.prog 43 #[.slice (some ⟨b, off, none⟩) s.length c] w fun e w' => e = .returned (.bool (!truncN s.length x0 x1 x2)) ∧ Below w.heap.size w w' := by
    intro hle hcall
    have : truncN s.length x0 x1 x2 = false := by unfold truncN; apply decide_eq_false; omega
    rw [this]
    exact hcall
  have short1 : s.length = 1 → 2 ≤ longP x0 → (∀ l, l = 1 → Calls Tryd.prog 43 #[.slice (some ⟨b, off, none⟩) l c] w fun e w' => e = .returned (.bool false) ∧ Below w.heap.size w w') → Calls Tryd.prog 43 #[.slice (some ⟨b, off, none⟩) s.length c] w fun e w' => e = .returned (.bool (!truncN s.length x0 x1 x2)) ∧ Below w.heap.size w w' := by
    intro hl h2 hcall
    have : truncN s.length x0 x1 x2 = true := by unfold truncN; apply decide_eq_true; omega
    rw [this]
    exact hcall _ hl
  have short2 : ∀ lo hi : Nat, s.length = 2 → 3 ≤ longP x0 → loP x0 = lo → hiP x0 = hi → (Calls Tryd.prog 43 #[.slice (some ⟨b, off, none⟩) 2 c] w fun e w' => e = .returned (.bool (decide (¬ (lo ≤ x1 ∧ x1 ≤ hi)))) ∧ Below w.heap.size w w') → Calls Tryd.prog 43 #[.slice (some ⟨b, off, none⟩) s.length c] w fun e w' => e = .returned (.bool (!truncN s.length x0 x1 x2)) ∧ Below w.heap.size w w' := by
    intro lo hi hl h2 h3 h4 hcall
    have : (!truncN s.length x0 x1 x2) = decide (¬ (lo ≤ x1 ∧ x1 ≤ hi)) := by
      unfold truncN
      rw [← decide_not]
      apply decide_eq_decide.2
      unfold secP
      rw [h3, h4]
      omega
    rw [this, hl]
    exact hcall
  have short3 : ∀ lo hi : Nat, s.length = 3 → 4 ≤ longP x0 → loP x0 = lo → hiP x0 = hi → (Calls Tryd.prog 43 #[.slice (some ⟨b, off, none⟩) 3 c] w fun e w' => e = .returned (.bool (decide (¬ ((lo ≤ x1 ∧ x1 ≤ hi) ∧ 128 ≤ x2 ∧ x2 ≤ 191)))) ∧ Below w.heap.size w w') → Calls Tryd.prog 43 #[.slice (some ⟨b, off, none⟩) s.length c] w fun e w' => e = .returned (.bool (!truncN s.length x0 x1 x2)) ∧ Below w.heap.size w w' := by
    intro lo hi hl h2 h3 h4 hcall
    have : (!truncN s.length x0 x1 x2) = decide (¬ ((lo ≤ x1 ∧ x1 ≤ hi) ∧ 128 ≤ x2 ∧ x2 ≤ 191)) := by
      unfold truncN
      rw [← decide_not]
      apply decide_eq_decide.2
      unfold secP okP
      rw [h3, h4]
      omega
    rw [this, hl]
    exact hcall
  have q1 : 1 < s.length → w.cell? ⟨b, off + 1, none⟩ = some (.int .u8 x1) := fun h => by rw [e1]; exact hc 1 h
  have q2 : 2 < s.length → w.cell? ⟨b, off + 2, none⟩ = some (.int .u8 x2) := fun h => by rw [e2]; exact hc 2 h
  have W : ∀ F, Lib.firstT x0 = F → _ → longP x0 ≤ s.length → Calls Tryd.prog 43 #[.slice (some ⟨b, off, none⟩) s.length c] w fun e w' => e = .returned (.bool (!truncN s.length x0 x1 x2)) ∧ Below w.heap.size w w' :=
    fun F hf hk hle => whole hle (full_whole b off s.length c x0 F w hn b0 c0 (by rw [← hf]; exact hF) hk)
  have S1 : ∀ F i, Lib.firstT x0 = F → i < 16 → _ → s.length = 1 → 2 ≤ longP x0 → Calls Tryd.prog 43 #[.slice (some ⟨b, off, none⟩) s.length c] w fun e w' => e = .returned (.bool (!truncN s.length x0 x1 x2)) ∧ Below w.heap.size w w' :=
    fun F i hf hi hk h1 h2 => short1 h1 h2 (fun l hl => by rw [hl]; exact full_one b off c x0 F w b0 c0 (by rw [← hf]; exact hF) _ _ i hk (acc i hi).1 (acc i hi).2)
  have S2 : ∀ F i (lo hi : Nat), Lib.firstT x0 = F → i < 16 → _ → s.length = 2 → 3 ≤ longP x0 → Lib.accLo i = lo → Lib.accHi i = hi → loP x0 = lo → hiP x0 = hi → Calls Tryd.prog 43 #[.slice (some ⟨b, off, none⟩) s.length c] w fun e w' => e = .returned (.bool (!truncN s.length x0 x1 x2)) ∧ Below w.heap.size w w' :=
    fun F i lo hi hf hi' hk h1 h2 a1 a2 a3 a4 => short2 lo hi h1 h2 a3 a4 (full_two b off c x0 x1 F w b0 c0 (q1 (by omega)) (by rw [← hf]; exact hF) lo hi i hk (by rw [← a1]; exact (acc i hi').1) (by rw [← a2]; exact (acc i hi').2) hlt)
  have S3 : ∀ F i (lo hi : Nat), Lib.firstT x0 = F → i < 16 → _ → s.length = 3 → 4 ≤ longP x0 → Lib.accLo i = lo → Lib.accHi i = hi → loP x0 = lo → hiP x0 = hi → Calls Tryd.prog 43 #[.slice (some ⟨b, off, none⟩) s.length c] w fun e w' => e = .returned (.bool (!truncN s.length x0 x1 x2)) ∧ Below w.heap.size w w' :=
    fun F i lo hi hf hi' hk h1 h2 a1 a2 a3 a4 => short3 lo hi h1 h2 a3 a4 (full_three b off c x0 x1 x2 F w b0 c0 (q1 (by omega)) (q2 (by omega)) (by rw [← hf]; exact hF) lo hi i hk (by rw [← a1]; exact (acc i hi').1) (by rw [← a2]; exact (acc i hi').2) hlt)
  rcases first_long x0 b0 with ⟨f, l⟩ | ⟨f, l⟩ | ⟨f, l, l1, l2⟩ | ⟨f, l, l1, l2⟩ | ⟨f, l, l1, l2⟩ | ⟨f, l, l1, l2⟩ | ⟨f, l, l1, l2⟩ | ⟨f, l, l1, l2⟩ | ⟨f, l, l1, l2⟩
  · exact W _ f (by omega) (by omega)
  · exact W _ f (by omega) (by omega)
  · by_cases n2 : 2 ≤ s.length
    · exact W _ f (by omega) (by omega)
    · exact S1 _ 0 f (by omega) (by omega) (by omega) (by omega)
  all_goals (by_cases n3 : longP x0 ≤ s.length)
  · exact W _ f (by omega) n3
  · by_cases n1 : s.length = 1
    · exact S1 _ 1 f (by omega) (by omega) n1 (by omega)
    · exact S2 _ 1 160 191 f (by omega) (by omega) (by omega) (by omega) rfl rfl l1 l2
  · exact W _ f (by omega) n3
  · by_cases n1 : s.length = 1
    · exact S1 _ 0 f (by omega) (by omega) n1 (by omega)
    · exact S2 _ 0 128 191 f (by omega) (by omega) (by omega) (by omega) rfl rfl l1 l2
  · exact W _ f (by omega) n3
  · by_cases n1 : s.length = 1
    · exact S1 _ 2 f (by omega) (by omega) n1 (by omega)
    · exact S2 _ 2 128 159 f (by omega) (by omega) (by omega) (by omega) rfl rfl l1 l2
  · exact W _ f (by omega) n3
  · by_cases n1 : s.length = 1
    · exact S1 _ 3 f (by omega) (by omega) n1 (by omega)
    · by_cases n2 : s.length = 2
      · exact S2 _ 3 144 191 f (by omega) (by omega) (by omega) (by omega) rfl rfl l1 l2
      · exact S3 _ 3 144 191 f (by omega) (by omega) (by omega) (by omega) rfl rfl l1 l2
  · exact W _ f (by omega) n3
  · by_cases n1 : s.length = 1
    · exact S1 _ 0 f (by omega) (by omega) n1 (by omega)
    · by_cases n2 : s.length = 2
      · exact S2 _ 0 128 191 f (by omega) (by omega) (by omega) (by omega) rfl rfl l1 l2
      · exact S3 _ 0 128 191 f (by omega) (by omega) (by omega) (by omega) rfl rfl l1 l2
  · exact W _ f (by omega) n3
  · by_cases n1 : s.length = 1
    · exact S1 _ 4 f (by omega) (by omega) n1 (by omega)
    · by_cases n2 : s.length = 2
      · exact S2 _ 4 128 143 f (by omega) (by omega) (by omega) (by omega) rfl rfl l1 l2
      · exact S3 _ 4 128 143 f (by omega) (by omega) (by omega) (by omega) rfl rfl l1 l2

/-- the program's 'truncated' -/
theorem truncated_ok (A : Option Addr) (c : Nat) (s : List Int) (w : World) (hT : Lib.Utf8Tabs 0 1 w) (hb : ByteZ s) (hne : s ≠ []) (h : Has w w.heap.size A (s.map (Value.int .u8))) :
    Calls Tryd.prog 33 #[.slice A s.length c] w fun e w' => e = .returned (.bool (truncP s)) ∧ Below w.heap.size w w' := by
  have cf := full_ok A c s w hT hb hne h
  obtain ⟨V, hV⟩ : ∃ V, truncP s = V := ⟨_, rfl⟩
  rw [hV] at cf ⊢
  clear hV h hb hne hT
  cases V
  all_goals
    go_enter Tryd.func33, Tryd.ntmps33
    go_wp2_with (go_at_call 43; refine cf.mono ?_; rintro e w' ⟨rfl, hbl⟩)
    go_ret
    exact ⟨rfl, hbl⟩

/-- the program's 'form' -/
theorem formZ_ok (A : Option Addr) (c : Nat) (s : List Int) (w : World) (hT : Lib.Utf8Tabs 0 1 w) (hb : ByteZ s) (hne : s ≠ []) (h : Has w w.heap.size A (s.map (Value.int .u8))) :
    Calls Tryd.prog 32 #[.slice A s.length c] w fun e w' => e = .returned (.tuple #[.int .i32 (if (standP s).2 = true then runeP s else 0), .int .i64 (if (standP s).2 = true then (standP s).1 else 0)]) ∧ Below w.heap.size w w' := by
  obtain ⟨b, off, rfl, hlt, hc⟩ := h.getD_cell hne
  have hn : 1 ≤ s.length := by cases s with | nil => exact absurd rfl hne | cons a l => simp
  have hd := Tryd.utf8_DecodeRune (bytesOf s) b off c w hT (fun j hj => by rw [bytesOf_size] at hj; rw [hc j hj, bytesOf_get s hb j hj])
  rw [bytesOf_size] at hd
  have g0 := hb.get 0
  have g1 := hb.get 1
  have g2 := hb.get 2
  have g3 := hb.get 3
  have far : ∀ j, ¬ j < s.length → s.getD j 0 = 0 := fun j hj => by rw [List.getD_eq_getElem?_getD, List.getElem?_eq_none (by omega)]; rfl
  have gets : ∀ j, ((bytesOf s).get! j).toNat = (s.getD j 0).toNat := fun j => by
    by_cases hj : j < s.length
    · have := bytesOf_get s hb j hj; omega
    · have e : (bytesOf s).get! j = 0 := by
        show (bytesOf s).data[j]! = _
        rw [getElem!_neg (bytesOf s).data j (by simpa [bytesOf] using hj)]
        rfl
      rw [e, far j hj]; rfl
  have key : ((Lib.decodeGo (bytesOf s)).1 : Int) = (if (standP s).2 = true then runeP s else 65533) ∧ (Lib.decodeGo (bytesOf s)).2 = (if (standP s).2 = true then (standP s).1 else 1) := by
    have e : Lib.decodeGo (bytesOf s) = Lib.decodeN s.length (s.getD 0 0).toNat (s.getD 1 0).toNat (s.getD 2 0).toNat (s.getD 3 0).toNat := by
      unfold Lib.decodeGo
      rw [bytesOf_size, if_neg (by omega), Lib.decode_at, bytesOf_size, gets, gets, gets, gets]
      simp
    have := decode_stand s.length (s.getD 0 0).toNat (s.getD 1 0).toNat (s.getD 2 0).toNat (s.getD 3 0).toNat hn (by omega) (by omega) (by omega) (by omega)
    rw [← e, toNat_get hb, toNat_get hb, toNat_get hb, toNat_get hb] at this
    have f1 := congrArg Prod.fst this
    have f2 := congrArg Prod.snd this
    unfold runeP standP
    by_cases q : (standN s.length (s.getD 0 0) (s.getD 1 0) (s.getD 2 0) (s.getD 3 0)).2 = true
    · rw [if_pos q] at f1 f2 ⊢
      rw [if_pos q]
      exact ⟨f1, f2⟩
    · rw [if_neg q] at f1 f2 ⊢
      rw [if_neg q]
      exact ⟨f1, f2⟩
  have hone : (standP s).2 = true → (standP s).1 ≤ 1 → runeP s < 128 := fun a b => runeN_one _ _ _ _ _ a b
  have hpos := standP_pos s
  rw [key.1, key.2] at hd
  clear key gets far h hc
  by_cases q : (standP s).2 = true
  · have hone := hone q
    rw [if_pos q] at hd ⊢
    rw [if_pos q] at hd ⊢
    obtain ⟨R, hR⟩ : ∃ R, runeP s = R := ⟨_, rfl⟩
    obtain ⟨K, hK⟩ : ∃ K, (standP s).1 = K := ⟨_, rfl⟩
    rw [hR, hK] at hd ⊢
    rw [hR, hK] at hone
    rw [hK] at hpos
    clear hR hK q
    by_cases k1 : R = 65533
    · have k2 : ¬ ((K : Int) ≤ 1) := by omega
      clear hone
      subst k1
      go_enter Tryd.func32, Tryd.ntmps32
      go_wp2_with (go_at_call 42; refine hd.mono ?_; rintro e w' ⟨rfl, hbl⟩)
      go_ret2
      exact ⟨rfl, hbl⟩
    · clear hone
      go_enter Tryd.func32, Tryd.ntmps32
      go_wp2_with (go_at_call 42; refine hd.mono ?_; rintro e w' ⟨rfl, hbl⟩)
      go_ret2
      exact ⟨rfl, hbl⟩
  · rw [if_neg q] at hd ⊢
    rw [if_neg q] at hd ⊢
    clear hone q
    go_enter Tryd.func32, Tryd.ntmps32
    go_wp2_with (go_at_call 42; refine hd.mono ?_; rintro e w' ⟨rfl, hbl⟩)
    go_ret2
    exact ⟨rfl, hbl⟩
end Go.Proofs.YtcegaelpbeefaaaDoor
