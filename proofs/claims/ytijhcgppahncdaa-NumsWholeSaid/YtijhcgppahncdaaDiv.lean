/-
  math/bits.Div64, the library's own text: for hi below y and y below 2^63 it returns the quotient and the remainder of hi * 2^64 + lo by y.
-/
import Derived.Test.YtijhcgppahncdaaShelf
import Derived.Test.YtijhcgppahncdaaShift
import Derived.Test.YtijhcgppahncdaaKnuth
import Derived.WalkKit
import Derived.ProofKit
import Derived.OpenShut
import Derived.Lib.Hide
import Derived.LoopTactic
import Derived.Laws.Bits64b
import Derived.Deep.QuietTactic
import Derived.BigQuiet
set_option linter.unusedVariables false
namespace Go.Proofs.Ytijhcgppahncdaa
open Go.ChangeShapes Go.WideShapes Go.ChangeAt Go.RowKit
theorem ret2u {k m : IntKind} {a b c d : Int} (h : a = b) (h' : c = d) : Ending.returned (.tuple #[.int k a, .int m c]) = .returned (.tuple #[.int k b, .int m d]) := by rw [h, h']
theorem five (q r u D1 D0 : Int) : (4294967296 ≤ q ∧ 4294967296 ≤ r + D1) ∨ (4294967296 ≤ q ∧ r + D1 < 4294967296) ∨ (q < 4294967296 ∧ 4294967296 * r + u < q * D0 ∧ 4294967296 ≤ r + D1) ∨ (q < 4294967296 ∧ 4294967296 * r + u < q * D0 ∧ r + D1 < 4294967296) ∨ (q < 4294967296 ∧ q * D0 ≤ 4294967296 * r + u) := by omega
set_option maxHeartbeats 2000000 in
theorem div_big (hi lo y : Int) (h0 : 0 < hi) (h1 : hi < y) (h2 : y ≤ 9223372036854775807) (h3 : 0 ≤ lo) (h4 : lo ≤ 18446744073709551615) (w : World) :
    Calls Try.prog 32 #[.int .u64 hi, .int .u64 lo, .int .u64 y] w fun e w' => e = .returned (.tuple #[.int .u64 ((hi * 18446744073709551616 + lo) / y), .int .u64 ((hi * 18446744073709551616 + lo) % y)]) ∧ w = w' := by
  obtain ⟨s, hs⟩ : ∃ s : Nat, s + Lib.bitLen y.toNat = 64 := ⟨64 - Lib.bitLen y.toNat, by have := Lib.bitLen_le y.toNat 64 (by omega) (by omega); omega⟩
  obtain ⟨F, hs1, hs2⟩ := Shift.fit y.toNat s (by omega) (by omega) hs
  rw [Int.toNat_of_nonneg (by omega)] at F
  obtain ⟨hW, hU0, hU1, hp0, hp1, hl0, hl1⟩ := Shift.words F (hi := hi) (lo := lo) (by omega) h1 h3 h4
  have hor := Shift.or_int (hi := hi) (lo := lo / 2 ^ (64 - s)) (s := s) (by omega) hl0 hl1 (by have := F.hi; omega)
  have hYl := F.lo
  have hYh := F.hi
  have HM : Hid (64 - (Lib.bitLen y.toNat : Int) = (s : Int)) := Lib.hid (by omega)
  have HW := Lib.hid hW
  have hwl : IntKind.u64.wrap (lo * 2 ^ s) = lo * 2 ^ s % 18446744073709551616 := IntKind.wrap_u64 _
  obtain ⟨U, hU⟩ : ∃ U, hi * 2 ^ s + lo / 2 ^ (64 - s) = U := ⟨_, rfl⟩
  obtain ⟨L, hL⟩ : ∃ L, lo * 2 ^ s % 18446744073709551616 = L := ⟨_, rfl⟩
  obtain ⟨Y, hY⟩ : ∃ Y, y * 2 ^ s = Y := ⟨_, rfl⟩
  have hL0 : 0 ≤ L ∧ L < 18446744073709551616 := by rw [← hL]; exact ⟨Int.emod_nonneg _ (by omega), Int.emod_lt_of_pos _ (by omega)⟩
  rw [hU] at hor hU0 hU1
  rw [hL] at hwl
  rw [hY] at hU1 hYl hYh
  have hmY := Shift.mask Y (by omega) (by omega)
  have hmL := Shift.mask L (by omega) (by omega)
  obtain ⟨D1, hD1⟩ : ∃ D1, Y / 4294967296 = D1 := ⟨_, rfl⟩
  obtain ⟨D0, hD0⟩ : ∃ D0, Y % 4294967296 = D0 := ⟨_, rfl⟩
  obtain ⟨u1, hu1⟩ : ∃ u1, L / 4294967296 = u1 := ⟨_, rfl⟩
  obtain ⟨u0, hu0⟩ : ∃ u0, L % 4294967296 = u0 := ⟨_, rfl⟩
  have A1 : Knuth.Args U u1 Y D1 D0 := ⟨by omega, by omega, by omega, by omega, by omega, by omega, by omega, by omega, by omega⟩
  rw [hD0] at hmY
  rw [hu0] at hmL
  have HU := Lib.hid hU
  have HL := Lib.hid hL
  have hd1 := A1.d1
  have hd2 := A1.d1'
  have hsum := Knuth.start A1
  have hst0 := hsum.sum
  have hst1 := hsum.r0
  have hst2 := hsum.r1
  have hst3 : 0 ≤ U / D1 := Int.ediv_nonneg hU0 (by omega)
  have hst4 : 0 ≤ U / D1 * D1 := Int.mul_nonneg hst3 (by omega)
  have hst5 := hsum.low
  have hst6 := hsum.top
  clear hst0
  have hq1 := Knuth.quo_in A1
  have hr1 := Knuth.rem_in A1
  obtain ⟨Q1, hQ1⟩ : ∃ Q1, Q1 = (U * 4294967296 + u1) / Y := ⟨_, rfl⟩
  obtain ⟨R1, hR1⟩ : ∃ R1, R1 = (U * 4294967296 + u1) % Y := ⟨_, rfl⟩
  have hrest := Knuth.rest A1 hQ1
  rw [← hQ1] at hq1 
  rw [← hR1] at hr1 hrest
  have HR1 : Hid (IntKind.u64.wrap (IntKind.u64.wrap (IntKind.u64.wrap (U * 4294967296) + u1) - IntKind.u64.wrap (Q1 * Y)) = R1) := Lib.hid (by
    rw [IntKind.wrap_u64, IntKind.wrap_u64, IntKind.wrap_u64, IntKind.wrap_u64]; omega)
  have HQ1 := Lib.hid hQ1
  have A2 : Knuth.Args R1 u0 Y D1 D0 := ⟨A1.y, A1.d1, A1.d1', A1.d0, A1.d0', by omega, by omega, by omega, by omega⟩
  have hq0 := Knuth.quo_in A2
  have hr0 := Knuth.rem_in A2
  obtain ⟨Q0, hQ0⟩ : ∃ Q0, Q0 = (R1 * 4294967296 + u0) / Y := ⟨_, rfl⟩
  obtain ⟨R0, hR0⟩ : ∃ R0, R0 = (R1 * 4294967296 + u0) % Y := ⟨_, rfl⟩
  have hrest0 := Knuth.rest A2 hQ0
  rw [← hQ0] at hq0
  rw [← hR0] at hr0 hrest0
  have HR0 : Hid (IntKind.u64.wrap (IntKind.u64.wrap (IntKind.u64.wrap (R1 * 4294967296) + u0) - IntKind.u64.wrap (Q0 * Y)) = R0) := Lib.hid (by
    rw [IntKind.wrap_u64, IntKind.wrap_u64, IntKind.wrap_u64, IntKind.wrap_u64]; omega)
  have HQ0 := Lib.hid hQ0
  have HEND : Hid (Q1 * 4294967296 + Q0 = (hi * 18446744073709551616 + lo) / y ∧ R0 / 2 ^ s = (hi * 18446744073709551616 + lo) % y) := Lib.hid (by
    have e1 : U * 4294967296 + L / 4294967296 - Q1 * (y * 2 ^ s) = R1 := by rw [hY, hu1]; exact hrest
    have e0 : R1 * 4294967296 + L % 4294967296 - Q0 * (y * 2 ^ s) = R0 := by rw [hY, hu0]; exact hrest0
    refine Knuth.whole F.p0 (by omega) ?_ e1 e0 (by omega) (by rw [hY]; omega)
    rw [← hU, ← hL]; exact hW)
  have hsum2 := Knuth.start A2
  have gst1 := hsum2.r0
  have gst2 := hsum2.r1
  have gst3 : 0 ≤ R1 / D1 := Int.ediv_nonneg (by omega) (by omega)
  have gst4 : 0 ≤ R1 / D1 * D1 := Int.mul_nonneg gst3 (by omega)
  have gst5 := hsum2.low
  have gst6 := hsum2.top
  have G : Hid (0 ≤ R1 / D1 ∧ R1 / D1 ≤ 4294967297 ∧ 0 ≤ R1 / D1 * D1 ∧ 0 ≤ R1 - R1 / D1 * D1 ∧ R1 - R1 / D1 * D1 < 4294967296 ∧ R1 / D1 * D1 ≤ R1) := Lib.hid ⟨gst3, gst6, gst4, gst1, gst2, by omega⟩
  have HD : Hid (0 ≤ D0 ∧ D0 < 4294967296) := Lib.hid ⟨A1.d0, A1.d0'⟩
  have hua := A1.u0
  have hub := A1.u1
  have huc := A2.u0
  have hud := A2.u1
  have HP0 : Hid (1 ≤ Y) := Lib.hid (by omega)
  clear hU hL hs hW hD0 hu0 hQ1 hR1 hrest hQ0 hR0 hrest0 gst1 gst2 gst3 gst4 gst5 gst6
  go_enter Try.func32, Try.ntmps32
  go_wp2_with (go_at_call 33; refine (Try.bits_LeadingZeros64 _ _ (by omega) (by omega)).mono ?_; rintro e w' ⟨rfl, rfl⟩; rw [HM.out])
  clear hor hwl hY hmY hmL hD1 hu1
  go_loop [15, 16] (fun q r => ∃ qq rr : Int, q = .int .u64 qq ∧ r = .int .u64 rr ∧ Knuth.Inv U u1 Y D1 D0 qq rr) (fun q _ => (intOf q).toNat)
  case atStart => exact ⟨_, _, rfl, rfl, hsum⟩
  case round =>
    clear hsum hst1 hst2 hst3 hst4 hst5 hst6
    obtain ⟨q, r, rfl, rfl, hI⟩ := hrel
    have i0 := hI.low
    have i1 := hI.top
    have i2 := hI.r0
    have i3 := hI.r1
    rw [← HQ1.out] at i0
    have i4 : q < 4294967296 → 0 ≤ q * D0 ∧ q * D0 ≤ 18446744073709551615 := fun h => Knuth.prod (by omega) h HD.out.1 HD.out.2
    obtain ⟨hd3, hd4⟩ := HD.out
    rcases five q r u1 D1 D0 with ⟨c, d⟩ | ⟨c, d⟩ | ⟨c, c', d⟩ | ⟨c, c', d⟩ | ⟨c, c'⟩
    case inr.inl =>
      clear i4
      have hn := Knuth.next A1 hI (Or.inl c) d; have hn1 := (Knuth.down A1 hI (Or.inl c)).2.2
      go_wp2
      go_round
      case rel => exact ⟨_, _, rfl, rfl, hn⟩
      case measure => simp [intOf]; omega
    case inr.inr.inr.inl =>
      obtain ⟨i5, i6⟩ := i4 c
      clear i4
      have hn := Knuth.next A1 hI (Or.inr c') d; have hn1 := (Knuth.down A1 hI (Or.inr c')).2.2
      go_wp2
      go_round
      case rel => exact ⟨_, _, rfl, rfl, hn⟩
      case measure => simp [intOf]; omega
    case' inl =>
      have e1 := Knuth.out A1 hI (Or.inl c) d
      rw [← HQ1.out] at e1
      clear i4
      obtain rfl : q = Q1 + 1 := by omega
      clear e1
    case' inr.inr.inl =>
      obtain ⟨i5, i6⟩ := i4 c
      have e1 := Knuth.out A1 hI (Or.inr c') d
      rw [← HQ1.out] at e1
      clear i4
      obtain rfl : q = Q1 + 1 := by omega
      clear e1
    case' inr.inr.inr.inr =>
      obtain ⟨i5, i6⟩ := i4 c
      have e1 := Knuth.stop A1 hI c'
      rw [← HQ1.out] at e1
      clear i4
      subst e1
    all_goals
      have hwr := HR1.out
      obtain ⟨g1, g2, g3, g4, g5, g6⟩ := G.out
      go_wp2
      clear hwr hI
      go_loop [18, 16] (fun q r => ∃ qq rr : Int, q = .int .u64 qq ∧ r = .int .u64 rr ∧ Knuth.Inv R1 u0 Y D1 D0 qq rr) (fun q _ => (intOf q).toNat)
      case atStart => exact ⟨_, _, rfl, rfl, hsum2⟩
      case round =>
        clear hsum2 g1 g2 g3 g4 g5 g6
        obtain ⟨p, t, rfl, rfl, hJ⟩ := hrel
        have j0 := hJ.low
        have j1 := hJ.top
        have j2 := hJ.r0
        have j3 := hJ.r1
        rw [← HQ0.out] at j0
        have j4 : p < 4294967296 → 0 ≤ p * D0 ∧ p * D0 ≤ 18446744073709551615 := fun h => Knuth.prod (by omega) h HD.out.1 HD.out.2
        rcases five p t u0 D1 D0 with ⟨k, l⟩ | ⟨k, l⟩ | ⟨k, k', l⟩ | ⟨k, k', l⟩ | ⟨k, k'⟩
        case inr.inl =>
          clear j4
          have hn := Knuth.next A2 hJ (Or.inl k) l; have hn1 := (Knuth.down A2 hJ (Or.inl k)).2.2
          go_wp2
          go_round
          case rel => exact ⟨_, _, rfl, rfl, hn⟩
          case measure => simp [intOf]; omega
        case inr.inr.inr.inl =>
          obtain ⟨j5, j6⟩ := j4 k
          clear j4
          have hn := Knuth.next A2 hJ (Or.inr k') l; have hn1 := (Knuth.down A2 hJ (Or.inr k')).2.2
          go_wp2
          go_round
          case rel => exact ⟨_, _, rfl, rfl, hn⟩
          case measure => simp [intOf]; omega
        case' inl =>
          have e1 := Knuth.out A2 hJ (Or.inl k) l
          rw [← HQ0.out] at e1
          clear j4
          obtain rfl : p = Q0 + 1 := by omega
          clear e1
        case' inr.inr.inl =>
          obtain ⟨j5, j6⟩ := j4 k
          have e1 := Knuth.out A2 hJ (Or.inr k') l
          rw [← HQ0.out] at e1
          clear j4
          obtain rfl : p = Q0 + 1 := by omega
          clear e1
        case' inr.inr.inr.inr =>
          obtain ⟨j5, j6⟩ := j4 k
          have e1 := Knuth.stop A2 hJ k'
          rw [← HQ0.out] at e1
          clear j4
          subst e1
        all_goals
          have hwr := HR0.out
          go_wp2
          go_ret2
          exact ⟨ret2u HEND.out.1 HEND.out.2, rfl⟩
theorem div_small (lo y : Int) (h1 : 0 < y) (h2 : y ≤ 9223372036854775807) (h3 : 0 ≤ lo) (h4 : lo ≤ 18446744073709551615) (w : World) :
    Calls Try.prog 32 #[.int .u64 0, .int .u64 lo, .int .u64 y] w fun e w' => e = .returned (.tuple #[.int .u64 (lo / y), .int .u64 (lo % y)]) ∧ ∃ k, w' = w.drewN k := by
  go_enter Try.func32, Try.ntmps32
  go_wp2
  go_quiet (fail)
  go_wp2
  go_ret2
  exact ⟨rfl, _, rfl⟩
theorem div_any (hi lo y : Int) (h0 : 0 ≤ hi) (h1 : hi < y) (h2 : y ≤ 9223372036854775807) (h3 : 0 ≤ lo) (h4 : lo ≤ 18446744073709551615) (w : World) :
    Calls Try.prog 32 #[.int .u64 hi, .int .u64 lo, .int .u64 y] w fun e w' => e = .returned (.tuple #[.int .u64 ((hi * 18446744073709551616 + lo) / y), .int .u64 ((hi * 18446744073709551616 + lo) % y)]) ∧ ∃ k, w' = w.drewN k := by
  rcases Int.lt_or_eq_of_le h0 with h | h
  · exact (div_big hi lo y h h1 h2 h3 h4 w).mono fun e w' ⟨a, b⟩ => ⟨a, 0, b.symm⟩
  · subst h
    have e : (0 : Int) * 18446744073709551616 + lo = lo := by omega
    rw [e]
    exact div_small lo y h1 h2 h3 h4 w
end Go.Proofs.Ytijhcgppahncdaa
