/-
  What limb.divHalf and limb.Div return: the quotient, rounded down, and the remainder. Conditions: the arguments are 64-bit words; divHalf: as its own comment says.
-/
import Derived.Test.YtidjacgifdpcmaaLimb
namespace Go.Proofs.Ytidjacgifdpcmaa
set_option maxRecDepth 100000
open Go.RowKit
set_option linter.unusedVariables false
set_option linter.unusedSimpArgs false

set_option maxHeartbeats 400000 in
set_option maxRecDepth 100000 in
theorem div_half (r x d : Nat) (hx : x < 4294967296) (hd : d < 18446744073709551616) (hd2 : 9223372036854775808 ≤ d) (hr : r < d) (w : World) :
    Calls Try.prog 84 #[.int .u64 r, .int .u64 x, .int .u64 d] w fun e w' => e = .returned (.tuple #[.int .u64 (dhq r x d), .int .u64 (dhr r x d)]) ∧ ∃ n, w' = w.drewN n := by
  obtain ⟨d1, hd1⟩ : ∃ d1, d1 = d / 4294967296 := ⟨_, rfl⟩
  obtain ⟨d0, hd0⟩ : ∃ d0, d0 = d % 4294967296 := ⟨_, rfl⟩
  have HD : Hid (d = d1 * 4294967296 + d0) := by show d = _; omega
  have l1 : 2147483648 ≤ d1 := by omega
  have l1' : d1 < 4294967296 := by omega
  have l0 : d0 < 4294967296 := by omega
  have e1 : (d : Int) / 4294967296 = (d1 : Int) := by omega
  have e0 : bits BinOp.and IntKind.u64 (d : Int) 4294967295 = (d0 : Int) := by rw [and32 (by unfold U; omega)]; omega
  have hz : ((d1 : Int) == 0) = false := by simp; omega
  have HR := Lib.hid hr
  clear hd1 hd0 hr
  go_enter Try.func84, Try.ntmps84
  go_wp2
  go_region
  go_wp2
  go_loop [10, 11] (fun x1 y1 => ∃ (q s : Nat), x1 = .int .u64 q ∧ y1 = .int .u64 s ∧ DhAt r x d1 d0 q s) (fun x1 _ => mes x1)
  case atStart =>
    have hq : r / d1 ≤ r := Nat.div_le_self _ _
    have hr' := HR.out
    exact ⟨r / d1, r % d1, vint (by rw [← Int.natCast_ediv, wrapU]; generalize r / d1 = q at *; omega), vint (by rw [Int.natCast_emod]), dhAt_0 hx l1 l1' l0 (by rw [← HD.out]; exact HR.out)⟩
  case round =>
    obtain ⟨q, s, rfl, rfl, hk⟩ := hrel
    have hp := dhAt_prod l0 hk
    have hs : s < 4294967296 := hk.2.2.2
    have hq : q ≤ 4294967297 := hk.2.2.1
    obtain ⟨p, ep⟩ : ∃ p : Int, (q : Int) * (d0 : Int) = p := ⟨_, rfl⟩
    obtain ⟨y, ey⟩ : ∃ y : Int, (s : Int) * 4294967296 = y := ⟨_, rfl⟩
    have hp' : ((q * d0 : Nat) : Int) = p := by rw [Int.natCast_mul]; exact ep
    have hp1 : p ≤ 18446744073709551615 := by omega
    have hp0 : 0 ≤ p := by omega
    have hy0 : 0 ≤ y := by omega
    have hy1 : y ≤ 18446744073709551615 := by omega
    obtain ⟨z, ez⟩ : ∃ z : Int, bits BinOp.or IntKind.u64 y (x : Int) = z := ⟨_, rfl⟩
    have hz' : z = y + x := by rw [← ez]; exact or32 (by unfold U; omega) (by omega) (by omega) (by omega)
    by_cases ht : s * 4294967296 + x < q * d0
    · have ht' : z < p := by omega
      have hq1 : 0 < q := (dhAt_next l1 hk ht).1
      by_cases hb : s + d1 < 4294967296
      · have L := dhAt_more l1 hk ht hb
        obtain ⟨t, et⟩ : ∃ t : Int, (s : Int) + d1 = t := ⟨_, rfl⟩
        have hb' : t < 4294967296 := by omega
        have hb0 : 0 ≤ t := by omega
        have HL := Lib.hid L
        clear ht hp hb L hp' hz' hs hy0
        go_wp2
        go_round
        case rel => exact ⟨q - 1, s + d1, vint (by omega), vint (by omega), HL.out⟩
        case measure => exact mes_lt (by omega) (by omega)
      · have L := dhAt_break l1 l0 hk ht (by omega)
        have HL := Lib.hid L
        have hb' : 4294967296 ≤ (s : Int) + d1 := by omega
        clear L ht hp hb hp' hz'
        go_wp2
        go_ret2
        refine ⟨ret2 ?_ ?_, 1, rfl⟩
        · rw [← show ((q - 1 : Nat) : Int) = (q : Int) - 1 by omega, HL.out, ← HD.out]; rfl
        · rw [← show ((q - 1 : Nat) : Int) = (q : Int) - 1 by omega, HL.out, ← HD.out]
          exact dh_rest hd (by omega)
    · have L := dhAt_stop l1 hk (by omega)
      have HL := Lib.hid L
      clear L
      have ht' : p ≤ z := by omega
      clear ht hp hp' hz'
      go_wp2
      go_ret2
      refine ⟨ret2 ?_ ?_, 1, rfl⟩
      · rw [HL.out, ← HD.out]; rfl
      · rw [HL.out, ← HD.out]
        exact dh_rest hd (by omega)

set_option maxHeartbeats 400000 in
theorem limb_div_no (h l d : Int) (hd : d ≤ h) (w : World) :
    Calls Try.prog 59 #[.int .u64 h, .int .u64 l, .int .u64 d] w fun e w' => e = .returned (.tuple #[.int .u64 0, .int .u64 0, .bool false]) ∧ w = w' := by
  go_enter Try.func59, Try.ntmps59
  go_wp2
  go_ret3
  exact ⟨rfl, rfl⟩

set_option maxHeartbeats 400000 in
theorem limb_div_yes (h l d : Int) (hh : U h) (hl : U l) (hd' : U d) (hd : h < d) (w : World) :
    Calls Try.prog 59 #[.int .u64 h, .int .u64 l, .int .u64 d] w fun e w' => e = .returned (.tuple #[.int .u64 ((h * 18446744073709551616 + l) / d), .int .u64 ((h * 18446744073709551616 + l) % d), .bool true]) ∧ ∃ n, w' = w.drewN n := by
  obtain ⟨H, rfl⟩ := Int.eq_ofNat_of_zero_le hh.nn
  obtain ⟨L, rfl⟩ := Int.eq_ofNat_of_zero_le hl.nn
  obtain ⟨D, rfl⟩ := Int.eq_ofNat_of_zero_le hd'.nn
  have hD : D < 18446744073709551616 := by unfold U at hd'; omega
  have hL : L < 18446744073709551616 := by unfold U at hl; omega
  obtain ⟨s, D', T, M, M1, M0, Q1, R1, Q0, R0, ⟨es, hs64, f1, f2, f3, g3, g4, l1, l0, g1, g2⟩, eD, eT, eM, eM1, eM0, eQ1, eR1, eQ0, eR0, eQ, eR⟩ := div_setup (H := H) (L := L) (by omega) hL hD
  have EQ := Lib.hid eQ
  have ER := Lib.hid eR
  clear eQ eR
  go_enter Try.func59, Try.ntmps59
  go_wp2_with (go_at_call 77; refine (limb_len _ hd' _).mono ?_; rintro e w' ⟨rfl, rfl⟩)
  go_region
  go_wp2_with fail
  refine (div_half T M1 D' l1 f1 f2 f3 _).mono ?_
  rintro e w1 ⟨rfl, n1, rfl⟩
  go_wp2_with fail
  refine (div_half R1 M0 D' l0 f1 f2 g3 _).mono ?_
  rintro e w1 ⟨rfl, n2, rfl⟩
  go_wp2_with fail
  go_region
  go_wp2
  go_ret3
  exact ⟨ret3 EQ.out ER.out rfl, 1 + n1 + n2 + 1, rfl⟩

end Go.Proofs.Ytidjacgifdpcmaa
