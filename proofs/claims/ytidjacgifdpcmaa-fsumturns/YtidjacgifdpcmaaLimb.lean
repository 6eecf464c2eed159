/-
  What the functions of package limb, and the document's answers beside them, return for any words: sums, differences, products. Conditions: the arguments are 64-bit words.
-/
import Derived.Test.YtidjacgifdpcmaaProg
import Derived.Test.YtidjacgifdpcmaaU64
import Derived.WalkKit
import Derived.WalkSpells
import Derived.WalkLawsBesides
import Derived.Lib.Hide
namespace Go.Proofs.Ytidjacgifdpcmaa
set_option maxRecDepth 100000
open Go.RowKit
set_option linter.unusedVariables false
set_option linter.unusedSimpArgs false

set_option maxHeartbeats 400000 in
theorem limb_mul (a b : Int) (ha : U a) (hb : U b) (w : World) :
    Calls Try.prog 54 #[.int .u64 a, .int .u64 b] w fun e w' => e = .returned (.tuple #[.int .u64 (hi64 (a * b)), .int .u64 (lo64 (a * b))]) ∧ w = w' := by
  go_enter Try.func54, Try.ntmps54
  go_wp2
  go_ret2
  exact ⟨ret2 (mul_hi ha hb) (mul_lo ha hb), rfl⟩

set_option maxHeartbeats 400000 in
theorem ref_len (x : Int) (hx : U x) (w : World) :
    Calls Try.prog 89 #[.int .u64 x] w fun e w' => e = .returned (.int .i64 (blen x.toNat)) ∧ w = w' := by
  obtain ⟨n, rfl⟩ := Int.eq_ofNat_of_zero_le hx.nn
  have hb : blen n ≤ 64 := blen_le (by unfold U at hx; omega)
  go_enter Try.func89, Try.ntmps89
  go_wp2
  go_loop [0, 3] (fun x i => ∃ m k : Nat, x = .int .u64 m ∧ i = .int .i64 k ∧ blen m + k = blen n) (fun x _ => (intOf x).toNat)
  case atStart => exact ⟨n, 0, rfl, rfl, rfl⟩
  case round =>
    obtain ⟨m, k, rfl, rfl, hk⟩ := hrel
    have hk' : k ≤ 64 := by omega
    have H := Lib.hid hk
    clear hk
    by_cases h0 : 0 < m
    · have hh := Lib.hid (blen_half h0)
      go_wp2
      go_round
      case rel => exact ⟨m / 2, k + 1, by go_num, by go_num, by have := H.out; have := hh.out; omega⟩
      case measure => simp [intOf]; omega
    · obtain rfl : m = 0 := by omega
      go_wp2
      go_ret
      exact ⟨ret1 (by have h9 := H.out; have h8 := blen_zero; omega), rfl⟩

set_option maxHeartbeats 400000 in
theorem limb_len (x : Int) (hx : U x) (w : World) :
    Calls Try.prog 77 #[.int .u64 x] w fun e w' => e = .returned (.int .i64 (blen x.toNat)) ∧ w = w' := by
  obtain ⟨n, rfl⟩ := Int.eq_ofNat_of_zero_le hx.nn
  have hn : n < 2 ^ 64 := by unfold U at hx; omega
  have hb : blen n ≤ 64 := blen_le hn
  go_enter Try.func77, Try.ntmps77
  go_wp2
  go_loop [0, 3, 4] (fun x i s => ∃ m k t : Nat, x = .int .u64 m ∧ i = .int .i64 k ∧ s = .int .i64 t ∧ LenAt n m k t) (fun _ _ s => (intOf s).toNat)
  case atStart => exact ⟨n, 0, 32, rfl, rfl, rfl, lenAt_0 hn⟩
  case round =>
    obtain ⟨m, k, t, rfl, rfl, rfl, hk⟩ := hrel
    have hk' : k ≤ 64 := by have := hk.1; omega
    have ht := hk.2
    by_cases h0 : t = 0
    · subst h0
      go_wp2
      go_ret
      exact ⟨ret1 (lenAt_end hk), rfl⟩
    · have h3 : t = 32 ∨ t = 16 ∨ t = 8 ∨ t = 4 ∨ t = 2 ∨ t = 1 := by omega
      by_cases hd : m / 2 ^ t = 0
      · have L := lenAt_no hk h0 hd
        clear ht
        rcases h3 with rfl | rfl | rfl | rfl | rfl | rfl
        all_goals
          simp only [Nat.reducePow] at hd
          go_wp2
          go_round
          case rel => exact ⟨_, _, _, rfl, rfl, by go_num, L⟩
          case measure => simp [intOf]
      · have L := lenAt_yes hk h0 hd
        clear ht
        rcases h3 with rfl | rfl | rfl | rfl | rfl | rfl
        all_goals
          simp only [Nat.reducePow] at hd
          go_wp2
          go_round
          case rel => exact ⟨_, _, _, by go_num, by go_num, by go_num, L⟩
          case measure => simp [intOf]

set_option maxHeartbeats 400000 in
theorem ref_div_no (h l d : Int) (hd : d ≤ h) (w : World) :
    Calls Try.prog 61 #[.int .u64 h, .int .u64 l, .int .u64 d] w fun e w' => e = .returned (.tuple #[.int .u64 0, .int .u64 0, .bool false]) ∧ w = w' := by
  go_enter Try.func61, Try.ntmps61
  go_wp2
  go_ret3
  exact ⟨rfl, rfl⟩
set_option maxHeartbeats 1000000 in
theorem ref_div_yes (h l d : Int) (hh : U h) (hl : U l) (hd' : U d) (hd : h < d) (w : World) :
    Calls Try.prog 61 #[.int .u64 h, .int .u64 l, .int .u64 d] w fun e w' => e = .returned (.tuple #[.int .u64 ((h * 18446744073709551616 + l) / d), .int .u64 ((h * 18446744073709551616 + l) % d), .bool true]) ∧ w = w' := by
  obtain ⟨n, rfl⟩ := Int.eq_ofNat_of_zero_le hl.nn
  obtain ⟨H, rfl⟩ := Int.eq_ofNat_of_zero_le hh.nn
  obtain ⟨D, rfl⟩ := Int.eq_ofNat_of_zero_le hd'.nn
  have hn : n < 2 ^ 64 := by unfold U at hl; omega
  have hD : D < 2 ^ 64 := by unfold U at hd'; omega
  have hlt := div_lt64 hn (show H < D by omega)
  have HN := Lib.hid hlt
  have Hn := Lib.hid hn
  have HD := Lib.hid hD
  clear hlt hn hD
  go_enter Try.func61, Try.ntmps61
  go_wp2
  go_loop [9, 10, 11] (fun x y i => ∃ (q r k : Nat), x = .int .u64 q ∧ y = .int .u64 r ∧ i = .int .i64 ((k : Int) - 1) ∧ DivAt (H * 2 ^ 64 + n) D q r k) (fun _ _ i => (intOf i + 1).toNat)
  case atStart => exact ⟨0, H, 64, rfl, rfl, rfl, divAt_0 Hn.out (by omega)⟩
  case round =>
    obtain ⟨q, r, k, rfl, rfl, rfl, hk⟩ := hrel
    have hk' : k ≤ 64 := hk.1
    by_cases h0 : k = 0
    · subst h0
      go_wp2
      go_ret3
      exact ⟨ret3 (divAt_end hk).1 (divAt_end hk).2 rfl, rfl⟩
    · obtain ⟨j, rfl⟩ : ∃ j, k = j + 1 := ⟨k - 1, by omega⟩
      obtain ⟨hr, s1, s2⟩ := divAt_step (by omega) hk
      rw [bit_low (by omega)] at s1 s2
      obtain ⟨b, hb, hb2, hb3⟩ : ∃ b : Nat, bits BinOp.and IntKind.u64 ((n : Int) / 2 ^ j) 1 = (b : Int) ∧ b < 2 ∧ n / 2 ^ j % 2 = b := ⟨n / 2 ^ j % 2, bit_of n j hl, Nat.mod_lt _ (by omega), rfl⟩
      rw [hb3] at s1 s2
      have S1 := Lib.hid s1
      have S2 := Lib.hid s2
      have HB3 := Lib.hid hb3
      clear s1 s2 hb3
      by_cases ho : 9223372036854775808 ≤ r
      · have hor : bits BinOp.or IntKind.u64 (IntKind.u64.wrap (r * 2)) (b : Int) = IntKind.u64.wrap (r * 2) + b := or1 (U_wrap _) (by rw [wrapU]; omega) (by omega) (by omega)
        have hob : ((r : Int) / 9223372036854775808 == 1) = true := by have := HD.out; simp; omega
        have L := S1.out (by have := HD.out; omega)
        have hq := divAt_small L HN.out
        have hq1 : q < 9223372036854775808 := by omega
        have hor2 : bits BinOp.or IntKind.u64 (q * 2) 1 = q * 2 + 1 := or1 (by unfold U; omega) (by omega) (by omega) (by omega)
        clear hq
        go_wp2
        go_round
        case rel => exact ⟨_, _, _, by go_num, vint (by have := HD.out; rw [wrapU, wrapU]; omega), rfl, L⟩
        case measure => simp [intOf]
      · have ho' : r < 9223372036854775808 := by omega
        have hob : ((r : Int) / 9223372036854775808 == 1) = false := by simp; omega
        have hor : bits BinOp.or IntKind.u64 (r * 2) (b : Int) = r * 2 + b := or1 (by unfold U; omega) (by omega) (by omega) (by omega)
        by_cases hy : D ≤ 2 * r + b
        · have L := S1.out hy
          have hq := divAt_small L HN.out
          have hq1 : q < 9223372036854775808 := by omega
          have hor2 : bits BinOp.or IntKind.u64 (q * 2) 1 = q * 2 + 1 := or1 (by unfold U; omega) (by omega) (by omega) (by omega)
          clear hq
          go_wp2
          go_round
          case rel => exact ⟨_, _, _, by go_num, vint (by omega), rfl, L⟩
          case measure => simp [intOf]
        · have L := S2.out (by omega)
          have hq := divAt_small L HN.out
          have hq1 : q < 9223372036854775808 := by omega
          clear hq
          go_wp2
          go_round
          case rel => exact ⟨_, _, _, vint (by omega), vint (by omega), rfl, L⟩
          case measure => simp [intOf]

end Go.Proofs.Ytidjacgifdpcmaa
