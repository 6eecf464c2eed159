/-
  What prod.Pow returns: the power, the exponent taken between 0 and 64. Conditions: the slice reads as a list of words, of at most 1000 words.
-/
import Derived.Test.YtnheefhbchkbdaaGreatDoorProdKara
import Derived.Deep.DeepCutAuto
namespace Go.Proofs.YtnheefhbchkbdaaGreatDoor
set_option maxRecDepth 100000
open Go.RowKit
set_option linter.unusedVariables false
set_option linter.unusedSimpArgs false

theorem pow_bits : ∀ m, m < 65 → ∀ j, j < 7 → bits BinOp.and IntKind.i64 ((m : Nat) : Int) ((2 ^ j : Nat) : Int) = if m / 2 ^ j % 2 = 1 then ((2 ^ j : Nat) : Int) else 0 := by decide +kernel
theorem pow_bit_yes {m j : Nat} (hm : m ≤ 64) (hj : j < 7) (h : m / 2 ^ j % 2 = 1) : (bits BinOp.and IntKind.i64 ((m : Nat) : Int) ((2 ^ j : Nat) : Int) != 0) = true := by
  rw [pow_bits m (by omega) j hj, if_pos h]
  have := Nat.two_pow_pos j
  generalize 2 ^ j = p at this
  simp
  omega
theorem pow_bit_no {m j : Nat} (hm : m ≤ 64) (hj : j < 7) (h : ¬ m / 2 ^ j % 2 = 1) : (bits BinOp.and IntKind.i64 ((m : Nat) : Int) ((2 ^ j : Nat) : Int) != 0) = false := by
  rw [pow_bits m (by omega) j hj, if_neg h]
  rfl
theorem pow_half (m j : Nat) : m / 2 ^ j = 2 * (m / 2 ^ (j + 1)) + m / 2 ^ j % 2 := by
  rw [Nat.pow_succ, ← Nat.div_div_eq_div_mul]; omega
theorem pow_le_64 {j : Nat} (h : j < 7) : 2 ^ j ≤ 64 ∧ 0 < 2 ^ j := ⟨by have := Nat.pow_le_pow_right (n := 2) (by omega) (show j ≤ 6 by omega); simpa using this, Nat.two_pow_pos j⟩
theorem Sl.powSmall {w : World} {A : Option Addr} {n c a e k : Nat} (h : Sl w A n c (words (a ^ e))) (ha : a < W ^ k) (hk : k ≤ 1000) (he : e ≤ 128) : n ≤ 128001 := by
  have := h.small (pow_lt_powW ha e)
  have : k * e ≤ 1000 * 128 := Nat.mul_le_mul hk he
  omega

set_option maxHeartbeats 1000000 in
theorem prod_pow {w : World} {A : Option Addr} {n c : Nat} {xs : List Int} (h : Sl w A n c xs) (hn : n ≤ 1000) (i : Int) :
    Calls Tryz.prog 23 #[.slice A n c, .int .i64 i] w (RetSl (words (val xs ^ clampP i)) w) := by
  have hva : val xs < W ^ n := val_lt_pow h.us (by have := h.len; omega)
  obtain ⟨m, hm⟩ : ∃ m, clampP i = m := ⟨_, rfl⟩
  have hm64 := clampP_le i
  rw [hm] at hm64
  rw [hm]
  have HM := Lib.hid hm
  have HVA := Lib.hid hva
  clear hm hva
  go_enter Tryz.func23, Tryz.ntmps23
  go_upto_region 1 with (fail)
  go_cut [1] (fun s1 wx => s1 = .int .i64 m ∧ w = wx)
  case first =>
    by_cases h1 : i < 0
    · go_wp2_with fail
      go_meet
      exact ⟨vint (by have := HM.out; rw [clampP_neg (by omega)] at this; omega), rfl⟩
    · by_cases h2 : i > 64
      · go_wp2_with fail
        go_meet
        exact ⟨vint (by have := HM.out; rw [clampP_big (by omega)] at this; omega), rfl⟩
      · go_wp2_with fail
        go_meet
        exact ⟨vint (by have := HM.out; rw [clampP_mid (by omega) (by omega)] at this; omega), rfl⟩
  case rest =>
    obtain ⟨rfl, rfl⟩ := hcut
    go_wp2_with fail
    refine (nat_of 1 U_1 _).mono ?_
    rintro e w1 ⟨A1, n1, c1, rfl, s1, b1⟩
    go_wp2_with fail
    go_loopw [5, 6] (fun r bit wr => ∃ (j t : Nat) (B : Option Addr) (k cc : Nat), j ≤ 7 ∧ Hid (t = 2 ^ j / 2) ∧ bit = .int .i64 t ∧ r = .slice B k cc ∧ Sl wr B k cc (words (val xs ^ (m / 2 ^ j))) ∧ Below w.heap.size w wr) (fun _ bit _ => mes bit)
    case atStart =>
      refine ⟨7, 64, A1, n1, c1, by omega, Lib.hid rfl, rfl, rfl, ?_, b1⟩
      rw [show m / 2 ^ 7 = 0 by omega, Nat.pow_zero]
      exact s1
    case round =>
      clear s1 b1
      obtain ⟨j, t, B, k, cc, hj, HT, rfl, rfl, s, hb⟩ := hrel
      by_cases hj0 : j = 0
      · subst hj0
        obtain rfl : t = 0 := HT.out
        rw [show m / 2 ^ 0 = m by simp] at s
        go_wp2_with fail
        go_ret
        exact ⟨_, _, _, rfl, s, hb⟩
      · obtain ⟨i, rfl⟩ : ∃ i, j = i + 1 := ⟨j - 1, by omega⟩
        have ht : t = 2 ^ i := by rw [HT.out, Nat.pow_succ]; omega
        obtain ⟨p1, p2⟩ := pow_le_64 (j := i) (by omega)
        have ht2 : ((t : Int)) / 2 = ((2 ^ i / 2 : Nat) : Int) := by rw [ht]; omega
        have hph := pow_half m i
        have hme : m / 2 ^ (i + 1) ≤ 64 := Nat.le_trans (Nat.div_le_self _ _) hm64
        have hk := s.powSmall HVA.out hn (by omega)
        have M1 := prod_mul s s (by omega)
        rw [val_words, pow_sq] at M1
        have hlt : mes (.int .i64 ((2 ^ i / 2 : Nat) : Int)) < mes (.int .i64 (t : Int)) := mes_lt (by omega) (by omega)
        obtain ⟨t2, et2⟩ : ∃ t2, 2 ^ i / 2 = t2 := ⟨_, rfl⟩
        rw [et2] at ht2 hlt
        have ht2b : t2 ≤ 64 := by omega
        have HT2 := Lib.hid et2
        have HLT := Lib.hid hlt
        have HM1 := Lib.hid M1
        have HPH := Lib.hid hph
        clear et2 M1 hph hlt
        by_cases hbit : m / 2 ^ i % 2 = 1
        · have hb1 := pow_bit_yes hm64 (by omega) hbit
          rw [← ht] at hb1
          have HBIT := Lib.hid hbit
          have ht64 : 0 < t := by omega
          clear ht HT hbit p1 p2
          go_wp2_with fail
          refine HM1.out.mono ?_
          rintro e w2 ⟨A2, n2, c2, rfl, s2, b2⟩
          have hb2 := hb.trans (b2.mono hb.size)
          have hk2 := s2.powSmall HVA.out hn (by omega)
          have M2 := prod_mul s2 (h.below hb2) (by omega)
          rw [val_words, ← Nat.pow_succ] at M2
          have HM2 := Lib.hid M2
          clear M2 b2
          go_wp2_with fail
          refine HM2.out.mono ?_
          rintro e w3 ⟨A3, n3, c3, rfl, s3, b3⟩
          go_wp2_with fail
          go_roundw
          case rel => exact ⟨i, t2, A3, n3, c3, by omega, Lib.hid HT2.out.symm, rfl, rfl, (by rw [HPH.out, HBIT.out]; exact s3), hb2.trans (b3.mono hb2.size)⟩
          case measure => exact HLT.out
        · have hb1 := pow_bit_no hm64 (by omega) hbit
          rw [← ht] at hb1
          have hbit0 : m / 2 ^ i % 2 = 0 := by omega
          have HBIT := Lib.hid hbit0
          have ht64 : 0 < t := by omega
          clear ht HT hbit hbit0 p1 p2
          go_wp2_with fail
          refine HM1.out.mono ?_
          rintro e w2 ⟨A2, n2, c2, rfl, s2, b2⟩
          have hb2 := hb.trans (b2.mono hb.size)
          clear b2
          go_wp2_with fail
          go_roundw
          case rel => exact ⟨i, t2, A2, n2, c2, by omega, Lib.hid HT2.out.symm, rfl, rfl, (by rw [HPH.out, HBIT.out]; exact s2), hb2⟩
          case measure => exact HLT.out

end Go.Proofs.YtnheefhbchkbdaaGreatDoor
