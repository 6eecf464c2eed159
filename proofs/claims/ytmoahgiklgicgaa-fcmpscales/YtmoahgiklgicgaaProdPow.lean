/-
  What prod.Pow returns: the power, the exponent taken between 0 and 64. Conditions: the slice reads as a list of words, of at most 1000 words.
-/
import Derived.Test.YtmoahgiklgicgaaProdKara
import Derived.Deep.DeepCutAuto
namespace Go.Proofs.Ytmoahgiklgicgaa
set_option maxRecDepth 100000
open Go.RowKit
set_option linter.unusedVariables false
set_option linter.unusedSimpArgs false

theorem pow_bits : ∀ m, m < 65 → ∀ j, j < 7 → bits BinOp.and IntKind.i64 ((m : Nat) : Int) ((2 ^ j : Nat) : Int) = if m / 2 ^ j % 2 = 1 then ((2 ^ j : Nat) : Int) else 0 := by decide +kernel
theorem pow_bit_yes {m j : Nat} (hm : m ≤ 64) (hj : j < 7) (h : m / 2 ^ j % 2 = 1) : (bits BinOp.and IntKind.i64 ((m : Nat) : Int) ((2 ^ j : Nat) : Int) != 0) = true := by
  rw [pow_bits m (by omega) j hj, if_pos h]
  have := Nat.two_pow_pos j
  generalize 2 ^ j = p at this
  simp
  omega
theorem pow_bit_no {m j : Nat} (hm : m ≤ 64) (hj : j < 7) (h : ¬ m / 2 ^ j % 2 = 1) : (bits BinOp.and IntKind.i64 ((m : Nat) : Int) ((2 ^ j : Nat) : Int) != 0) = false := by
  rw [pow_bits m (by omega) j hj, if_neg h]
  rfl
theorem pow_half (m j : Nat) : m / 2 ^ j = 2 * (m / 2 ^ (j + 1)) + m / 2 ^ j % 2 := by
  rw [Nat.pow_succ, ← Nat.div_div_eq_div_mul]; omega
theorem pow_le_64 {j : Nat} (h : j < 7) : 2 ^ j ≤ 64 ∧ 0 < 2 ^ j := ⟨by have := Nat.pow_le_pow_right (n := 2) (by omega) (show j ≤ 6 by omega); simpa using this, Nat.two_pow_pos j⟩
theorem Sl.powSmall {w : World} {A : Option Addr} {n c a e k : Nat} (h : Sl w A n c (words (a ^ e))) (ha : a < W ^ k) (hk : k ≤ 1000) (he : e ≤ 128) : n ≤ 128001 := by
  have := h.small (pow_lt_powW ha e)
  have : k * e ≤ 1000 * 128 := Nat.mul_le_mul hk he
  omega

end Go.Proofs.Ytmoahgiklgicgaa
