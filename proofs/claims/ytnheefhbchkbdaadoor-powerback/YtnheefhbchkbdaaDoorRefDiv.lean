/-
  What the document's own quotients (package gradineref04) return. Conditions: the slices read as lists of words, of at most 1000 words; the divisor is not 0.
-/
import Derived.Test.YtnheefhbchkbdaaDoorRefQuot
namespace Go.Proofs.YtnheefhbchkbdaaDoor
set_option maxRecDepth 100000
open Go.RowKit
set_option linter.unusedVariables false
set_option linter.unusedSimpArgs false

/-! ### a quotient bit by bit: plain -/
theorem bit_step (a k : Nat) : a / 2 ^ k = 2 * (a / 2 ^ (k + 1)) + a / 2 ^ k % 2 := by
  rw [Nat.pow_succ, ← Nat.div_div_eq_div_mul]; omega
theorem rdiv_yes {a b k : Nat} (hb : 0 < b) (h : b ≤ 2 * (a / 2 ^ (k + 1) % b) + a / 2 ^ k % 2) :
    2 * (a / 2 ^ (k + 1) % b) + a / 2 ^ k % 2 - b = a / 2 ^ k % b ∧ a / 2 ^ (k + 1) / b * 2 ^ (k + 1) + 2 ^ k = a / 2 ^ k / b * 2 ^ k := by
  have hs := bit_step a k
  have h1 := Nat.div_add_mod (a / 2 ^ (k + 1)) b
  have h2 := Nat.mod_lt (a / 2 ^ (k + 1)) hb
  have h3 : a / 2 ^ k % 2 < 2 := Nat.mod_lt _ (by omega)
  generalize a / 2 ^ k % 2 = t at *
  generalize a / 2 ^ (k + 1) = A1 at *
  generalize A1 % b = r at *
  generalize A1 / b = q at *
  have e : a / 2 ^ k = b * (2 * q + 1) + (2 * r + t - b) := by
    have e1 : b * (2 * q + 1) = 2 * (b * q) + b := by grind
    rw [hs, ← h1, e1]
    omega
  have hlt : 2 * r + t - b < b := by omega
  rw [e, Nat.mul_add_mod, Nat.mod_eq_of_lt hlt, Nat.mul_add_div hb, Nat.div_eq_of_lt hlt]
  refine ⟨rfl, ?_⟩
  rw [Nat.pow_succ]
  grind
theorem rdiv_no {a b k : Nat} (hb : 0 < b) (h : 2 * (a / 2 ^ (k + 1) % b) + a / 2 ^ k % 2 < b) :
    2 * (a / 2 ^ (k + 1) % b) + a / 2 ^ k % 2 = a / 2 ^ k % b ∧ a / 2 ^ (k + 1) / b * 2 ^ (k + 1) = a / 2 ^ k / b * 2 ^ k := by
  have hs := bit_step a k
  have h1 := Nat.div_add_mod (a / 2 ^ (k + 1)) b
  generalize a / 2 ^ k % 2 = t at *
  generalize a / 2 ^ (k + 1) = A1 at *
  generalize A1 % b = r at *
  generalize A1 / b = q at *
  have e : a / 2 ^ k = b * (2 * q) + (2 * r + t) := by
    have e1 : b * (2 * q) = 2 * (b * q) := by grind
    rw [hs, ← h1, e1]
    omega
  rw [e, Nat.mul_add_mod, Nat.mod_eq_of_lt h, Nat.mul_add_div hb, Nat.div_eq_of_lt h]
  refine ⟨rfl, ?_⟩
  rw [Nat.pow_succ]
  grind
theorem qbit_free (Q k : Nat) : Q * 2 ^ (k + 1) / 2 ^ k % 2 = 0 := by
  rw [Nat.pow_succ, Nat.mul_comm (2 ^ k) 2, ← Nat.mul_assoc, Nat.mul_div_cancel _ (Nat.two_pow_pos k)]
  omega
theorem from_start {a b f : Nat} (hb : 0 < b) (h : blen a + 1 ≤ f + blen b) : a / 2 ^ f < b := by
  have h1 := blen_lt a
  have h2 := blen_self hb
  have h3 := blen_pos hb
  rw [Nat.div_lt_iff_lt_mul (Nat.two_pow_pos f)]
  refine Nat.lt_of_lt_of_le h1 ?_
  refine Nat.le_trans (Nat.pow_le_pow_right (by omega) (show blen a ≤ blen b - 1 + f by omega)) ?_
  rw [Nat.pow_add]
  exact Nat.mul_le_mul_right _ h2

end Go.Proofs.YtnheefhbchkbdaaDoor
