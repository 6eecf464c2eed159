/-
  The walks of the laws of layer 2: each returns true for any numbers. Conditions: the slices read as lists of words; the integers fit their kind.
-/
import Derived.Test.YtmoahgiklgicgaaNatSub
import Derived.Test.YtmoahgiklgicgaaNatTrim
import Derived.Test.YtmoahgiklgicgaaNatShl
import Derived.Test.YtmoahgiklgicgaaRefAdd
namespace Go.Proofs.Ytmoahgiklgicgaa
set_option maxRecDepth 100000
open Go.RowKit
set_option linter.unusedVariables false
set_option linter.unusedSimpArgs false

theorem words_carry : words (val [18446744073709551615] + val [1]) = [0, 1] := by
  have e : val [18446744073709551615] + val [1] = val [0, 1] := by decide
  rw [e, words_val (by intro x hx; simp at hx; rcases hx with rfl | rfl <;> (unfold W; omega))]
  decide
theorem sl_lit (w : World) (x : Int) (hx : U x) : Sl (w.alloc (.cells #[.int .u64 x] 22)) (some ⟨w.heap.size, 0, none⟩) 1 1 [x] :=
  (Row.lit w 22 [x]).sl (by intro y hy; simp at hy; subst hy; exact hx) (by simp)
theorem below_alloc (w : World) (o : Obj) : Below w.heap.size w (w.alloc o) := (Below.refl _ _).alloc (Nat.le_refl _) _

theorem bits_carry : blen (val [0, 1]) = 65 := by decide
theorem even_twelve : tz (val [12]) = 2 := by decide

theorem val_lt_pow {xs : List Int} (h : ∀ x ∈ xs, U x) {k : Nat} (hk : xs.length ≤ k) : val xs < W ^ k :=
  Nat.lt_of_lt_of_le (valB_lt (Dg_U h)) (Nat.pow_le_pow_right W_pos hk)
theorem add_lt_pow {a b k : Nat} (ha : a < W ^ k) (hb : b < W ^ k) : a + b < W ^ (k + 1) := by
  have : W ^ k * 2 ≤ W ^ k * W := Nat.mul_le_mul_left _ two_le_W
  rw [Nat.pow_succ]
  omega
theorem lt_pow_mono {a k l : Nat} (ha : a < W ^ k) (h : k ≤ l) : a < W ^ l := Nat.lt_of_lt_of_le ha (Nat.pow_le_pow_right W_pos h)
theorem Sl.small {w : World} {A : Option Addr} {n c v k : Nat} (h : Sl w A n c (words v)) (hv : v < W ^ k) : n ≤ k := by
  rw [h.len]; exact words_length v k hv

end Go.Proofs.Ytmoahgiklgicgaa
