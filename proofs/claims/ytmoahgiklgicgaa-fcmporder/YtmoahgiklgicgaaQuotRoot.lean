/-
  What quot.Root and quot.Square return: the root, rounded down, by Newton's steps; whether a number is a square. Conditions: the slices read as lists of words, of at most 10^5 words.
-/
import Derived.Test.YtmoahgiklgicgaaQuotDiv
namespace Go.Proofs.Ytmoahgiklgicgaa
set_option maxRecDepth 100000
open Go.RowKit
set_option linter.unusedVariables false
set_option linter.unusedSimpArgs false

theorem U_nat {x : Nat} (h : x < 18446744073709551616) : U (x : Int) := by unfold U; omega
theorem two_words (k : Nat) : (List.replicate (k / 64 + 1) (0 : Int)).set (k / 64) ((2 ^ (k % 64) : Nat) : Int) = words (2 ^ k) := by
  have hp : 2 ^ (k % 64) < W := by
    rw [W_pow]; exact Nat.pow_lt_pow_right (by omega) (Nat.mod_lt _ (by omega))
  have h0 : 0 < 2 ^ (k % 64) := Nat.two_pow_pos _
  generalize hx : 2 ^ (k % 64) = x at *
  have hd : Dg W ((List.replicate (k / 64 + 1) (0 : Int)).set (k / 64) (x : Int)) := (Dg.zeros W_pos _).set _ (by omega) (by omega)
  have hv : val ((List.replicate (k / 64 + 1) (0 : Int)).set (k / 64) (x : Int)) = 2 ^ k := by
    unfold val
    rw [set_val W _ _ (by simp) x (getD_zeros _ _), valB_zeros, ← hx, pow_shift]
    omega
  have hs : sz ((List.replicate (k / 64 + 1) (0 : Int)).set (k / 64) (x : Int)) = k / 64 + 1 := by
    refine sz_unique _ _ (fun j hj => ?_) (.inr ?_)
    · rw [getD_set_ne _ (by omega)]; exact getD_zeros _ _
    · rw [Nat.add_sub_cancel, getD_set_self _ (by simp)]; omega
  rw [← hv, words_val hd, trim, hs, List.take_of_length_le (by simp)]

theorem half_add {a b k : Nat} (ha : a < W ^ k) (hb : b < W ^ k) : (a + b) / 2 < W ^ k := by omega

end Go.Proofs.Ytmoahgiklgicgaa
