/-
  What the document's own quotients and roots (package gradineref04) return. Conditions: the slices read as lists of words, of at most 1000 words.
-/
import Derived.Test.YtnheefhbchkbdaaDoorQuotRoot
import Derived.Test.YtnheefhbchkbdaaDoorRefProd
import Derived.Test.YtnheefhbchkbdaaDoorRefShift
import Derived.Deep.RegionHeld3
namespace Go.Proofs.YtnheefhbchkbdaaDoor
set_option maxRecDepth 100000
open Go.RowKit
set_option linter.unusedVariables false
set_option linter.unusedSimpArgs false

/-! ### a bit more: plain -/
/-- word k of a list that is continued by zeros, with bit s set if k is p -/
def setWord (xs : List Int) (p s k : Nat) : Int := if k = p then xs.getD k 0 + ((2 ^ s : Nat) : Int) else xs.getD k 0
/-- where a list with a bit more stands -/
def SetInv (xs : List Int) (p s k : Nat) (zs : List Int) : Prop :=
  zs.length = k ∧ Dg W zs ∧ valB W zs = valB W (xs.take k) + (if p < k then W ^ p * 2 ^ s else 0)
theorem setInv_0 (xs : List Int) (p s : Nat) : SetInv xs p s 0 [] := ⟨rfl, Dg.nil _, by simp [valB]⟩
theorem setInv_step {xs zs : List Int} {p s k : Nat} (h : SetInv xs p s k zs) (hu : 0 ≤ setWord xs p s k ∧ setWord xs p s k < (W : Int)) (h0 : 0 ≤ xs.getD k 0) : SetInv xs p s (k + 1) (zs ++ [setWord xs p s k]) := by
  obtain ⟨h1, h2, h3⟩ := h
  refine ⟨by simp [h1], h2.snoc hu.1 hu.2, ?_⟩
  rw [valB_snoc, h1, h3, valB_take_succ]
  unfold setWord
  by_cases e : k = p
  · subst e
    rw [if_pos rfl, if_neg (Nat.lt_irrefl k), if_pos (Nat.lt_succ_self k)]
    have : (xs.getD k 0 + ((2 ^ s : Nat) : Int)).toNat = (xs.getD k 0).toNat + 2 ^ s := by
      generalize 2 ^ s = X
      omega
    rw [this, Nat.mul_add]
    omega
  · rw [if_neg e]
    by_cases e2 : p < k
    · rw [if_pos e2, if_pos (show p < k + 1 by omega)]; omega
    · rw [if_neg e2, if_neg (show ¬ p < k + 1 by omega)]; omega
theorem setInv_end {xs zs : List Int} {p s N : Nat} (h : SetInv xs p s N zs) (hp : p < N) (hN : xs.length ≤ N) : val zs = val xs + W ^ p * 2 ^ s := by
  obtain ⟨h1, h2, h3⟩ := h
  rw [if_pos hp, List.take_of_length_le hN] at h3
  exact h3
theorem or_bit_nat {n s : Nat} (h0 : n / 2 ^ s % 2 = 0) : n ||| 2 ^ s = n + 2 ^ s := by
  have hp : 0 < 2 ^ s := Nat.two_pow_pos s
  have hl : n % 2 ^ s < 2 ^ s := Nat.mod_lt _ hp
  have hn : n = 2 ^ (s + 1) * (n / 2 ^ s / 2) + n % 2 ^ s := by
    have h1 := Nat.div_add_mod n (2 ^ s)
    have h2 : n / 2 ^ s = 2 * (n / 2 ^ s / 2) := by omega
    rw [h2] at h1
    rw [Nat.pow_succ, Nat.mul_assoc]
    exact h1.symm
  generalize n / 2 ^ s / 2 = q at hn
  generalize n % 2 ^ s = lo at hn hl
  have hz : 2 ^ (s + 1) * q % 2 ^ (s + 1) = 0 := Nat.mul_mod_right _ _
  have e1 : 2 ^ (s + 1) * q ||| lo = 2 ^ (s + 1) * q + lo := nat_join (s + 1) _ _ hz (by rw [Nat.pow_succ]; omega)
  have e2 : 2 ^ s ||| lo = 2 ^ s + lo := nat_join s _ _ (Nat.mod_self _) hl
  have e3 : 2 ^ (s + 1) * q ||| (2 ^ s + lo) = 2 ^ (s + 1) * q + (2 ^ s + lo) := nat_join (s + 1) _ _ hz (by rw [Nat.pow_succ]; omega)
  rw [hn, ← e1, Nat.or_assoc, Nat.or_comm lo, e2, e3]
  rw [e1]
  omega
/-- a bit that is not set can be set by a sum -/
theorem or_bit {x : Int} {s : Nat} (hx : U x) (hs : s < 64) (h0 : x.toNat / 2 ^ s % 2 = 0) : bits BinOp.or IntKind.u64 x ((2 ^ s : Nat) : Int) = x + ((2 ^ s : Nat) : Int) ∧ U (x + ((2 ^ s : Nat) : Int)) := by
  obtain ⟨n, rfl⟩ := Int.eq_ofNat_of_zero_le hx.1
  have hn : n < 18446744073709551616 := by have := hx.2; omega
  have hp : 2 ^ s < 18446744073709551616 := by
    have := Nat.pow_lt_pow_right (show 1 < 2 by omega) hs; simpa using this
  rw [Int.toNat_natCast] at h0
  have ho := or_bit_nat h0
  have hlt : n ||| 2 ^ s < 2 ^ 64 := Nat.or_lt_two_pow (by omega) (by omega)
  rw [u64_or_nat n _ hn hp, ho]
  rw [ho] at hlt
  refine ⟨by simp, ?_⟩
  generalize 2 ^ s = X at *
  unfold U
  omega

/-- a call that returns a slice of at most K words that say v -/
def RetLe (K v : Nat) (w : World) (e : Ending) (w' : World) : Prop := ∃ A n c zs, e = .returned (.slice A n c) ∧ n ≤ K ∧ Sl w' A n c zs ∧ val zs = v ∧ Below w.heap.size w w'

end Go.Proofs.YtnheefhbchkbdaaDoor
