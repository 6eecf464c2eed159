/-
  Plain mathematics of long products: a row of a product, sums into a list, the Karatsuba identity, powers by squaring. No Go in sight. Conditions: those that each theorem names.
-/
import Derived.Test.YtmoahgiklgicgaaNatMath
namespace Go.Proofs.Ytmoahgiklgicgaa
set_option maxRecDepth 100000
open Go.RowKit
set_option linter.unusedVariables false
set_option linter.unusedSimpArgs false

/-! ### a row -/
/-- where a row that is added stands: k words of xs are gone through -/
def RowInv (zs xs : List Int) (off : Nat) (m : Int) (k : Nat) (cy : Int) (ys : List Int) : Prop :=
  ys.length = zs.length ∧ Dg W ys ∧ U cy ∧ valB W ys + W ^ (off + k) * cy.toNat = valB W zs + W ^ off * (valB W (xs.take k) * m.toNat) ∧ ∀ j, off + k ≤ j → ys.getD j 0 = zs.getD j 0
theorem rowInv_0 {zs : List Int} (hd : Dg W zs) (xs : List Int) (off : Nat) (m : Int) : RowInv zs xs off m 0 0 zs :=
  ⟨rfl, hd, U_0, by simp [valB], fun _ _ => rfl⟩
/-- what one word of a row comes to -/
theorem row_word {x m z cy : Int} (hx : U x) (hm : U m) (hz : U z) (hc : U cy) :
    U (hi64 (x * m) + hi64 (lo64 (x * m) + z + cy)) ∧ x.toNat * m.toNat + z.toNat + cy.toNat = (lo64 (lo64 (x * m) + z + cy)).toNat + W * (hi64 (x * m) + hi64 (lo64 (x * m) + z + cy)).toNat := by
  have hb := mul_bound (A := 18446744073709551615) (B := 18446744073709551615) hx.1 (by have := hx.2; omega) hm.1 (by have := hm.2; omega)
  have e : x.toNat * m.toNat = (x * m).toNat := by rw [Int.toNat_mul hx.1 hm.1]
  rw [e]
  generalize x * m = p at *
  unfold U at *
  unfold hi64 lo64 W
  omega
theorem row_alg (b P Q A B X m c d cy' y z : Nat) (h : A + P * Q * c = B + P * (X * m)) (e : y * m + z + c = d + b * cy') : A + P * Q * d + P * Q * b * cy' = B + P * ((X + Q * y) * m) + P * Q * z := by
  have e1 : P * Q * d + P * Q * b * cy' = P * Q * (y * m + z + c) := by rw [e, Nat.mul_add, Nat.mul_assoc (P * Q) b cy']
  have e2 : P * ((X + Q * y) * m) = P * (X * m) + P * Q * (y * m) := by grind
  have e3 : P * Q * (y * m + z + c) = P * Q * (y * m) + P * Q * z + P * Q * c := by rw [Nat.mul_add, Nat.mul_add]
  omega
theorem rowInv_step {zs xs ys : List Int} {off k : Nat} {m cy d cy' : Int} (hx : Dg W xs) (h : RowInv zs xs off m k cy ys) (hk : off + k < zs.length)
    (hd : U d) (hc' : U cy') (e : (xs.getD k 0).toNat * m.toNat + (zs.getD (off + k) 0).toNat + cy.toNat = d.toNat + W * cy'.toNat) : RowInv zs xs off m (k + 1) cy' (ys.set (off + k) d) := by
  obtain ⟨h1, h2, h3, h4, h5⟩ := h
  refine ⟨by rw [List.length_set, h1], h2.set _ hd.1 (by have := hd.2; unfold W; omega), hc', ?_, fun j hj => ?_⟩
  · have hs := valB_set W ys (off + k) (by omega) d
    rw [h5 (off + k) (Nat.le_refl _)] at hs
    rw [valB_take_succ]
    rw [Nat.pow_add] at h4 hs
    have := row_alg W (W ^ off) (W ^ k) _ _ _ _ _ _ _ _ _ h4 e
    rw [show off + (k + 1) = off + k + 1 from rfl, Nat.pow_succ, Nat.pow_add]
    omega
  · rw [getD_set_ne _ (by omega)]
    exact h5 j (by omega)
/-- a row was added: xs * m, from place off on -/
def Rowed (zs xs : List Int) (off n v : Nat) (ys : List Int) : Prop :=
  ys.length = zs.length ∧ Dg W ys ∧ valB W ys = valB W zs + W ^ off * v ∧ ∀ j, off + n < j → ys.getD j 0 = zs.getD j 0
theorem rowInv_end {zs xs ys : List Int} {off n : Nat} {m cy : Int} (h : RowInv zs xs off m n cy ys) (hn : xs.length = n) (hk : off + n < zs.length) (h0 : zs.getD (off + n) 0 = 0) :
    Rowed zs xs off n (val xs * m.toNat) (ys.set (off + n) cy) := by
  obtain ⟨h1, h2, h3, h4, h5⟩ := h
  refine ⟨by rw [List.length_set, h1], h2.set _ h3.1 (by have := h3.2; unfold W; omega), ?_, fun j hj => ?_⟩
  · have hs := valB_set W ys (off + n) (by omega) cy
    rw [h5 (off + n) (Nat.le_refl _), h0] at hs
    rw [List.take_of_length_le (by omega)] at h4
    unfold val
    simp at hs
    omega
  · rw [getD_set_ne _ (by omega)]
    exact h5 j (by omega)

/-! ### row by row -/
/-- where a product row by row stands: i words of ys are gone through -/
def RowsInv (xs ys : List Int) (N i : Nat) (zs : List Int) : Prop :=
  zs.length = N ∧ Dg W zs ∧ valB W zs = valB W xs * valB W (ys.take i) ∧ ∀ j, xs.length + i ≤ j → zs.getD j 0 = 0
theorem rowsInv_0 (xs ys : List Int) (N : Nat) : RowsInv xs ys N 0 (List.replicate N 0) :=
  ⟨by simp, Dg.zeros W_pos _, by rw [valB_zeros]; simp [valB], fun j _ => getD_zeros N j⟩
theorem rowsInv_step {xs ys zs us : List Int} {N i : Nat} (h : RowsInv xs ys N i zs) (hr : Rowed zs xs i xs.length (val xs * (ys.getD i 0).toNat) us) : RowsInv xs ys N (i + 1) us := by
  obtain ⟨h1, h2, h3, h4⟩ := h
  obtain ⟨r1, r2, r3, r4⟩ := hr
  refine ⟨by rw [r1, h1], r2, ?_, fun j hj => ?_⟩
  · rw [r3, h3, valB_take_succ, Nat.mul_add]
    unfold val
    have e : W ^ i * (valB W xs * (ys.getD i 0).toNat) = valB W xs * (W ^ i * (ys.getD i 0).toNat) := by
      rw [← Nat.mul_assoc, Nat.mul_comm (W ^ i), Nat.mul_assoc]
    rw [e]
  · rw [r4 j (by omega)]; exact h4 j (by omega)

/-! ### a number is added into a list -/
/-- where a sum into a list stands: k words are gone through -/
def IntoInv (zs xs : List Int) (off : Nat) (k : Nat) (cy : Int) (ys : List Int) : Prop :=
  ys.length = zs.length ∧ Dg W ys ∧ (0 ≤ cy ∧ cy ≤ 1) ∧ valB W ys + W ^ (off + k) * cy.toNat = valB W zs + W ^ off * valB W (xs.take k) ∧ ∀ j, off + k ≤ j → ys.getD j 0 = zs.getD j 0
theorem intoInv_0 {zs : List Int} (hd : Dg W zs) (xs : List Int) (off : Nat) : IntoInv zs xs off 0 0 zs :=
  ⟨rfl, hd, by omega, by simp [valB], fun _ _ => rfl⟩
theorem into_word {x z cy : Int} (hx : U x) (hz : U z) (hc : 0 ≤ cy ∧ cy ≤ 1) :
    (0 ≤ hi64 (z + x + cy) ∧ hi64 (z + x + cy) ≤ 1) ∧ x.toNat + z.toNat + cy.toNat = (lo64 (z + x + cy)).toNat + W * (hi64 (z + x + cy)).toNat := by
  unfold U at *
  unfold hi64 lo64 W
  omega
theorem into_alg (b P Q A B X c d cy' y z : Nat) (h : A + P * Q * c = B + P * X) (e : y + z + c = d + b * cy') : A + P * Q * d + P * Q * b * cy' = B + P * (X + Q * y) + P * Q * z := by
  have e1 : P * Q * d + P * Q * b * cy' = P * Q * (y + z + c) := by rw [e, Nat.mul_add, Nat.mul_assoc (P * Q) b cy']
  have e2 : P * (X + Q * y) = P * X + P * Q * y := by rw [Nat.mul_add, Nat.mul_assoc]
  have e3 : P * Q * (y + z + c) = P * Q * y + P * Q * z + P * Q * c := by rw [Nat.mul_add, Nat.mul_add]
  omega
theorem intoInv_step {zs xs ys : List Int} {off k : Nat} {cy d cy' : Int} (h : IntoInv zs xs off k cy ys) (hk : off + k < zs.length)
    (hd : U d) (hc' : 0 ≤ cy' ∧ cy' ≤ 1) (e : (xs.getD k 0).toNat + (zs.getD (off + k) 0).toNat + cy.toNat = d.toNat + W * cy'.toNat) : IntoInv zs xs off (k + 1) cy' (ys.set (off + k) d) := by
  obtain ⟨h1, h2, h3, h4, h5⟩ := h
  refine ⟨by rw [List.length_set, h1], h2.set _ hd.1 (by have := hd.2; unfold W; omega), hc', ?_, fun j hj => ?_⟩
  · have hs := valB_set W ys (off + k) (by omega) d
    rw [h5 (off + k) (Nat.le_refl _)] at hs
    rw [valB_take_succ]
    rw [Nat.pow_add] at h4 hs
    have := into_alg W (W ^ off) (W ^ k) _ _ _ _ _ _ _ _ h4 e
    rw [show off + (k + 1) = off + k + 1 from rfl, Nat.pow_succ, Nat.pow_add]
    omega
  · rw [getD_set_ne _ (by omega)]
    exact h5 j (by omega)
/-- a number was added from place off on -/
def Intoed (zs : List Int) (off v : Nat) (ys : List Int) : Prop := ys.length = zs.length ∧ Dg W ys ∧ valB W ys = valB W zs + W ^ off * v
/-- nothing is left to add -/
theorem intoInv_stop {zs xs ys : List Int} {off k : Nat} (h : IntoInv zs xs off k 0 ys) (hk : xs.length ≤ k) : Intoed zs off (val xs) ys := by
  obtain ⟨h1, h2, h3, h4, h5⟩ := h
  rw [List.take_of_length_le hk] at h4
  exact ⟨h1, h2, by simpa [val] using h4⟩
/-- at the list's end the sum fits: no carry is left -/
theorem intoInv_end {zs xs ys : List Int} {off k : Nat} {cy : Int} (h : IntoInv zs xs off k cy ys) (hk : xs.length ≤ k) (hl : off + k = zs.length) (hfit : valB W zs + W ^ off * val xs < W ^ zs.length) : Intoed zs off (val xs) ys := by
  have h' := h
  obtain ⟨h1, h2, h3, h4, h5⟩ := h
  have h0 : cy = 0 := by
    rcases (show cy = 0 ∨ cy = 1 by omega) with e | e
    · exact e
    · exfalso
      subst e
      rw [List.take_of_length_le hk, hl] at h4
      unfold val at hfit
      simp at h4
      omega
  subst h0
  exact intoInv_stop h' hk

/-! ### three products of halves -/
theorem kara (b x y : Nat) {al ah bl bh low high mid : Nat} (hx : x = al + b * ah) (hy : y = bl + b * bh) (hl : low = al * bl) (hh : high = ah * bh) (hm : mid + (low + high) = (al + ah) * (bl + bh)) : low + b * b * high + b * mid = x * y := by
  subst hx hy
  have e : (al + b * ah) * (bl + b * bh) = al * bl + b * b * (ah * bh) + b * (al * bh + ah * bl) := by grind
  have e2 : (al + ah) * (bl + bh) = al * bl + ah * bh + (al * bh + ah * bl) := by grind
  rw [e, ← hl, ← hh]
  have : mid = al * bh + ah * bl := by omega
  rw [this]
theorem kara_le {al ah bl bh : Nat} : al * bl + ah * bh ≤ (al + ah) * (bl + bh) := by
  have e2 : (al + ah) * (bl + bh) = al * bl + ah * bh + (al * bh + ah * bl) := by grind
  omega

theorem valB_over (b : Nat) (xs : List Int) (k : Nat) : valB b (xs ++ List.replicate k 0) = valB b xs := by rw [valB_append, valB_zeros]; simp
/-- parts of a number -/
theorem val_take_drop (xs : List Int) (k : Nat) : val xs = val (xs.take k) + W ^ k * val (xs.drop k) := valB_split W xs k
theorem prod_fits {xs ys : List Int} (hx : Dg W xs) (hy : Dg W ys) : val xs * val ys < W ^ (xs.length + ys.length) := by
  rw [Nat.pow_add]; exact Nat.mul_lt_mul_of_lt_of_le (valB_lt hx) (Nat.le_of_lt (valB_lt hy)) (Nat.pow_pos W_pos)
theorem lt_of_mul_lt_pow {a k l : Nat} (h : W ^ k * a < W ^ (k + l)) : a < W ^ l := by
  rw [Nat.pow_add] at h
  exact Nat.lt_of_mul_lt_mul_left h
theorem prod_halves_eq (b x y : Nat) {al ah p q : Nat} (hx : x = al + b * ah) (hp : p = al * y) (hq : q = ah * y) : p + b * q = x * y := by
  subst hx hp hq; grind

/-! ### powers -/
def clampP (n : Int) : Nat := if n < 0 then 0 else if n > 64 then 64 else n.toNat
theorem clampP_le (n : Int) : clampP n ≤ 64 := by unfold clampP; split <;> (try split) <;> omega
theorem clampP_neg {n : Int} (h : n < 0) : clampP n = 0 := by unfold clampP; rw [if_pos h]
theorem clampP_big {n : Int} (h : 64 < n) : clampP n = 64 := by unfold clampP; rw [if_neg (by omega), if_pos h]
theorem clampP_mid {n : Int} (h : 0 ≤ n) (h' : n ≤ 64) : clampP n = n.toNat := by unfold clampP; rw [if_neg (by omega), if_neg (by omega)]
theorem mul_lt_powW {a b k l : Nat} (ha : a < W ^ k) (hb : b < W ^ l) : a * b < W ^ (k + l) := by
  rw [Nat.pow_add]; exact Nat.mul_lt_mul_of_lt_of_le ha (Nat.le_of_lt hb) (Nat.pow_pos W_pos)
theorem pow_lt_powW {a k : Nat} (ha : a < W ^ k) (e : Nat) : a ^ e < W ^ (k * e + 1) := by
  have h : a ^ e ≤ (W ^ k) ^ e := Nat.pow_le_pow_left (Nat.le_of_lt ha) e
  rw [← Nat.pow_mul] at h
  have : W ^ (k * e) * 2 ≤ W ^ (k * e) * W := Nat.mul_le_mul_left _ two_le_W
  have : 0 < W ^ (k * e) := Nat.pow_pos W_pos
  rw [Nat.pow_succ]
  omega
theorem pow_sq (a e : Nat) : a ^ e * a ^ e = a ^ (2 * e) := by rw [← Nat.pow_add]; congr 1; omega

end Go.Proofs.Ytmoahgiklgicgaa
