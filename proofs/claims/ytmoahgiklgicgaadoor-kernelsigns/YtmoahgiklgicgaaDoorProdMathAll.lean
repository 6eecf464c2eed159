/-
  Plain mathematics of exact numbers: a sign and two naturals as a number of Lean's own Rat; sums, products, quotients, the order. No Go function in sight.
-/
import Derived.Test.YtmoahgiklgicgaaDoorNatMath
namespace Go.Proofs.YtmoahgiklgicgaaDoor
set_option maxRecDepth 100000
open Go.RowKit
set_option linter.unusedVariables false
set_option linter.unusedSimpArgs false

/-! ### a row -/
/-- where a row that is added stands: k words of xs are gone through -/
def RowInv (zs xs : List Int) (off : Nat) (m : Int) (k : Nat) (cy : Int) (ys : List Int) : Prop :=
  ys.length = zs.length ∧ Dg W ys ∧ U cy ∧ valB W ys + W ^ (off + k) * cy.toNat = valB W zs + W ^ off * (valB W (xs.take k) * m.toNat) ∧ ∀ j, off + k ≤ j → ys.getD j 0 = zs.getD j 0
theorem rowInv_0 {zs : List Int} (hd : Dg W zs) (xs : List Int) (off : Nat) (m : Int) : RowInv zs xs off m 0 0 zs :=
  ⟨rfl, hd, U_0, by simp [valB], fun _ _ => rfl⟩
/-- what one word of a row comes to -/
theorem row_word {x m z cy : Int} (hx : U x) (hm : U m) (hz : U z) (hc : U cy) :
    U (hi64 (x * m) + hi64 (lo64 (x * m) + z + cy)) ∧ x.toNat * m.toNat + z.toNat + cy.toNat = (lo64 (lo64 (x * m) + z + cy)).toNat + W * (hi64 (x * m) + hi64 (lo64 (x * m) + z + cy)).toNat := by
  have hb := mul_bound (A := 18446744073709551615) (B := 18446744073709551615) hx.1 (by have := hx.2; omega) hm.1 (by have := hm.2; omega)
  have e : x.toNat * m.toNat = (x * m).toNat := by rw [Int.toNat_mul hx.1 hm.1]
  rw [e]
  generalize x * m = p at *
  unfold U at *
  unfold hi64 lo64 W
  omega
theorem row_alg (b P Q A B X m c d cy' y z : Nat) (h : A + P * Q * c = B + P * (X * m)) (e : y * m + z + c = d + b * cy') : A + P * Q * d + P * Q * b * cy' = B + P * ((X + Q * y) * m) + P * Q * z := by
  have e1 : P * Q * d + P * Q * b * cy' = P * Q * (y * m + z + c) := by rw [e, Nat.mul_add, Nat.mul_assoc (P * Q) b cy']
  have e2 : P * ((X + Q * y) * m) = P * (X * m) + P * Q * (y * m) := by grind
  have e3 : P * Q * (y * m + z + c) = P * Q * (y * m) + P * Q * z + P * Q * c := by rw [Nat.mul_add, Nat.mul_add]
  omega
theorem rowInv_step {zs xs ys : List Int} {off k : Nat} {m cy d cy' : Int} (hx : Dg W xs) (h : RowInv zs xs off m k cy ys) (hk : off + k < zs.length)
    (hd : U d) (hc' : U cy') (e : (xs.getD k 0).toNat * m.toNat + (zs.getD (off + k) 0).toNat + cy.toNat = d.toNat + W * cy'.toNat) : RowInv zs xs off m (k + 1) cy' (ys.set (off + k) d) := by
  obtain ⟨h1, h2, h3, h4, h5⟩ := h
  refine ⟨by rw [List.length_set, h1], h2.set _ hd.1 (by have := hd.2; unfold W; omega), hc', ?_, fun j hj => ?_⟩
  · have hs := valB_set W ys (off + k) (by omega) d
    rw [h5 (off + k) (Nat.le_refl _)] at hs
    rw [valB_take_succ]
    rw [Nat.pow_add] at h4 hs
    have := row_alg W (W ^ off) (W ^ k) _ _ _ _ _ _ _ _ _ h4 e
    rw [show off + (k + 1) = off + k + 1 from rfl, Nat.pow_succ, Nat.pow_add]
    omega
  · rw [getD_set_ne _ (by omega)]
    exact h5 j (by omega)
/-- a row was added: xs * m, from place off on -/
def Rowed (zs xs : List Int) (off n v : Nat) (ys : List Int) : Prop :=
  ys.length = zs.length ∧ Dg W ys ∧ valB W ys = valB W zs + W ^ off * v ∧ ∀ j, off + n < j → ys.getD j 0 = zs.getD j 0
theorem rowInv_end {zs xs ys : List Int} {off n : Nat} {m cy : Int} (h : RowInv zs xs off m n cy ys) (hn : xs.length = n) (hk : off + n < zs.length) (h0 : zs.getD (off + n) 0 = 0) :
    Rowed zs xs off n (val xs * m.toNat) (ys.set (off + n) cy) := by
  obtain ⟨h1, h2, h3, h4, h5⟩ := h
  refine ⟨by rw [List.length_set, h1], h2.set _ h3.1 (by have := h3.2; unfold W; omega), ?_, fun j hj => ?_⟩
  · have hs := valB_set W ys (off + n) (by omega) cy
    rw [h5 (off + n) (Nat.le_refl _), h0] at hs
    rw [List.take_of_length_le (by omega)] at h4
    unfold val
    simp at hs
    omega
  · rw [getD_set_ne _ (by omega)]
    exact h5 j (by omega)

/-! ### row by row -/
/-- where a product row by row stands: i words of ys are gone through -/
def RowsInv (xs ys : List Int) (N i : Nat) (zs : List Int) : Prop :=
  zs.length = N ∧ Dg W zs ∧ valB W zs = valB W xs * valB W (ys.take i) ∧ ∀ j, xs.length + i ≤ j → zs.getD j 0 = 0
theorem rowsInv_0 (xs ys : List Int) (N : Nat) : RowsInv xs ys N 0 (List.replicate N 0) :=
  ⟨by simp, Dg.zeros W_pos _, by rw [valB_zeros]; simp [valB], fun j _ => getD_zeros N j⟩
theorem rowsInv_step {xs ys zs us : List Int} {N i : Nat} (h : RowsInv xs ys N i zs) (hr : Rowed zs xs i xs.length (val xs * (ys.getD i 0).toNat) us) : RowsInv xs ys N (i + 1) us := by
  obtain ⟨h1, h2, h3, h4⟩ := h
  obtain ⟨r1, r2, r3, r4⟩ := hr
  refine ⟨by rw [r1, h1], r2, ?_, fun j hj => ?_⟩
  · rw [r3, h3, valB_take_succ, Nat.mul_add]
    unfold val
    have e : W ^ i * (valB W xs * (ys.getD i 0).toNat) = valB W xs * (W ^ i * (ys.getD i 0).toNat) := by
      rw [← Nat.mul_assoc, Nat.mul_comm (W ^ i), Nat.mul_assoc]
    rw [e]
  · rw [r4 j (by omega)]; exact h4 j (by omega)

/-! ### a number is added into a list -/
/-- where a sum into a list stands: k words are gone through -/
def IntoInv (zs xs : List Int) (off : Nat) (k : Nat) (cy : Int) (ys : List Int) : Prop :=
  ys.length = zs.length ∧ Dg W ys ∧ (0 ≤ cy ∧ cy ≤ 1) ∧ valB W ys + W ^ (off + k) * cy.toNat = valB W zs + W ^ off * valB W (xs.take k) ∧ ∀ j, off + k ≤ j → ys.getD j 0 = zs.getD j 0
theorem intoInv_0 {zs : List Int} (hd : Dg W zs) (xs : List Int) (off : Nat) : IntoInv zs xs off 0 0 zs :=
  ⟨rfl, hd, by omega, by simp [valB], fun _ _ => rfl⟩
theorem into_word {x z cy : Int} (hx : U x) (hz : U z) (hc : 0 ≤ cy ∧ cy ≤ 1) :
    (0 ≤ hi64 (z + x + cy) ∧ hi64 (z + x + cy) ≤ 1) ∧ x.toNat + z.toNat + cy.toNat = (lo64 (z + x + cy)).toNat + W * (hi64 (z + x + cy)).toNat := by
  unfold U at *
  unfold hi64 lo64 W
  omega
theorem into_alg (b P Q A B X c d cy' y z : Nat) (h : A + P * Q * c = B + P * X) (e : y + z + c = d + b * cy') : A + P * Q * d + P * Q * b * cy' = B + P * (X + Q * y) + P * Q * z := by
  have e1 : P * Q * d + P * Q * b * cy' = P * Q * (y + z + c) := by rw [e, Nat.mul_add, Nat.mul_assoc (P * Q) b cy']
  have e2 : P * (X + Q * y) = P * X + P * Q * y := by rw [Nat.mul_add, Nat.mul_assoc]
  have e3 : P * Q * (y + z + c) = P * Q * y + P * Q * z + P * Q * c := by rw [Nat.mul_add, Nat.mul_add]
  omega
theorem intoInv_step {zs xs ys : List Int} {off k : Nat} {cy d cy' : Int} (h : IntoInv zs xs off k cy ys) (hk : off + k < zs.length)
    (hd : U d) (hc' : 0 ≤ cy' ∧ cy' ≤ 1) (e : (xs.getD k 0).toNat + (zs.getD (off + k) 0).toNat + cy.toNat = d.toNat + W * cy'.toNat) : IntoInv zs xs off (k + 1) cy' (ys.set (off + k) d) := by
  obtain ⟨h1, h2, h3, h4, h5⟩ := h
  refine ⟨by rw [List.length_set, h1], h2.set _ hd.1 (by have := hd.2; unfold W; omega), hc', ?_, fun j hj => ?_⟩
  · have hs := valB_set W ys (off + k) (by omega) d
    rw [h5 (off + k) (Nat.le_refl _)] at hs
    rw [valB_take_succ]
    rw [Nat.pow_add] at h4 hs
    have := into_alg W (W ^ off) (W ^ k) _ _ _ _ _ _ _ _ h4 e
    rw [show off + (k + 1) = off + k + 1 from rfl, Nat.pow_succ, Nat.pow_add]
    omega
  · rw [getD_set_ne _ (by omega)]
    exact h5 j (by omega)
/-- a number was added from place off on -/
def Intoed (zs : List Int) (off v : Nat) (ys : List Int) : Prop := ys.length = zs.length ∧ Dg W ys ∧ valB W ys = valB W zs + W ^ off * v
/-- nothing is left to add -/
theorem intoInv_stop {zs xs ys : List Int} {off k : Nat} (h : IntoInv zs xs off k 0 ys) (hk : xs.length ≤ k) : Intoed zs off (val xs) ys := by
  obtain ⟨h1, h2, h3, h4, h5⟩ := h
  rw [List.take_of_length_le hk] at h4
  exact ⟨h1, h2, by simpa [val] using h4⟩
/-- at the list's end the sum fits: no carry is left -/
theorem intoInv_end {zs xs ys : List Int} {off k : Nat} {cy : Int} (h : IntoInv zs xs off k cy ys) (hk : xs.length ≤ k) (hl : off + k = zs.length) (hfit : valB W zs + W ^ off * val xs < W ^ zs.length) : Intoed zs off (val xs) ys := by
  have h' := h
  obtain ⟨h1, h2, h3, h4, h5⟩ := h
  have h0 : cy = 0 := by
    rcases (show cy = 0 ∨ cy = 1 by omega) with e | e
    · exact e
    · exfalso
      subst e
      rw [List.take_of_length_le hk, hl] at h4
      unfold val at hfit
      simp at h4
      omega
  subst h0
  exact intoInv_stop h' hk

/-! ### three products of halves -/
theorem kara (b x y : Nat) {al ah bl bh low high mid : Nat} (hx : x = al + b * ah) (hy : y = bl + b * bh) (hl : low = al * bl) (hh : high = ah * bh) (hm : mid + (low + high) = (al + ah) * (bl + bh)) : low + b * b * high + b * mid = x * y := by
  subst hx hy
  have e : (al + b * ah) * (bl + b * bh) = al * bl + b * b * (ah * bh) + b * (al * bh + ah * bl) := by grind
  have e2 : (al + ah) * (bl + bh) = al * bl + ah * bh + (al * bh + ah * bl) := by grind
  rw [e, ← hl, ← hh]
  have : mid = al * bh + ah * bl := by omega
  rw [this]
theorem kara_le {al ah bl bh : Nat} : al * bl + ah * bh ≤ (al + ah) * (bl + bh) := by
  have e2 : (al + ah) * (bl + bh) = al * bl + ah * bh + (al * bh + ah * bl) := by grind
  omega

theorem valB_over (b : Nat) (xs : List Int) (k : Nat) : valB b (xs ++ List.replicate k 0) = valB b xs := by rw [valB_append, valB_zeros]; simp
/-- parts of a number -/
theorem val_take_drop (xs : List Int) (k : Nat) : val xs = val (xs.take k) + W ^ k * val (xs.drop k) := valB_split W xs k
theorem prod_fits {xs ys : List Int} (hx : Dg W xs) (hy : Dg W ys) : val xs * val ys < W ^ (xs.length + ys.length) := by
  rw [Nat.pow_add]; exact Nat.mul_lt_mul_of_lt_of_le (valB_lt hx) (Nat.le_of_lt (valB_lt hy)) (Nat.pow_pos W_pos)
theorem lt_of_mul_lt_pow {a k l : Nat} (h : W ^ k * a < W ^ (k + l)) : a < W ^ l := by
  rw [Nat.pow_add] at h
  exact Nat.lt_of_mul_lt_mul_left h
theorem prod_halves_eq (b x y : Nat) {al ah p q : Nat} (hx : x = al + b * ah) (hp : p = al * y) (hq : q = ah * y) : p + b * q = x * y := by
  subst hx hp hq; grind

/-! ### powers -/
def clampP (n : Int) : Nat := if n < 0 then 0 else if n > 64 then 64 else n.toNat
theorem clampP_le (n : Int) : clampP n ≤ 64 := by unfold clampP; split <;> (try split) <;> omega
theorem clampP_neg {n : Int} (h : n < 0) : clampP n = 0 := by unfold clampP; rw [if_pos h]
theorem clampP_big {n : Int} (h : 64 < n) : clampP n = 64 := by unfold clampP; rw [if_neg (by omega), if_pos h]
theorem clampP_mid {n : Int} (h : 0 ≤ n) (h' : n ≤ 64) : clampP n = n.toNat := by unfold clampP; rw [if_neg (by omega), if_neg (by omega)]
theorem mul_lt_powW {a b k l : Nat} (ha : a < W ^ k) (hb : b < W ^ l) : a * b < W ^ (k + l) := by
  rw [Nat.pow_add]; exact Nat.mul_lt_mul_of_lt_of_le ha (Nat.le_of_lt hb) (Nat.pow_pos W_pos)
theorem pow_lt_powW {a k : Nat} (ha : a < W ^ k) (e : Nat) : a ^ e < W ^ (k * e + 1) := by
  have h : a ^ e ≤ (W ^ k) ^ e := Nat.pow_le_pow_left (Nat.le_of_lt ha) e
  rw [← Nat.pow_mul] at h
  have : W ^ (k * e) * 2 ≤ W ^ (k * e) * W := Nat.mul_le_mul_left _ two_le_W
  have : 0 < W ^ (k * e) := Nat.pow_pos W_pos
  rw [Nat.pow_succ]
  omega
theorem pow_sq (a e : Nat) : a ^ e * a ^ e = a ^ (2 * e) := by rw [← Nat.pow_add]; congr 1; omega

end Go.Proofs.YtmoahgiklgicgaaDoor

namespace Go.Proofs.YtmoahgiklgicgaaDoor
set_option maxRecDepth 100000
set_option linter.unusedVariables false

theorem odd_part (v : Nat) (h : v ≠ 0) : ∃ k o, v = 2 ^ k * o ∧ o % 2 = 1 := by
  induction v using Nat.strongRecOn with
  | ind v ih =>
    by_cases h1 : v % 2 = 1
    · exact ⟨0, v, by simp, h1⟩
    · obtain ⟨k, o, e, ho⟩ := ih (v / 2) (by omega) (by omega)
      refine ⟨k + 1, o, ?_, ho⟩
      have e2 : v = 2 * (v / 2) := by omega
      rw [e2, e, Nat.pow_succ, Nat.mul_comm (2 ^ k) 2, Nat.mul_assoc]
theorem tz_of {v k o : Nat} (e : v = 2 ^ k * o) (ho : o % 2 = 1) : tz v = k := by
  refine tz_unique (fun j hj => ?_) ?_
  · have e2 : v = 2 ^ j * (2 * (2 ^ (k - j - 1) * o)) := by
      rw [e, ← Nat.mul_assoc, ← Nat.mul_assoc, ← Nat.pow_succ, ← Nat.pow_add]
      congr 2
      omega
    rw [e2, Nat.mul_div_cancel_left _ (Nat.two_pow_pos j)]
    omega
  · rw [e, Nat.mul_div_cancel_left _ (Nat.two_pow_pos k)]
    exact ho
/-- a number without its factors 2 -/
def odd (v : Nat) : Nat := v / 2 ^ tz v
theorem odd_eq {v : Nat} (h : v ≠ 0) : v = 2 ^ tz v * odd v ∧ odd v % 2 = 1 := by
  obtain ⟨k, o, e, ho⟩ := odd_part v h
  have e2 := tz_of e ho
  have e3 : odd v = o := by
    unfold odd
    rw [e2]
    conv => lhs; rw [e]
    exact Nat.mul_div_cancel_left _ (Nat.two_pow_pos k)
  rw [e2, e3]
  exact ⟨e, ho⟩
theorem odd_le (v : Nat) : odd v ≤ v := Nat.div_le_self _ _
theorem coprime_two {y : Nat} (h : y % 2 = 1) : Nat.Coprime 2 y := by
  unfold Nat.Coprime
  rw [Nat.gcd_rec, h]
  rfl
theorem gcd_pow_odd (k o : Nat) {y : Nat} (h : y % 2 = 1) : Nat.gcd (2 ^ k * o) y = Nat.gcd o y :=
  Nat.Coprime.gcd_mul_left_cancel o (Nat.Coprime.pow_left k (coprime_two h))
theorem gcd_odd_left {x y : Nat} (hx : x ≠ 0) (h : y % 2 = 1) : Nat.gcd (odd x) y = Nat.gcd x y := by
  conv => rhs; rw [(odd_eq hx).1]
  rw [gcd_pow_odd _ _ h]
theorem gcd_start_le {a b : Nat} (ha : a ≠ 0) (hb : b ≠ 0) (h : tz a ≤ tz b) : Nat.gcd a b = Nat.gcd (odd a) (odd b) * 2 ^ tz a := by
  have ea := (odd_eq ha).1
  have eb : b = 2 ^ tz a * (2 ^ (tz b - tz a) * odd b) := by
    conv => lhs; rw [(odd_eq hb).1]
    rw [← Nat.mul_assoc, ← Nat.pow_add]
    congr 2
    omega
  have e : Nat.gcd a b = Nat.gcd (2 ^ tz a * odd a) (2 ^ tz a * (2 ^ (tz b - tz a) * odd b)) := by rw [← ea, ← eb]
  rw [e, Nat.gcd_mul_left, Nat.gcd_comm (odd a), gcd_pow_odd _ _ (odd_eq ha).2, Nat.gcd_comm (odd b), Nat.mul_comm]
theorem gcd_start {a b : Nat} (ha : a ≠ 0) (hb : b ≠ 0) : Nat.gcd a b = Nat.gcd (odd a) (odd b) * 2 ^ min (tz a) (tz b) := by
  rcases Nat.le_total (tz a) (tz b) with h | h
  · rw [Nat.min_eq_left h]; exact gcd_start_le ha hb h
  · rw [Nat.min_eq_right h, Nat.gcd_comm a b, Nat.gcd_comm (odd a)]; exact gcd_start_le hb ha h
/-- a round of halving and taking away -/
theorem gcd_round {x y : Nat} (hx : x % 2 = 1) (hy : y % 2 = 1) (h : y < x) : Nat.gcd (odd (x - y)) y = Nat.gcd x y ∧ odd (x - y) % 2 = 1 ∧ odd (x - y) < x := by
  have h0 : x - y ≠ 0 := by omega
  refine ⟨?_, (odd_eq h0).2, ?_⟩
  · rw [gcd_odd_left h0 hy, Nat.gcd_sub_self_left (by omega)]
  · have := odd_le (x - y); omega
theorem tz_lt {v k : Nat} (h : v < 2 ^ k) (hk : 0 < k) : tz v < k := by
  by_cases h0 : v = 0
  · subst h0; rw [tz_zero]; exact hk
  · have e := (odd_eq h0)
    have ho : 0 < odd v := by have := e.2; omega
    have : 2 ^ tz v ≤ v := by
      conv => rhs; rw [e.1]
      exact Nat.le_mul_of_pos_right _ ho
    exact (Nat.pow_lt_pow_iff_right (by omega)).1 (Nat.lt_of_le_of_lt this h)
/-- Euclid's step -/
theorem gcd_step (a b : Nat) : Nat.gcd b (a % b) = Nat.gcd a b := by
  rw [Nat.gcd_comm b, Nat.gcd_comm a, ← Nat.gcd_rec]
theorem gcd_lt {a b B : Nat} (ha : a < B) (hb : b < B) : Nat.gcd a b < B := by
  rcases Nat.eq_zero_or_pos a with h | h
  · subst h; rw [Nat.gcd_zero_left]; exact hb
  · exact Nat.lt_of_le_of_lt (Nat.gcd_le_left b h) ha
theorem gcd_zero_iff (a b : Nat) : Nat.gcd a b = 0 ↔ a = 0 ∧ b = 0 := by
  constructor
  · intro h; exact ⟨Nat.eq_zero_of_gcd_eq_zero_left h, Nat.eq_zero_of_gcd_eq_zero_right h⟩
  · rintro ⟨rfl, rfl⟩; rfl
theorem gcd_times_lcm (a b : Nat) : Nat.gcd a b * (a / Nat.gcd a b * b) = a * b := by
  rw [← Nat.mul_assoc, Nat.mul_div_cancel' (Nat.gcd_dvd_left a b)]
theorem lcm_turn (a b : Nat) : a / Nat.gcd a b * b = a * (b / Nat.gcd a b) := by
  rcases Nat.eq_zero_or_pos (Nat.gcd a b) with h | h
  · have := (gcd_zero_iff a b).1 h
    simp [this.1, this.2]
  · apply Nat.eq_of_mul_eq_mul_left h
    rw [gcd_times_lcm, Nat.mul_left_comm, Nat.mul_div_cancel' (Nat.gcd_dvd_right a b)]
theorem gcd_parts (a b : Nat) : (Nat.gcd (a / Nat.gcd a b) (b / Nat.gcd a b) = 1) ↔ 0 < a + b := by
  rcases Nat.eq_zero_or_pos (Nat.gcd a b) with h | h
  · have := (gcd_zero_iff a b).1 h
    simp [this.1, this.2]
  · have h2 : Nat.gcd (a / Nat.gcd a b) (b / Nat.gcd a b) = 1 := by rw [Nat.gcd_div (Nat.gcd_dvd_left a b) (Nat.gcd_dvd_right a b), Nat.div_self h]
    constructor
    · intro _
      rcases Nat.eq_zero_or_pos (a + b) with h3 | h3
      · have : a = 0 ∧ b = 0 := by omega
        rw [(gcd_zero_iff a b).2 this] at h
        omega
      · exact h3
    · intro _; exact h2
/-- whether a number divides another one, by the remainder; 0 divides 0 alone -/
theorem dvd_iff (a b : Nat) : a ∣ b ↔ b % a = 0 := Nat.dvd_iff_mod_eq_zero
end Go.Proofs.YtmoahgiklgicgaaDoor

namespace Go.Proofs.YtmoahgiklgicgaaDoor
set_option maxRecDepth 100000
set_option linter.unusedVariables false
set_option linter.unusedSimpArgs false

/-- a natural with a sign -/
def sI (s : Bool) (p : Nat) : Int := if s then -(p : Int) else p
/-- the number of a sign and two naturals -/
def rq (s : Bool) (p q : Nat) : Rat := mkRat (sI s p) q
def neg_ (X : Rat) : Bool := decide (X.num < 0)

theorem sI_natAbs (s : Bool) (p : Nat) : (sI s p).natAbs = p := by unfold sI; cases s <;> simp
theorem sI_zero (s : Bool) : sI s 0 = 0 := by unfold sI; cases s <;> simp
theorem sI_neg (s : Bool) (p : Nat) : decide (sI s p < 0) = (s && decide (p ≠ 0)) := by
  unfold sI; cases s
  · simp
  · rw [Bool.eq_iff_iff]; simp only [if_true, decide_eq_true_eq, Bool.true_and]; omega
theorem sI_not (s : Bool) (p : Nat) : sI (!s) p = - sI s p := by unfold sI; cases s <;> simp
theorem sI_num (X : Rat) : sI (neg_ X) X.num.natAbs = X.num := by
  unfold sI neg_
  by_cases h : X.num < 0
  · simp [h]; omega
  · simp [h]; omega
theorem sI_mul (s t : Bool) (p q : Nat) : sI (s != t) (p * q) = sI s p * sI t q := by
  unfold sI; cases s <;> cases t <;> simp [Int.neg_mul, Int.mul_neg]
theorem sI_mul_nat (s : Bool) (p q : Nat) : sI s (p * q) = sI s p * q := by
  unfold sI; cases s <;> simp [Int.neg_mul]
theorem neg_zero_ (X : Rat) (h : X.num.natAbs = 0) : neg_ X = false := by unfold neg_; exact decide_eq_false (by omega)

/-- in lowest terms -/
theorem rq_cop {s : Bool} {p q : Nat} (h0 : q ≠ 0) (h : Nat.gcd p q = 1) : (rq s p q).num = sI s p ∧ (rq s p q).den = q := by
  unfold rq
  rw [Rat.num_mkRat, Rat.den_mkRat, if_neg h0, if_neg h0, sI_natAbs, Nat.gcd_comm, h]
  simp
theorem rq_red (s : Bool) (p q : Nat) (h0 : q ≠ 0) : rq s p q = rq s (p / Nat.gcd p q) (q / Nat.gcd p q) := by
  have hg : Nat.gcd p q ≠ 0 := fun e => h0 (Nat.eq_zero_of_gcd_eq_zero_right e)
  have h1 : p / Nat.gcd p q * Nat.gcd p q = p := Nat.div_mul_cancel (Nat.gcd_dvd_left p q)
  have h2 : q / Nat.gcd p q * Nat.gcd p q = q := Nat.div_mul_cancel (Nat.gcd_dvd_right p q)
  unfold rq
  have h3 := Rat.mkRat_mul_right (n := sI s (p / Nat.gcd p q)) (d := q / Nat.gcd p q) hg
  rw [← sI_mul_nat, h1, h2] at h3
  exact h3
theorem rq_num (s : Bool) (p q : Nat) (h0 : q ≠ 0) : (rq s p q).num.natAbs = p / Nat.gcd p q ∧ (rq s p q).den = q / Nat.gcd p q ∧ neg_ (rq s p q) = (s && decide (p / Nat.gcd p q ≠ 0)) := by
  have hg : 0 < Nat.gcd p q := Nat.pos_of_ne_zero fun e => h0 (Nat.eq_zero_of_gcd_eq_zero_right e)
  have hq : q / Nat.gcd p q ≠ 0 := by
    have := Nat.div_pos (Nat.le_of_dvd (Nat.pos_of_ne_zero h0) (Nat.gcd_dvd_right p q)) hg
    omega
  have hc : Nat.gcd (p / Nat.gcd p q) (q / Nat.gcd p q) = 1 := Nat.gcd_div_gcd_div_gcd_of_pos_right (Nat.pos_of_ne_zero h0)
  obtain ⟨h1, h2⟩ := rq_cop (s := s) hq hc
  rw [← rq_red s p q h0] at h1 h2
  refine ⟨by rw [h1, sI_natAbs], h2, ?_⟩
  unfold neg_
  rw [h1, sI_neg]
theorem rq_cop' {s : Bool} {p q : Nat} (h0 : q ≠ 0) (h : Nat.gcd p q = 1) : (rq s p q).num.natAbs = p ∧ (rq s p q).den = q ∧ neg_ (rq s p q) = (s && decide (p ≠ 0)) := by
  obtain ⟨h1, h2⟩ := rq_cop (s := s) h0 h
  refine ⟨by rw [h1, sI_natAbs], h2, ?_⟩
  unfold neg_; rw [h1, sI_neg]
theorem rq_self (X : Rat) : rq (neg_ X) X.num.natAbs X.den = X := by unfold rq; rw [sI_num, Rat.mkRat_self]
theorem den_ne (X : Rat) : X.den ≠ 0 := X.den_nz
theorem gcd_num_den (X : Rat) : Nat.gcd X.num.natAbs X.den = 1 := X.reduced
theorem rat_ext {X Y : Rat} (h1 : neg_ X = neg_ Y) (h2 : X.num.natAbs = Y.num.natAbs) (h3 : X.den = Y.den) : X = Y := by
  rw [← rq_self X, ← rq_self Y, h1, h2, h3]

/-- both numbers have at most N words -/
def Sz (X : Rat) (N : Nat) : Prop := X.num.natAbs < W ^ N ∧ X.den < W ^ N
theorem Sz.mono {X : Rat} {N M : Nat} (h : Sz X N) (hm : N ≤ M) : Sz X M :=
  ⟨Nat.lt_of_lt_of_le h.1 (Nat.pow_le_pow_right W_pos hm), Nat.lt_of_lt_of_le h.2 (Nat.pow_le_pow_right W_pos hm)⟩
theorem Sz.neg {X : Rat} {N : Nat} (h : Sz X N) : Sz (-X) N := by
  refine ⟨?_, h.2⟩
  rw [Rat.neg_num, Int.natAbs_neg]; exact h.1
theorem rq_sz {s : Bool} {p q N : Nat} (h0 : q ≠ 0) (hp : p < W ^ N) (hq : q < W ^ N) : Sz (rq s p q) N := by
  obtain ⟨h1, h2, _⟩ := rq_num s p q h0
  refine ⟨?_, ?_⟩
  · rw [h1]; exact Nat.lt_of_le_of_lt (Nat.div_le_self _ _) hp
  · rw [h2]; exact Nat.lt_of_le_of_lt (Nat.div_le_self _ _) hq
theorem two_pow_W (k : Nat) : 2 * W ^ k ≤ W ^ (k + 1) := by
  rw [Nat.pow_succ, Nat.mul_comm]; exact Nat.mul_le_mul_left _ (by unfold W; omega)
theorem mk_rq (z : Int) (q : Nat) : ∃ s, rq s z.natAbs q = mkRat z q := by
  refine ⟨decide (z < 0), ?_⟩
  unfold rq sI
  by_cases h : z < 0
  · simp [h]; congr 1; omega
  · simp [h]; congr 1; omega
theorem mk_sz {z : Int} {q N : Nat} (h0 : q ≠ 0) (hp : z.natAbs < W ^ N) (hq : q < W ^ N) : Sz (mkRat z q) N := by
  obtain ⟨s, h⟩ := mk_rq z q
  rw [← h]; exact rq_sz h0 hp hq
theorem Sz.add {X Y : Rat} {N M : Nat} (h : Sz X N) (k : Sz Y M) : Sz (X + Y) (N + M + 1) := by
  rw [Rat.add_def']
  have a1 := mul_lt_powW h.1 k.2
  have a2 := mul_lt_powW k.1 h.2
  have a3 := mul_lt_powW h.2 k.2
  have e : W ^ (M + N) = W ^ (N + M) := by rw [Nat.add_comm]
  rw [e] at a2
  have t := two_pow_W (N + M)
  refine mk_sz (Nat.mul_ne_zero (den_ne _) (den_ne _)) ?_ (by omega)
  have := Int.natAbs_add_le (X.num * Y.den) (Y.num * X.den)
  rw [Int.natAbs_mul, Int.natAbs_mul, Int.natAbs_natCast, Int.natAbs_natCast] at this
  omega
theorem Sz.mul {X Y : Rat} {N M : Nat} (h : Sz X N) (k : Sz Y M) : Sz (X * Y) (N + M) := by
  rw [Rat.mul_def']
  refine mk_sz (Nat.mul_ne_zero (den_ne _) (den_ne _)) ?_ (mul_lt_powW h.2 k.2)
  rw [Int.natAbs_mul]
  exact mul_lt_powW h.1 k.1
theorem Sz.sub {X Y : Rat} {N M : Nat} (h : Sz X N) (k : Sz Y M) : Sz (X - Y) (N + M + 1) := by
  rw [Rat.sub_eq_add_neg]; exact h.add k.neg
theorem Sz.pos {X : Rat} {N : Nat} (h : Sz X N) : 1 < W ^ N := by
  have := h.2; have := den_ne X; omega
theorem Sz.inv {X : Rat} {N : Nat} (h : Sz X N) : Sz X⁻¹ N := by
  refine ⟨?_, ?_⟩
  · rw [Rat.num_inv, Int.natAbs_mul, Int.natAbs_natCast]
    have h2 := h.2
    have : X.num.sign.natAbs ≤ 1 := by rw [Int.natAbs_sign]; split <;> omega
    exact Nat.lt_of_le_of_lt (Nat.mul_le_mul_right _ this) (by omega)
  · rw [Rat.den_inv]; split
    · exact h.pos
    · exact h.1

/-- the sum, over the common denominator -/
theorem add_rq (X Y : Rat) {s : Bool} {m : Nat} (h : sI s m = X.num * ((Y.den / Nat.gcd X.den Y.den : Nat) : Int) + Y.num * ((X.den / Nat.gcd X.den Y.den : Nat) : Int)) :
    rq s m (X.den * (Y.den / Nat.gcd X.den Y.den)) = X + Y := by
  have hg : Nat.gcd X.den Y.den ≠ 0 := fun e => den_ne X (Nat.eq_zero_of_gcd_eq_zero_left e)
  have h1 : X.den / Nat.gcd X.den Y.den * Nat.gcd X.den Y.den = X.den := Nat.div_mul_cancel (Nat.gcd_dvd_left _ _)
  have h2 : Y.den / Nat.gcd X.den Y.den * Nat.gcd X.den Y.den = Y.den := Nat.div_mul_cancel (Nat.gcd_dvd_right _ _)
  rw [Rat.add_def']
  unfold rq
  rw [h, ← Rat.mkRat_mul_right hg, Int.add_mul, Int.mul_assoc, Int.mul_assoc, ← Int.natCast_mul, ← Int.natCast_mul, h1, h2, Nat.mul_assoc, h2]
theorem add_den_ne (X Y : Rat) : X.den * (Y.den / Nat.gcd X.den Y.den) ≠ 0 := by
  have h2 : Y.den / Nat.gcd X.den Y.den * Nat.gcd X.den Y.den = Y.den := Nat.div_mul_cancel (Nat.gcd_dvd_right _ _)
  refine Nat.mul_ne_zero (den_ne X) fun e => ?_
  rw [e, Nat.zero_mul] at h2
  exact den_ne Y h2.symm
/-- the sum, over the product of the denominators -/
theorem add_rq' (X Y : Rat) {s : Bool} {m : Nat} (h : sI s m = X.num * Y.den + Y.num * X.den) : rq s m (X.den * Y.den) = X + Y := by
  rw [Rat.add_def']; unfold rq; rw [h]
/-- sums with signs -/
theorem sI_add_same (s : Bool) (a b : Nat) : sI s (a + b) = sI s a + sI s b := by unfold sI; cases s <;> simp; omega
theorem sI_add_left {s t : Bool} {a b : Nat} (h : s ≠ t) (hle : b ≤ a) : sI s (a - b) = sI s a + sI t b := by
  unfold sI; cases s <;> cases t <;> simp at h ⊢ <;> omega
theorem sI_add_right {s t : Bool} {a b : Nat} (h : s ≠ t) (hle : a ≤ b) : sI t (b - a) = sI s a + sI t b := by
  unfold sI; cases s <;> cases t <;> simp at h ⊢ <;> omega
theorem neg_rq (X : Rat) : rq (!(neg_ X)) X.num.natAbs X.den = -X := by
  unfold rq; rw [sI_not, sI_num, ← Rat.neg_mkRat, Rat.mkRat_self]

/-- the product, reduced crosswise -/
theorem mul_rq (X Y : Rat) (s : Bool) (hs : s = (neg_ X != neg_ Y)) (a b c d : Nat) (ha : a = X.num.natAbs / Nat.gcd X.num.natAbs Y.den) (hb : b = Y.den / Nat.gcd X.num.natAbs Y.den)
    (hc : c = Y.num.natAbs / Nat.gcd Y.num.natAbs X.den) (hd : d = X.den / Nat.gcd Y.num.natAbs X.den) :
    rq s (a * c) (d * b) = X * Y ∧ d * b ≠ 0 ∧ Nat.gcd (a * c) (d * b) = 1 := by
  have hg1 : Nat.gcd X.num.natAbs Y.den ≠ 0 := fun e => den_ne Y (Nat.eq_zero_of_gcd_eq_zero_right e)
  have hg2 : Nat.gcd Y.num.natAbs X.den ≠ 0 := fun e => den_ne X (Nat.eq_zero_of_gcd_eq_zero_right e)
  have h1 : a * Nat.gcd X.num.natAbs Y.den = X.num.natAbs := by rw [ha]; exact Nat.div_mul_cancel (Nat.gcd_dvd_left _ _)
  have h2 : b * Nat.gcd X.num.natAbs Y.den = Y.den := by rw [hb]; exact Nat.div_mul_cancel (Nat.gcd_dvd_right _ _)
  have h3 : c * Nat.gcd Y.num.natAbs X.den = Y.num.natAbs := by rw [hc]; exact Nat.div_mul_cancel (Nat.gcd_dvd_left _ _)
  have h4 : d * Nat.gcd Y.num.natAbs X.den = X.den := by rw [hd]; exact Nat.div_mul_cancel (Nat.gcd_dvd_right _ _)
  have c1 : Nat.Coprime a b := by
    rw [ha, hb]; exact Nat.gcd_div_gcd_div_gcd_of_pos_right (Nat.pos_of_ne_zero (den_ne Y))
  have c2 : Nat.Coprime c d := by
    rw [hc, hd]; exact Nat.gcd_div_gcd_div_gcd_of_pos_right (Nat.pos_of_ne_zero (den_ne X))
  have c3 : Nat.Coprime a d := Nat.Coprime.coprime_dvd_left ⟨_, h1.symm⟩ (Nat.Coprime.coprime_dvd_right ⟨_, h4.symm⟩ X.reduced)
  have c4 : Nat.Coprime c b := Nat.Coprime.coprime_dvd_left ⟨_, h3.symm⟩ (Nat.Coprime.coprime_dvd_right ⟨_, h2.symm⟩ Y.reduced)
  generalize Nat.gcd X.num.natAbs Y.den = g1 at *
  generalize Nat.gcd Y.num.natAbs X.den = g2 at *
  refine ⟨?_, ?_, ?_⟩
  · rw [Rat.mul_def']
    unfold rq
    have hg : g1 * g2 ≠ 0 := Nat.mul_ne_zero hg1 hg2
    rw [← Rat.mkRat_mul_right hg, hs, ← sI_mul_nat]
    have e1 : a * c * (g1 * g2) = X.num.natAbs * Y.num.natAbs := by rw [← h1, ← h3, Nat.mul_mul_mul_comm]
    have e2 : d * b * (g1 * g2) = X.den * Y.den := by
      rw [← h4, ← h2, Nat.mul_comm g1 g2, Nat.mul_mul_mul_comm]
    rw [e1, e2, sI_mul, sI_num, sI_num]
  · refine Nat.mul_ne_zero (fun e => ?_) (fun e => ?_)
    · rw [e, Nat.zero_mul] at h4; exact den_ne X h4.symm
    · rw [e, Nat.zero_mul] at h2; exact den_ne Y h2.symm
  · exact Nat.Coprime.mul_right (Nat.Coprime.mul_left c3 c2) (Nat.Coprime.mul_left c1 c4)
theorem mul_rq' (X Y : Rat) : rq (neg_ X != neg_ Y) (X.num.natAbs * Y.num.natAbs) (X.den * Y.den) = X * Y := by
  rw [Rat.mul_def']; unfold rq; rw [sI_mul, sI_num, sI_num]
theorem num_ne {X : Rat} (h : X ≠ 0) : X.num ≠ 0 := fun e => h (Rat.num_eq_zero.1 e)
theorem inv_rq (X : Rat) (h : X ≠ 0) : rq (neg_ X) X.den X.num.natAbs = X⁻¹ := by
  have h0 := num_ne h
  have hc : Nat.gcd X.den X.num.natAbs = 1 := by rw [Nat.gcd_comm]; exact X.reduced
  obtain ⟨h1, h2⟩ := rq_cop (s := neg_ X) (p := X.den) (q := X.num.natAbs) (by omega) hc
  refine Rat.ext ?_ ?_
  · rw [h1, Rat.num_inv]
    unfold sI neg_
    by_cases hn : X.num < 0
    · rw [Int.sign_eq_neg_one_of_neg hn]; simp [hn]
    · rw [Int.sign_eq_one_of_pos (by omega)]; simp [hn]
  · rw [h2, Rat.den_inv, if_neg h0]
theorem div_rq (X Y : Rat) (h : Y ≠ 0) : rq (neg_ X != neg_ Y) (X.num.natAbs * Y.den) (X.den * Y.num.natAbs) = X / Y := by
  rw [Rat.div_def, ← mul_rq', ← inv_rq Y h]
  have h0 := num_ne h
  have hc : Nat.gcd Y.den Y.num.natAbs = 1 := by rw [Nat.gcd_comm]; exact Y.reduced
  obtain ⟨h1, h2, h3⟩ := rq_cop' (s := neg_ Y) (p := Y.den) (q := Y.num.natAbs) (by omega) hc
  rw [h1, h2, h3, decide_eq_true (den_ne Y), Bool.and_true]
theorem rat_zero_iff (X : Rat) : X = 0 ↔ X.num.natAbs = 0 := by
  rw [← Rat.num_eq_zero]; omega

/-- -1, 0 or 1 -/
def sgnQ (X : Rat) : Int := if X.num < 0 then -1 else if 0 < X.num then 1 else 0
def cmpQ (X Y : Rat) : Int := if X < Y then -1 else if Y < X then 1 else 0
theorem sgnQ_sub (X Y : Rat) : sgnQ (X - Y) = cmpQ X Y := by
  have h : ∀ Z : Rat, sgnQ Z = cmpQ Z 0 := by
    intro Z
    unfold sgnQ cmpQ
    simp only [Rat.lt_iff]; simp
  rw [h]
  unfold cmpQ
  have h1 : X - Y < 0 ↔ X < Y := by rw [Rat.sub_lt_iff, Rat.zero_add]
  have h2 : 0 < X - Y ↔ Y < X := by rw [← Rat.lt_iff_sub_pos]
  simp only [h1, h2]
theorem cmpN_sign (a b : Nat) : cmpN a b = if (a : Int) < b then -1 else if (b : Int) < a then 1 else 0 := by unfold cmpN; simp
theorem cmpQ_same (X Y : Rat) (h : sgnQ X = sgnQ Y) : sgnQ X * cmpN (X.num.natAbs * Y.den) (Y.num.natAbs * X.den) = cmpQ X Y := by
  rw [cmpN_sign, Int.natCast_mul, Int.natCast_mul]
  unfold cmpQ
  simp only [Rat.lt_iff]
  unfold sgnQ at h ⊢
  by_cases h1 : X.num < 0
  · rw [if_pos h1] at h ⊢
    have h2 : Y.num < 0 := by by_cases h2 : Y.num < 0; exact h2; rw [if_neg h2] at h; split at h <;> omega
    have e1 : ((X.num.natAbs : Nat) : Int) = - X.num := by omega
    have e2 : ((Y.num.natAbs : Nat) : Int) = - Y.num := by omega
    rw [e1, e2, Int.neg_mul X.num, Int.neg_mul Y.num]
    generalize X.num * Y.den = a
    generalize Y.num * X.den = b
    split <;> split <;> (try split) <;> (try split) <;> omega
  · rw [if_neg h1] at h ⊢
    by_cases h3 : 0 < X.num
    · rw [if_pos h3] at h ⊢
      have h2 : 0 < Y.num := by
        by_cases h2 : 0 < Y.num; exact h2
        rw [if_neg h2] at h; split at h <;> omega
      have e1 : ((X.num.natAbs : Nat) : Int) = X.num := by omega
      have e2 : ((Y.num.natAbs : Nat) : Int) = Y.num := by omega
      rw [e1, e2]; simp
    · rw [if_neg h3] at h ⊢
      have h2 : Y.num = 0 := by split at h; omega; split at h <;> omega
      have h4 : X.num = 0 := by omega
      rw [h2, h4]; simp
theorem cmpQ_less {X Y : Rat} (h : sgnQ X < sgnQ Y) : cmpQ X Y = -1 := by
  unfold cmpQ
  rw [if_pos]
  rw [Rat.lt_iff]
  have hx : 0 < (X.den : Int) := by have := den_ne X; omega
  have hy : 0 < (Y.den : Int) := by have := den_ne Y; omega
  unfold sgnQ at h
  by_cases h1 : X.num < 0
  · have a : X.num * Y.den < 0 := Int.mul_neg_of_neg_of_pos h1 hy
    have h2 : 0 ≤ Y.num := by
      by_cases h2 : Y.num < 0
      · rw [if_pos h1, if_pos h2] at h; omega
      · omega
    have b : 0 ≤ Y.num * X.den := Int.mul_nonneg h2 (by omega)
    omega
  · rw [if_neg h1] at h
    by_cases h3 : 0 < X.num
    · rw [if_pos h3] at h; split at h; omega; split at h <;> omega
    · have h4 : X.num = 0 := by omega
      have h2 : 0 < Y.num := by
        rw [if_neg h3] at h
        by_cases h2 : 0 < Y.num; exact h2
        rw [if_neg h2] at h; split at h <;> omega
      rw [h4, Int.zero_mul]
      exact Int.mul_pos h2 hx
theorem cmpQ_flip (X Y : Rat) : cmpQ Y X = - cmpQ X Y := by
  unfold cmpQ
  by_cases h : X < Y
  · have : ¬ Y < X := fun k => absurd (Rat.le_of_lt k) (Rat.not_le.2 h)
    simp [h, this]
  · by_cases k : Y < X <;> simp [h, k]
theorem cmpQ_more {X Y : Rat} (h : sgnQ Y < sgnQ X) : cmpQ X Y = 1 := by
  have := cmpQ_less h
  rw [cmpQ_flip] at this; omega
theorem cmpQ_zero (X Y : Rat) : cmpQ X Y = 0 ↔ X = Y := by
  unfold cmpQ
  by_cases h : X < Y
  · rw [if_pos h]
    exact ⟨fun e => absurd e (by omega), fun e => by subst e; exact absurd h Rat.lt_irrefl⟩
  · by_cases k : Y < X
    · rw [if_neg h, if_pos k]
      exact ⟨fun e => absurd e (by omega), fun e => by subst e; exact absurd k Rat.lt_irrefl⟩
    · rw [if_neg h, if_neg k]
      exact ⟨fun _ => Rat.le_antisymm (Rat.not_lt.1 k) (Rat.not_lt.1 h), fun _ => rfl⟩
theorem cmpQ_le (X Y : Rat) : cmpQ X Y ≤ 0 ↔ X ≤ Y := by
  unfold cmpQ
  by_cases h : X < Y
  · rw [if_pos h]; exact ⟨fun _ => Rat.le_of_lt h, fun _ => by omega⟩
  · by_cases k : Y < X
    · rw [if_neg h, if_pos k]; exact ⟨fun e => absurd e (by omega), fun e => absurd e (Rat.not_le.2 k)⟩
    · rw [if_neg h, if_neg k]; exact ⟨fun _ => Rat.not_lt.1 k, fun _ => by omega⟩
theorem cmpQ_range (X Y : Rat) : -1 ≤ cmpQ X Y ∧ cmpQ X Y ≤ 1 := by unfold cmpQ; split <;> (try split) <;> omega
theorem sgnQ_range (X : Rat) : -1 ≤ sgnQ X ∧ sgnQ X ≤ 1 := by unfold sgnQ; split <;> (try split) <;> omega
theorem sgnQ_zero (X : Rat) : sgnQ X = 0 ↔ X = 0 := by
  rw [← Rat.num_eq_zero]; unfold sgnQ; split <;> (try split) <;> omega
theorem sgnQ_pos (X : Rat) : 0 < sgnQ X ↔ 0 < X := by
  have : (0 : Rat) < X ↔ 0 < X.num := by rw [Rat.lt_iff]; simp
  rw [this]; unfold sgnQ; split <;> (try split) <;> omega
theorem cmpQ_add (X Y Z : Rat) : cmpQ (X + Z) (Y + Z) = cmpQ X Y := by unfold cmpQ; simp only [Rat.add_lt_add_right]
theorem cmpQ_mul (X Y Z : Rat) (h : 0 < Z) : cmpQ (X * Z) (Y * Z) = cmpQ X Y := by unfold cmpQ; simp only [Rat.mul_lt_mul_right h]
theorem cmpQ_trans {X Y Z : Rat} (h : cmpQ X Y ≤ 0) (k : cmpQ Y Z ≤ 0) : cmpQ X Z ≤ 0 :=
  (cmpQ_le _ _).2 (Rat.le_trans ((cmpQ_le _ _).1 h) ((cmpQ_le _ _).1 k))

end Go.Proofs.YtmoahgiklgicgaaDoor
