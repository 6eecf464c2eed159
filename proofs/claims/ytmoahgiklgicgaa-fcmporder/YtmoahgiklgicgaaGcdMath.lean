/-
  Plain mathematics of greatest common divisors: Euclid's steps; halving and taking away. No Go function in sight.
-/
import Derived.Test.YtmoahgiklgicgaaNatMath
namespace Go.Proofs.Ytmoahgiklgicgaa
set_option maxRecDepth 100000
set_option linter.unusedVariables false

theorem odd_part (v : Nat) (h : v ≠ 0) : ∃ k o, v = 2 ^ k * o ∧ o % 2 = 1 := by
  induction v using Nat.strongRecOn with
  | ind v ih =>
    by_cases h1 : v % 2 = 1
    · exact ⟨0, v, by simp, h1⟩
    · obtain ⟨k, o, e, ho⟩ := ih (v / 2) (by omega) (by omega)
      refine ⟨k + 1, o, ?_, ho⟩
      have e2 : v = 2 * (v / 2) := by omega
      rw [e2, e, Nat.pow_succ, Nat.mul_comm (2 ^ k) 2, Nat.mul_assoc]
theorem tz_of {v k o : Nat} (e : v = 2 ^ k * o) (ho : o % 2 = 1) : tz v = k := by
  refine tz_unique (fun j hj => ?_) ?_
  · have e2 : v = 2 ^ j * (2 * (2 ^ (k - j - 1) * o)) := by
      rw [e, ← Nat.mul_assoc, ← Nat.mul_assoc, ← Nat.pow_succ, ← Nat.pow_add]
      congr 2
      omega
    rw [e2, Nat.mul_div_cancel_left _ (Nat.two_pow_pos j)]
    omega
  · rw [e, Nat.mul_div_cancel_left _ (Nat.two_pow_pos k)]
    exact ho
/-- a number without its factors 2 -/
def odd (v : Nat) : Nat := v / 2 ^ tz v
theorem odd_eq {v : Nat} (h : v ≠ 0) : v = 2 ^ tz v * odd v ∧ odd v % 2 = 1 := by
  obtain ⟨k, o, e, ho⟩ := odd_part v h
  have e2 := tz_of e ho
  have e3 : odd v = o := by
    unfold odd
    rw [e2]
    conv => lhs; rw [e]
    exact Nat.mul_div_cancel_left _ (Nat.two_pow_pos k)
  rw [e2, e3]
  exact ⟨e, ho⟩
theorem odd_le (v : Nat) : odd v ≤ v := Nat.div_le_self _ _
theorem coprime_two {y : Nat} (h : y % 2 = 1) : Nat.Coprime 2 y := by
  unfold Nat.Coprime
  rw [Nat.gcd_rec, h]
  rfl
theorem gcd_pow_odd (k o : Nat) {y : Nat} (h : y % 2 = 1) : Nat.gcd (2 ^ k * o) y = Nat.gcd o y :=
  Nat.Coprime.gcd_mul_left_cancel o (Nat.Coprime.pow_left k (coprime_two h))
theorem gcd_odd_left {x y : Nat} (hx : x ≠ 0) (h : y % 2 = 1) : Nat.gcd (odd x) y = Nat.gcd x y := by
  conv => rhs; rw [(odd_eq hx).1]
  rw [gcd_pow_odd _ _ h]
theorem gcd_start_le {a b : Nat} (ha : a ≠ 0) (hb : b ≠ 0) (h : tz a ≤ tz b) : Nat.gcd a b = Nat.gcd (odd a) (odd b) * 2 ^ tz a := by
  have ea := (odd_eq ha).1
  have eb : b = 2 ^ tz a * (2 ^ (tz b - tz a) * odd b) := by
    conv => lhs; rw [(odd_eq hb).1]
    rw [← Nat.mul_assoc, ← Nat.pow_add]
    congr 2
    omega
  have e : Nat.gcd a b = Nat.gcd (2 ^ tz a * odd a) (2 ^ tz a * (2 ^ (tz b - tz a) * odd b)) := by rw [← ea, ← eb]
  rw [e, Nat.gcd_mul_left, Nat.gcd_comm (odd a), gcd_pow_odd _ _ (odd_eq ha).2, Nat.gcd_comm (odd b), Nat.mul_comm]
theorem gcd_start {a b : Nat} (ha : a ≠ 0) (hb : b ≠ 0) : Nat.gcd a b = Nat.gcd (odd a) (odd b) * 2 ^ min (tz a) (tz b) := by
  rcases Nat.le_total (tz a) (tz b) with h | h
  · rw [Nat.min_eq_left h]; exact gcd_start_le ha hb h
  · rw [Nat.min_eq_right h, Nat.gcd_comm a b, Nat.gcd_comm (odd a)]; exact gcd_start_le hb ha h
/-- a round of halving and taking away -/
theorem gcd_round {x y : Nat} (hx : x % 2 = 1) (hy : y % 2 = 1) (h : y < x) : Nat.gcd (odd (x - y)) y = Nat.gcd x y ∧ odd (x - y) % 2 = 1 ∧ odd (x - y) < x := by
  have h0 : x - y ≠ 0 := by omega
  refine ⟨?_, (odd_eq h0).2, ?_⟩
  · rw [gcd_odd_left h0 hy, Nat.gcd_sub_self_left (by omega)]
  · have := odd_le (x - y); omega
theorem tz_lt {v k : Nat} (h : v < 2 ^ k) (hk : 0 < k) : tz v < k := by
  by_cases h0 : v = 0
  · subst h0; rw [tz_zero]; exact hk
  · have e := (odd_eq h0)
    have ho : 0 < odd v := by have := e.2; omega
    have : 2 ^ tz v ≤ v := by
      conv => rhs; rw [e.1]
      exact Nat.le_mul_of_pos_right _ ho
    exact (Nat.pow_lt_pow_iff_right (by omega)).1 (Nat.lt_of_le_of_lt this h)
/-- Euclid's step -/
theorem gcd_step (a b : Nat) : Nat.gcd b (a % b) = Nat.gcd a b := by
  rw [Nat.gcd_comm b, Nat.gcd_comm a, ← Nat.gcd_rec]
theorem gcd_lt {a b B : Nat} (ha : a < B) (hb : b < B) : Nat.gcd a b < B := by
  rcases Nat.eq_zero_or_pos a with h | h
  · subst h; rw [Nat.gcd_zero_left]; exact hb
  · exact Nat.lt_of_le_of_lt (Nat.gcd_le_left b h) ha
theorem gcd_zero_iff (a b : Nat) : Nat.gcd a b = 0 ↔ a = 0 ∧ b = 0 := by
  constructor
  · intro h; exact ⟨Nat.eq_zero_of_gcd_eq_zero_left h, Nat.eq_zero_of_gcd_eq_zero_right h⟩
  · rintro ⟨rfl, rfl⟩; rfl
theorem gcd_times_lcm (a b : Nat) : Nat.gcd a b * (a / Nat.gcd a b * b) = a * b := by
  rw [← Nat.mul_assoc, Nat.mul_div_cancel' (Nat.gcd_dvd_left a b)]
theorem lcm_turn (a b : Nat) : a / Nat.gcd a b * b = a * (b / Nat.gcd a b) := by
  rcases Nat.eq_zero_or_pos (Nat.gcd a b) with h | h
  · have := (gcd_zero_iff a b).1 h
    simp [this.1, this.2]
  · apply Nat.eq_of_mul_eq_mul_left h
    rw [gcd_times_lcm, Nat.mul_left_comm, Nat.mul_div_cancel' (Nat.gcd_dvd_right a b)]
theorem gcd_parts (a b : Nat) : (Nat.gcd (a / Nat.gcd a b) (b / Nat.gcd a b) = 1) ↔ 0 < a + b := by
  rcases Nat.eq_zero_or_pos (Nat.gcd a b) with h | h
  · have := (gcd_zero_iff a b).1 h
    simp [this.1, this.2]
  · have h2 : Nat.gcd (a / Nat.gcd a b) (b / Nat.gcd a b) = 1 := by rw [Nat.gcd_div (Nat.gcd_dvd_left a b) (Nat.gcd_dvd_right a b), Nat.div_self h]
    constructor
    · intro _
      rcases Nat.eq_zero_or_pos (a + b) with h3 | h3
      · have : a = 0 ∧ b = 0 := by omega
        rw [(gcd_zero_iff a b).2 this] at h
        omega
      · exact h3
    · intro _; exact h2
/-- whether a number divides another one, by the remainder; 0 divides 0 alone -/
theorem dvd_iff (a b : Nat) : a ∣ b ↔ b % a = 0 := Nat.dvd_iff_mod_eq_zero
end Go.Proofs.Ytmoahgiklgicgaa
