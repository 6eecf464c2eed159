/-
  Plain mathematics of doubles: differences of near doubles, squares and roots. No Go in sight. Conditions: those that each theorem names. (Laid ahead for sums, products and roots of doubles.)
-/
import Derived.Test.YtibgpeaplmcogaaGreatDoorEvFAllE
import Derived.Test.YtibgpeaplmcogaaGreatDoorU64AllE
import Derived.Test.YtibgpeaplmcogaaGreatDoorRefGcdAllE
namespace Go.Proofs.YtibgpeaplmcogaaGreatDoor
set_option maxRecDepth 100000
set_option linter.unusedVariables false
set_option linter.unusedSimpArgs false

def up (e : Int) : Nat := (e + 1074).toNat
def dn (e : Int) : Nat := (-(e + 1074)).toNat
/-- the word of the double nearest to p / q * 2^e -/
def magR (p q : Nat) (e : Int) : Nat := mag (p * 2 ^ up e) (q * 2 ^ dn e)
/-- is p / q * 2^e a double, just so? -/
def ExR (p q : Nat) (e : Int) : Prop := Ex (p * 2 ^ up e) (q * 2 ^ dn e)
instance (p q : Nat) (e : Int) : Decidable (ExR p q e) := by unfold ExR; infer_instance
theorem up_dn (e : Int) : (up e : Int) = e + 1074 + dn e := by unfold up dn; omega
theorem dn_zero {e : Int} (h : -1074 ≤ e) : dn e = 0 := by unfold dn; omega
theorem up_zero {e : Int} (h : e ≤ -1074) : up e = 0 := by unfold up; omega
theorem up_or (e : Int) : up e = 0 ∨ dn e = 0 := by unfold up dn; omega

theorem cross_pow {X Y a b m n : Nat} (h : X * 2 ^ a = Y * 2 ^ b) (hm : m + b = n + a) : X * 2 ^ m = Y * 2 ^ n := by
  have hb : 0 < 2 ^ b := Nat.two_pow_pos b
  apply Nat.eq_of_mul_eq_mul_right hb
  rw [Nat.mul_assoc, ← Nat.pow_add, hm, Nat.add_comm n a, Nat.pow_add, ← Nat.mul_assoc, h, Nat.mul_right_comm]
theorem R_cross {p q p' q' a b : Nat} {e e' : Int} (h : p * q' * 2 ^ a = p' * q * 2 ^ b) (he : (a : Int) + e' = b + e) : p * 2 ^ up e * (q' * 2 ^ dn e') = p' * 2 ^ up e' * (q * 2 ^ dn e) := by
  have h1 := up_dn e
  have h2 := up_dn e'
  have h3 := cross_pow (X := p * q') (Y := p' * q) (a := a) (b := b) (m := up e + dn e') (n := up e' + dn e) h (by omega)
  rw [Nat.pow_add, Nat.pow_add] at h3
  rw [Nat.mul_mul_mul_comm, h3, Nat.mul_mul_mul_comm]
theorem magR_eq {p q p' q' a b : Nat} {e e' : Int} (hq : 0 < q) (hq' : 0 < q') (h : p * q' * 2 ^ a = p' * q * 2 ^ b) (he : (a : Int) + e' = b + e) : magR p q e = magR p' q' e' :=
  mag_eq (Nat.mul_pos hq (Nat.two_pow_pos _)) (Nat.mul_pos hq' (Nat.two_pow_pos _)) (R_cross h he)
theorem ex_eq {p d p' d' : Nat} (hd : 0 < d) (hd' : 0 < d') (h : p * d' = p' * d) : Ex p d ↔ Ex p' d' := by
  rw [← ex_scale p d hd', ← ex_scale p' d' hd, h, Nat.mul_comm d' d]
theorem exR_eq {p q p' q' a b : Nat} {e e' : Int} (hq : 0 < q) (hq' : 0 < q') (h : p * q' * 2 ^ a = p' * q * 2 ^ b) (he : (a : Int) + e' = b + e) : ExR p q e ↔ ExR p' q' e' :=
  ex_eq (Nat.mul_pos hq (Nat.two_pow_pos _)) (Nat.mul_pos hq' (Nat.two_pow_pos _)) (R_cross h he)
theorem magR_shift (p q c : Nat) (hq : 0 < q) (e : Int) : magR (p * 2 ^ c) q e = magR p q (e + c) :=
  magR_eq (a := 0) (b := c) hq hq (by grind) (by omega)
theorem exR_shift (p q c : Nat) (hq : 0 < q) (e : Int) : ExR (p * 2 ^ c) q e ↔ ExR p q (e + c) :=
  exR_eq (a := 0) (b := c) hq hq (by grind) (by omega)
theorem magR_two (p : Nat) (e : Int) : magR p 2 e = magR p 1 (e - 1) :=
  magR_eq (a := 1) (b := 0) (by omega) (by omega) (by omega) (by omega)
theorem magR_down (p q c : Nat) (hq : 0 < q) (e : Int) : magR p (q * 2 ^ c) (e + c) = magR p q e :=
  magR_eq (a := c) (b := 0) (Nat.mul_pos hq (Nat.two_pow_pos c)) hq (by grind) (by omega)
/-- of a whole exponent -/
theorem magR_at {m : Nat} {e : Int} {s : Nat} (h : e + 1074 = s) : magR m 1 e = mag (m * 2 ^ s) 1 ∧ (ExR m 1 e ↔ Ex (m * 2 ^ s) 1) := by
  unfold magR ExR
  rw [dn_zero (by omega), show up e = s by unfold up; omega, Nat.pow_zero, Nat.mul_one]
  exact ⟨rfl, Iff.rfl⟩

theorem blen_div_pow (n k : Nat) : blen (n / 2 ^ k) = blen n - k := by
  by_cases h : n / 2 ^ k = 0
  · rw [h, blen_zero]
    have : n < 2 ^ k := by
      rcases Nat.lt_or_ge n (2 ^ k) with hl | hl
      · exact hl
      · have := Nat.div_pos hl (Nat.two_pow_pos k); omega
    have := blen_le this
    omega
  · have := blen_shr h
    omega
/-- how many bits the floor has -/
theorem blen_floor {p q : Nat} (e : Int) (h : 0 < p / q) : ((blen (p * 2 ^ up e / (q * 2 ^ dn e)) : Nat) : Int) = max ((blen (p / q) : Int) + e + 1074) 0 := by
  have hd := up_dn e
  have hp := blen_pos h
  rcases up_or e with h0 | h0
  · rw [h0, Nat.pow_zero, Nat.mul_one, ← Nat.div_div_eq_div_mul, blen_div_pow]
    omega
  · rw [h0, Nat.pow_zero, Nat.mul_one]
    have e1 : p * 2 ^ up e / q / 2 ^ up e = p / q := by
      rw [Nat.div_div_eq_div_mul, Nat.mul_div_mul_right _ _ (Nat.two_pow_pos _)]
    rw [blen_shr (n := p * 2 ^ up e / q) (k := up e) (by rw [e1]; omega), e1]
    omega
theorem ulpR {p q : Nat} (e : Int) (h : 0 < p / q) : ((ulp (p * 2 ^ up e) (q * 2 ^ dn e) : Nat) : Int) = max ((blen (p / q) : Int) + e + 1021) 0 := by
  have := blen_floor e h
  unfold ulp
  omega
theorem ulpR1 {m : Nat} (e : Int) (h : 0 < m) : ((ulp (m * 2 ^ up e) (1 * 2 ^ dn e) : Nat) : Int) = max ((blen m : Int) + e + 1021) 0 := by
  have := ulpR (p := m) (q := 1) e (by rw [Nat.div_one]; exact h)
  rwa [Nat.div_one] at this
theorem mag_ulp_big {p d : Nat} (hd : 0 < d) (h : 2046 ≤ ulp p d) : mag p d = INF := by
  have h1 := units_ge p hd (by omega)
  have h2 : 2046 * B52 ≤ ulp p d * B52 := Nat.mul_le_mul_right _ h
  have h3 := INF_eq
  unfold mag
  exact Nat.min_eq_right (by omega)
theorem mag_small {p d : Nat} (h : 2 * p < d) : mag p d = 0 := by
  have h1 : ulp p d = 0 := by unfold ulp; rw [Nat.div_eq_of_lt (by omega), blen_zero]
  unfold mag
  rw [h1, Nat.pow_zero, Nat.mul_one, rdiv_small h]
  simp
theorem magR_big {p q : Nat} {e : Int} (hq : 0 < q) (h0 : 0 < p / q) (h : 1025 ≤ (blen (p / q) : Int) + e) : magR p q e = INF :=
  mag_ulp_big (Nat.mul_pos hq (Nat.two_pow_pos _)) (by have := ulpR e h0; omega)
theorem magR_big1 {m : Nat} {e : Int} (h0 : 0 < m) (h : 1025 ≤ (blen m : Int) + e) : magR m 1 e = INF :=
  magR_big (by omega) (by rw [Nat.div_one]; exact h0) (by rw [Nat.div_one]; exact h)
theorem magR_small {p q : Nat} {e : Int} (hq : 0 < q) (h : (blen p : Int) - blen q + e ≤ -1077) : magR p q e = 0 := by
  have h1 := up_dn e
  have h2 := blen_lt p
  have h3 := blen_self hq
  have h4 := blen_pos hq
  apply mag_small
  have a1 : 2 * (p * 2 ^ up e) < 2 ^ (1 + blen p + up e) := by
    rw [Nat.pow_add, Nat.pow_add, Nat.pow_one, Nat.mul_assoc]
    exact Nat.mul_lt_mul_of_pos_left (Nat.mul_lt_mul_of_pos_right h2 (Nat.two_pow_pos _)) (by omega)
  have a2 : 2 ^ (blen q - 1 + dn e) ≤ q * 2 ^ dn e := by
    rw [Nat.pow_add]; exact Nat.mul_le_mul_right _ h3
  have a3 : 2 ^ (1 + blen p + up e) ≤ 2 ^ (blen q - 1 + dn e) := Nat.pow_le_pow_right (by omega) (by omega)
  omega
theorem magR_zero (q : Nat) (e : Int) : magR 0 q e = 0 := by unfold magR; rw [Nat.zero_mul, mag_zero]

/-- what is left below a half may stand for itself -/
theorem rdiv_sticky (p : Nat) {q k : Nat} (hq : 0 < q) (hk : 1 ≤ k) (hr : p % q ≠ 0) : rdiv (2 * (p / q) + 1) (2 ^ (k + 1)) = rdiv p (q * 2 ^ k) := by
  obtain ⟨j, rfl⟩ : ∃ j, k = j + 1 := ⟨k - 1, by omega⟩
  have h1 : p % (q * 2 ^ (j + 1)) = p % q + q * (p / q % 2 ^ (j + 1)) := Nat.mod_mul
  have h2 : p / (q * 2 ^ (j + 1)) = p / q / 2 ^ (j + 1) := (Nat.div_div_eq_div_mul _ _ _).symm
  have hlt := Nat.mod_lt p hq
  generalize p % q = r at *
  generalize p / q = Q at *
  have h3 : (2 * Q + 1) % (2 * 2 ^ (j + 1)) = 1 + 2 * (Q % 2 ^ (j + 1)) := by
    rw [Nat.mod_mul, show (2 * Q + 1) % 2 = 1 by omega, show (2 * Q + 1) / 2 = Q by omega]
  have h4 : (2 * Q + 1) / (2 * 2 ^ (j + 1)) = Q / 2 ^ (j + 1) := by
    rw [← Nat.div_div_eq_div_mul, show (2 * Q + 1) / 2 = Q by omega]
  unfold rdiv
  rw [Nat.pow_succ 2 (j + 1), Nat.mul_comm (2 ^ (j + 1)) 2, h3, h4, h1, h2]
  generalize Q / 2 ^ (j + 1) = K
  generalize Q % 2 ^ (j + 1) = R
  rw [Nat.pow_succ]
  generalize 2 ^ j = M
  have e1 : q * (M * 2) = 2 * (q * M) := by grind
  rw [e1]
  have key : (2 * (M * 2) < 2 * (1 + 2 * R) ∨ (2 * (1 + 2 * R) = 2 * (M * 2) ∧ K % 2 = 1)) ↔ (2 * (q * M) < 2 * (r + q * R) ∨ (2 * (r + q * R) = 2 * (q * M) ∧ K % 2 = 1)) := by
    rcases Nat.lt_or_ge R M with hl | hl
    · have : q * (R + 1) ≤ q * M := Nat.mul_le_mul_left _ hl
      rw [Nat.mul_add, Nat.mul_one] at this
      generalize q * R = x at *
      generalize q * M = y at *
      constructor <;> intro h <;> omega
    · have : q * M ≤ q * R := Nat.mul_le_mul_left _ hl
      generalize q * R = x at *
      generalize q * M = y at *
      constructor <;> intro h <;> omega
  simp only [key]
theorem magR_sticky {p q : Nat} (e : Int) (hq : 0 < q) (hr : p % q ≠ 0) (hQ : 54 ≤ blen (p / q)) : magR p q e = magR (2 * (p / q) + 1) 2 e := by
  have h0 : 0 < p / q := by
    rcases Nat.eq_zero_or_pos (p / q) with h | h
    · rw [h, blen_zero] at hQ; omega
    · exact h
  have hQ2 : (2 * (p / q) + 1) / 2 = p / q := by omega
  have u1 := ulpR e h0
  have u2 := ulpR (p := 2 * (p / q) + 1) (q := 2) e (by rw [hQ2]; exact h0)
  rw [hQ2] at u2
  have hu : ulp ((2 * (p / q) + 1) * 2 ^ up e) (2 * 2 ^ dn e) = ulp (p * 2 ^ up e) (q * 2 ^ dn e) := by omega
  have hd := up_dn e
  unfold magR mag
  rw [hu]
  generalize ulp (p * 2 ^ up e) (q * 2 ^ dn e) = u at *
  obtain ⟨k, hk⟩ : ∃ k, u + dn e = k + up e := ⟨u + dn e - up e, by omega⟩
  have hk1 : 1 ≤ k := by omega
  have hp : ∀ x, x * 2 ^ dn e * 2 ^ u = x * 2 ^ k * 2 ^ up e := fun x => by
    rw [Nat.mul_assoc, ← Nat.pow_add, Nat.mul_assoc, ← Nat.pow_add]; congr 2; omega
  rw [hp, hp, rdiv_scale _ _ (Nat.two_pow_pos _), rdiv_scale _ _ (Nat.two_pow_pos _), ← rdiv_sticky p hq hk1 hr, Nat.pow_succ 2 k, Nat.mul_comm (2 ^ k) 2]

/-- the odd part -/
theorem tz_part {m : Nat} (h : 0 < m) : m / 2 ^ tz m * 2 ^ tz m = m ∧ m / 2 ^ tz m % 2 = 1 := by
  obtain ⟨h1, h2⟩ := tz_spec h
  refine ⟨?_, h2⟩
  have : ∀ k, LowZero m k → m / 2 ^ k * 2 ^ k = m := by
    intro k
    induction k with
    | zero => intro _; simp
    | succ k ih =>
      intro hk
      have a := ih (fun j hj => hk j (by omega))
      have b := hk k (by omega)
      have c : m / 2 ^ (k + 1) = m / 2 ^ k / 2 := by rw [Nat.pow_succ, Nat.div_div_eq_div_mul]
      rw [c, Nat.pow_succ, Nat.mul_comm (2 ^ k) 2, ← Nat.mul_assoc, show m / 2 ^ k / 2 * 2 = m / 2 ^ k by omega]
      exact a
  exact this _ h1
theorem odd_pow_dvd {o a b : Nat} (ho : o % 2 = 1) (h : o * 2 ^ a % 2 ^ b = 0) : b ≤ a := by
  rcases Nat.lt_or_ge a b with hl | hl
  · exfalso
    obtain ⟨c, rfl⟩ : ∃ c, b = a + (c + 1) := ⟨b - a - 1, by omega⟩
    rw [Nat.pow_add, Nat.mul_comm o, Nat.mul_mod_mul_left] at h
    have h2 : o % 2 ^ (c + 1) = 0 := by
      rcases Nat.mul_eq_zero.1 h with h | h
      · have := Nat.two_pow_pos a; omega
      · exact h
    rw [Nat.pow_succ, Nat.mul_comm] at h2
    have h3 : o % (2 * 2 ^ c) % 2 = o % 2 := Nat.mod_mul_right_mod o 2 (2 ^ c)
    rw [h2] at h3
    omega
  · exact hl
theorem dvd_pow_pow {o a b : Nat} (h : b ≤ a) : o * 2 ^ a % 2 ^ b = 0 := by
  obtain ⟨c, rfl⟩ : ∃ c, a = c + b := ⟨a - b, by omega⟩
  rw [Nat.pow_add, ← Nat.mul_assoc, Nat.mul_mod_left]
/-- m * 2^e with m = o * 2^t -/
theorem make_part {o t s : Nat} {e : Int} (h : e + t + 1074 = s) : magR (o * 2 ^ t) 1 e = mag (o * 2 ^ s) 1 ∧ (ExR (o * 2 ^ t) 1 e ↔ Ex (o * 2 ^ s) 1) := by
  rw [magR_shift _ _ _ (by omega), exR_shift _ _ _ (by omega)]
  exact magR_at (by omega)
theorem make_no1 {o t : Nat} {e : Int} (ho : o % 2 = 1) (h : e + t < -1074) : ¬ ExR (o * 2 ^ t) 1 e := by
  intro hx
  have h1 := hx.1
  rw [up_zero (by omega), Nat.pow_zero, Nat.mul_one, Nat.one_mul] at h1
  have := odd_pow_dvd ho h1
  have := up_dn e
  rw [up_zero (by omega)] at this
  omega
theorem make_no2 {o t : Nat} {e : Int} (ho : o % 2 = 1) (h : 53 < blen o) : ¬ ExR (o * 2 ^ t) 1 e := by
  intro hx
  rcases Int.lt_or_le (e + t) (-1074) with hl | hl
  · exact make_no1 ho hl hx
  · obtain ⟨s, hs⟩ : ∃ s : Nat, e + t + 1074 = s := ⟨(e + t + 1074).toNat, by omega⟩
    obtain ⟨h1, h2, h3⟩ := (make_part (o := o) hs).2.1 hx
    unfold ulp at h2
    rw [Nat.div_one, blen_mul_pow (by omega)] at h2
    have := odd_pow_dvd ho h2
    omega
theorem make_no3 {o t : Nat} {e : Int} (ho : o % 2 = 1) (h : 1024 < (blen o : Int) + (e + t)) : ¬ ExR (o * 2 ^ t) 1 e := by
  intro hx
  rcases Int.lt_or_le (e + t) (-1074) with hl | hl
  · exact make_no1 ho hl hx
  · obtain ⟨s, hs⟩ : ∃ s : Nat, e + t + 1074 = s := ⟨(e + t + 1074).toNat, by omega⟩
    obtain ⟨h1, h2, h3⟩ := (make_part (o := o) hs).2.1 hx
    rw [Nat.div_one, blen_mul_pow (by omega)] at h3
    omega
/-- a significand that is normalized: x * 2^s is the number -/
theorem make_pair {o t x s : Nat} {e : Int} (he : -1074 ≤ e + t) (h : o * 2 ^ (e + t + 1074).toNat = x * 2 ^ s) (h1 : x < 2 * B52) (h2 : B52 ≤ x ∨ s = 0) :
    magR (o * 2 ^ t) 1 e = min (s * B52 + x) INF ∧ (ExR (o * 2 ^ t) 1 e ↔ s ≤ 2045) := by
  obtain ⟨a, b⟩ := make_part (o := o) (t := t) (e := e) (s := (e + t + 1074).toNat) (by omega)
  rw [a, b, h]
  exact ⟨mag_norm h1 h2, ex_norm h1 h2⟩
theorem lt_B52 {o n k : Nat} (h : blen o = n) (hk : n + k ≤ 53) : o * 2 ^ k < 2 * B52 := by
  have := blen_lt o
  rw [h] at this
  have h1 : o * 2 ^ k < 2 ^ n * 2 ^ k := Nat.mul_lt_mul_of_pos_right this (Nat.two_pow_pos k)
  have h2 : 2 ^ n * 2 ^ k ≤ 2 * B52 := by rw [← Nat.pow_add, B52_pow, ← Nat.pow_succ']; exact Nat.pow_le_pow_right (by omega) hk
  omega
theorem ge_B52 {o n k : Nat} (ho : 0 < o) (h : blen o = n) (hk : 53 ≤ n + k) : B52 ≤ o * 2 ^ k := by
  have h0 := blen_pos ho
  have := blen_self ho
  rw [h] at this h0
  have h1 : 2 ^ (n - 1) * 2 ^ k ≤ o * 2 ^ k := Nat.mul_le_mul_right _ this
  have h2 : B52 ≤ 2 ^ (n - 1) * 2 ^ k := by rw [← Nat.pow_add, B52_pow]; exact Nat.pow_le_pow_right (by omega) (by omega)
  omega
/-- what the program makes: the exponent is as low as it can be -/
theorem make_good {o t n : Nat} {e low : Int} (ho : o % 2 = 1) (hn : blen o = n) (h1 : n ≤ 53) (h2 : -1074 ≤ e + t) (h3 : (n : Int) + (e + t) ≤ 1024) (hlow : low = max (n + (e + t) - 53) (-1074)) :
    magR (o * 2 ^ t) 1 e = (low + 1074).toNat * B52 + o * 2 ^ (e + t - low).toNat ∧ ExR (o * 2 ^ t) 1 e ∧ o * 2 ^ (e + t - low).toNat < 2 * B52 := by
  have hx1 : o * 2 ^ (e + t - low).toNat < 2 * B52 := lt_B52 hn (by omega)
  have hx2 : B52 ≤ o * 2 ^ (e + t - low).toNat ∨ (low + 1074).toNat = 0 := by
    rcases Int.lt_or_le (-1074) low with hl | hl
    · exact .inl (ge_B52 (by omega) hn (by omega))
    · exact .inr (by omega)
  have hh : o * 2 ^ (e + t + 1074).toNat = o * 2 ^ (e + t - low).toNat * 2 ^ (low + 1074).toNat := by
    rw [Nat.mul_assoc, ← Nat.pow_add]; congr 2; omega
  obtain ⟨a, b⟩ := make_pair h2 hh hx1 hx2
  refine ⟨?_, b.2 (by omega), hx1⟩
  rw [a, INF_eq]
  have : (low + 1074).toNat * B52 ≤ 2045 * B52 := Nat.mul_le_mul_right _ (by omega)
  exact Nat.min_eq_left (by omega)

/-- rounding to a whole number of units, and making the double of them -/
theorem word_ulp {m : Nat} {e low : Int} (hlow : low = max ((blen m : Int) + e - 53) (-1074)) (h : e < low ∨ 0 < m) : ulp (m * 2 ^ up e) (1 * 2 ^ dn e) = (low + 1074).toNat := by
  rcases Nat.eq_zero_or_pos m with rfl | h0
  · rw [blen_zero] at hlow
    unfold ulp
    rw [Nat.zero_mul, Nat.zero_div, blen_zero]
    omega
  · have := ulpR1 e h0
    omega
theorem word_round {m k s : Nat} {e low : Int} (hlow : low = max ((blen m : Int) + e - 53) (-1074)) (h : e < low) (hk : low - e = k) (hs : low + 1074 = s) :
    (ExR (rdiv m (2 ^ k)) 1 low → magR (rdiv m (2 ^ k)) 1 low = magR m 1 e) ∧ (¬ ExR (rdiv m (2 ^ k)) 1 low → magR m 1 e = INF) ∧ rdiv m (2 ^ k) ≤ 2 * B52 := by
  have hu := word_ulp hlow (.inl h)
  have hd := up_dn e
  have hs' : (low + 1074).toNat = s := by omega
  rw [hs'] at hu
  have e1 : 1 * 2 ^ dn e * 2 ^ s = 2 ^ k * 2 ^ up e := by
    rw [Nat.one_mul, ← Nat.pow_add, ← Nat.pow_add]; congr 1; omega
  have hpos : 0 < 1 * 2 ^ dn e := by have := Nat.two_pow_pos (dn e); omega
  have hr : rdiv (m * 2 ^ up e) (1 * 2 ^ dn e * 2 ^ ulp (m * 2 ^ up e) (1 * 2 ^ dn e)) = rdiv m (2 ^ k) := by
    rw [hu, e1, rdiv_scale _ _ (Nat.two_pow_pos _)]
  have hM := mag_units (m * 2 ^ up e) hpos
  have hL := units_le (m * 2 ^ up e) hpos
  rw [hr] at hM hL
  rw [hu] at hM
  obtain ⟨a, b⟩ := magR_at (m := rdiv m (2 ^ k)) (e := low) (s := s) hs
  rw [a, b]
  exact ⟨hM.1, hM.2, hL⟩
theorem word_exact {m : Nat} {e low : Int} (hlow : low = max ((blen m : Int) + e - 53) (-1074)) (h : low ≤ e) : ¬ ExR m 1 e → magR m 1 e = INF := by
  intro hx
  rcases Nat.eq_zero_or_pos m with rfl | h0
  · exfalso
    apply hx
    unfold ExR Ex ulp
    rw [Nat.zero_mul, Nat.zero_div, Nat.zero_mod, blen_zero]
    exact ⟨rfl, rfl, by omega⟩
  · obtain ⟨s, hs⟩ : ∃ s : Nat, e + 1074 = s := ⟨(e + 1074).toNat, by omega⟩
    obtain ⟨a, b⟩ := magR_at (m := m) hs
    rw [a]
    rw [b] at hx
    by_cases hb : 2046 ≤ ulp (m * 2 ^ s) 1
    · exact mag_ulp_big (by omega) hb
    · exfalso
      apply hx
      have hl : blen (m * 2 ^ s) = blen m + s := blen_mul_pow h0 s
      unfold Ex
      unfold ulp at hb ⊢
      rw [Nat.mod_one, Nat.div_one, hl]
      rw [Nat.div_one, hl] at hb
      exact ⟨rfl, dvd_pow_pow (by omega), by omega⟩
theorem rdiv_far {m k : Nat} (hm : m < 2 ^ 64) (h : 64 < k) : rdiv m (2 ^ k) = 0 := by
  have : 2 ^ 65 ≤ 2 ^ k := Nat.pow_le_pow_right (by omega) h
  exact rdiv_small (by omega)
theorem word_clamp {m : Nat} (hm : m < 2 ^ 64) {e : Int} : magR m 1 (min (max e (-2000)) 2000) = magR m 1 e := by
  rcases Nat.eq_zero_or_pos m with rfl | h0
  · rw [magR_zero, magR_zero]
  · have hb := blen_pos h0
    have hb2 := blen_le hm
    rcases Int.lt_or_le e (-2000) with hl | hl
    · rw [magR_small (e := e) (by omega) (by rw [show blen 1 = 1 by decide]; omega), magR_small (by omega) (by rw [show blen 1 = 1 by decide]; omega)]
    · rcases Int.lt_or_le 2000 e with hg | hg
      · rw [magR_big1 (e := e) h0 (by omega), magR_big1 h0 (by omega)]
      · congr 1; omega
/-- long numbers: the lowest of 64 bits stands for all that is left out -/
theorem of_short {m skip : Nat} (e : Int) (hs : skip = blen m - 64) (h : ¬ tz m < skip) : magR (m / 2 ^ skip) 1 (e + skip) = magR m 1 e := by
  rcases Nat.eq_zero_or_pos skip with h0 | h0
  · rw [h0]; simp
  · have hm : 0 < m := by
      rcases Nat.eq_zero_or_pos m with rfl | h1
      · rw [blen_zero] at hs; omega
      · exact h1
    obtain ⟨h1, _⟩ := tz_part hm
    have h2 : m / 2 ^ skip * 2 ^ skip = m := by
      obtain ⟨c, hc⟩ : ∃ c, tz m = skip + c := ⟨tz m - skip, by omega⟩
      rw [hc] at h1
      generalize m / 2 ^ (skip + c) = o at h1
      rw [Nat.pow_add, Nat.mul_comm (2 ^ skip), ← Nat.mul_assoc] at h1
      rw [← h1, Nat.mul_div_cancel _ (Nat.two_pow_pos _)]
    rw [← magR_shift _ _ _ (by omega), h2]
theorem of_long {m skip : Nat} (e : Int) (hs : skip = blen m - 64) (h : tz m < skip) : magR (2 * (m / 2 ^ skip / 2) + 1) 1 (e + skip) = magR m 1 e := by
  have hm : 0 < m := by
    rcases Nat.eq_zero_or_pos m with rfl | h1
    · rw [blen_zero] at hs; omega
    · exact h1
  have hr : m % 2 ^ (skip + 1) ≠ 0 := by
    intro h1
    obtain ⟨h2, h3⟩ := tz_part hm
    generalize m / 2 ^ tz m = o at h2 h3
    rw [← h2] at h1
    have := odd_pow_dvd h3 h1
    omega
  have hb : 54 ≤ blen (m / 2 ^ (skip + 1)) := by rw [blen_div_pow]; omega
  have h4 := magR_sticky (e + skip + 1) (Nat.two_pow_pos (skip + 1)) hr hb
  have h5 := magR_down m 1 (skip + 1) (by omega) e
  rw [Nat.one_mul] at h5
  rw [show e + skip + 1 = e + ((skip + 1 : Nat) : Int) by omega, h5, magR_two] at h4
  rw [h4, show m / 2 ^ (skip + 1) = m / 2 ^ skip / 2 by rw [Nat.pow_succ, Nat.div_div_eq_div_mul], show e + ((skip + 1 : Nat) : Int) - 1 = e + skip by omega]
theorem of_clamp {m n : Nat} {e : Int} (hn : blen m ≤ n + 1) : magR m 1 (min (max e (-2000 - n)) 2000) = magR m 1 e ∧ magR m 1 (min (max e (-2000 - n)) 2000 - 1) = magR m 1 (e - 1) := by
  rcases Nat.eq_zero_or_pos m with rfl | h0
  · rw [magR_zero, magR_zero, magR_zero, magR_zero]; exact ⟨rfl, rfl⟩
  · have hb := blen_pos h0
    have h1 : blen 1 = 1 := by decide
    rcases Int.lt_or_le e (-2000 - n) with hl | hl
    · refine ⟨?_, ?_⟩
      · rw [magR_small (e := e) (by omega) (by rw [h1]; omega), magR_small (by omega) (by rw [h1]; omega)]
      · rw [magR_small (e := e - 1) (by omega) (by rw [h1]; omega), magR_small (by omega) (by rw [h1]; omega)]
    · rcases Int.lt_or_le 2000 e with hg | hg
      · refine ⟨?_, ?_⟩
        · rw [magR_big1 (e := e) h0 (by omega), magR_big1 h0 (by omega)]
        · rw [magR_big1 (e := e - 1) h0 (by omega), magR_big1 h0 (by omega)]
      · have : min (max e (-2000 - (n : Int))) 2000 = e := by omega
        rw [this]; exact ⟨rfl, rfl⟩
/-- quotients of at least 64 bits -/
theorem quot_blen {p q s : Nat} (hq : 0 < q) (hp : 0 < p) (h : 64 + blen q ≤ blen p + s) : 64 ≤ blen (p * 2 ^ s / q) := by
  have h1 := blen_self hp
  have h2 := blen_lt q
  have h3 := blen_pos hp
  apply blen_ge (k := 63)
  rw [Nat.le_div_iff_mul_le hq]
  have a : 2 ^ 63 * q ≤ 2 ^ 63 * 2 ^ blen q := Nat.mul_le_mul_left _ (by omega)
  have b : 2 ^ (blen p - 1) * 2 ^ s ≤ p * 2 ^ s := Nat.mul_le_mul_right _ h1
  rw [← Nat.pow_add] at a b
  have c : 2 ^ (63 + blen q) ≤ 2 ^ (blen p - 1 + s) := Nat.pow_le_pow_right (by omega) (by omega)
  omega
theorem quot_exact {p q s : Nat} (hq : 0 < q) (h : p * 2 ^ s % q = 0) : magR (p * 2 ^ s / q) 1 (-(s : Int)) = magR p q 0 := by
  have h1 : p * 2 ^ s / q * q = p * 2 ^ s := by have := Nat.div_add_mod' (p * 2 ^ s) q; omega
  refine magR_eq (a := 0) (b := s) (by omega) hq ?_ (by omega)
  rw [h1]; simp
theorem quot_sticky {p q s : Nat} (hq : 0 < q) (hp : 0 < p) (hs : 64 + blen q ≤ blen p + s) (h : p * 2 ^ s % q ≠ 0) : magR (2 * (p * 2 ^ s / q) + 1) 1 (-(s : Int) - 1) = magR p q 0 := by
  have hb := quot_blen hq hp hs
  rw [← magR_two, ← magR_sticky _ hq h (by omega), magR_shift _ _ _ hq]
  congr 1; omega
theorem quot_big {p q : Nat} (hq : 0 < q) (hp : 0 < p) (h : 1025 + blen q ≤ blen p) (e : Int) (he : 0 ≤ e) : magR p q e = INF := by
  have h1 := blen_self hp
  have h2 := blen_lt q
  have h4 : blen p - 1 - blen q + 1 ≤ blen (p / q) := by
    apply blen_ge
    rw [Nat.le_div_iff_mul_le hq]
    have a : 2 ^ (blen p - 1 - blen q) * q ≤ 2 ^ (blen p - 1 - blen q) * 2 ^ blen q := Nat.mul_le_mul_left _ (by omega)
    rw [← Nat.pow_add] at a
    rw [show blen p - 1 - blen q + blen q = blen p - 1 by omega] at a
    omega
  exact magR_big hq (by rcases Nat.eq_zero_or_pos (p / q) with h | h; rw [h, blen_zero] at h4; omega; exact h) (by omega)

/-- a double's word with its sign -/
def sg (s : Bool) (b : Nat) : Nat := if s then b + 9223372036854775808 else b
theorem sg_lt {s : Bool} {b : Nat} (h : b ≤ INF) : sg s b < 18446744073709551616 := by
  rw [INF_lit] at h; unfold sg; split <;> omega

/-- the lowest bit that is set -/
theorem low_bit {n : Nat} (h0 : 0 < n) (h : n < 2 ^ 64) : n &&& (2 ^ 64 - n) = 2 ^ tz n := by
  obtain ⟨h1, h2⟩ := tz_part h0
  generalize hT : tz n = t at *
  generalize n / 2 ^ t = o at *
  obtain ⟨j, rfl⟩ : ∃ j, o = 2 * j + 1 := ⟨o / 2, by omega⟩
  have e1 : n = 2 ^ (t + 1) * j + 2 ^ t := by rw [← h1, Nat.pow_succ]; grind
  have hp : 0 < 2 ^ t := Nat.two_pow_pos t
  have e2 : n - 1 = 2 ^ (t + 1) * j + (2 ^ t - 1) := by omega
  have ht : t < 64 := by
    rcases Nat.lt_or_ge t 64 with hl | hl
    · exact hl
    · have : 2 ^ 64 ≤ 2 ^ t := Nat.pow_le_pow_right (by omega) hl
      omega
  apply Nat.eq_of_testBit_eq
  intro i
  have e3 : 2 ^ 64 - n = 2 ^ 64 - ((n - 1) + 1) := by omega
  rw [Nat.testBit_and, e3, Nat.testBit_two_pow_sub_succ (by omega), Nat.testBit_two_pow, e2]
  have lt1 : 2 ^ t < 2 ^ (t + 1) := by rw [Nat.pow_succ]; omega
  have b1 : n.testBit i = if i < t + 1 then (2 ^ t).testBit i else j.testBit (i - (t + 1)) := by
    rw [e1, Nat.testBit_two_pow_mul_add _ lt1]
  have b2 : (2 ^ (t + 1) * j + (2 ^ t - 1)).testBit i = if i < t + 1 then (2 ^ t - 1).testBit i else j.testBit (i - (t + 1)) := Nat.testBit_two_pow_mul_add _ (by omega) _
  rw [b1, b2, Nat.testBit_two_pow, Nat.testBit_two_pow_sub_one]
  rcases Nat.lt_trichotomy i t with hl | rfl | hl
  · simp [show i < t + 1 by omega, show ¬ t = i by omega]
  · simp [ht]
  · simp [show ¬ i < t + 1 by omega, show ¬ t = i by omega]
    exact fun h _ => h

end Go.Proofs.YtibgpeaplmcogaaGreatDoor

namespace Go.Proofs.YtibgpeaplmcogaaGreatDoor
set_option maxRecDepth 100000
open Go.RowKit
set_option linter.unusedVariables false
set_option linter.unusedSimpArgs false

/-- the exponent's field, the fraction, the sign, the kind of a double -/
def fld (b : Nat) : Nat := b / 4503599627370496 % 2048
def rst (b : Nat) : Nat := b % 4503599627370496
def ng (b : Nat) : Bool := decide (9223372036854775808 ≤ b)
def kd (b : Nat) : Nat := if fld b = 2047 then (if rst b = 0 then 3 else 4) else if fld b = 0 then (if rst b = 0 then 0 else 1) else 2
/-- the significand and the exponent of a finite one -/
def sig (b : Nat) : Nat := if fld b = 0 then rst b else rst b + 4503599627370496
def xpo (b : Nat) : Int := if fld b = 0 then -1074 else (fld b : Int) - 1075
theorem fld_lt (b : Nat) : fld b ≤ 2047 := by unfold fld; omega
theorem rst_lt (b : Nat) : rst b < 4503599627370496 := by unfold rst; omega
theorem U_n64 {b : Nat} (h : b < 18446744073709551616) : U (b : Int) := by unfold U; omega
theorem fld_bits {b : Nat} (h : b < 18446744073709551616) : bits .and .u64 ((b : Int) / 4503599627370496) 2047 = (fld b : Int) := by
  have := and_mask 11 (by decide) (a := (b : Int) / 4503599627370496) (by unfold U; omega)
  have e : ((2 ^ 11 - 1 : Nat) : Int) = 2047 := by decide
  rw [e] at this
  rw [this]
  unfold fld
  have e2 : ((2 ^ 11 : Nat) : Int) = 2048 := by decide
  rw [e2]
  omega
theorem rst_bits {b : Nat} (h : b < 18446744073709551616) : bits .and .u64 (b : Int) 4503599627370495 = (rst b : Int) := by
  have := and_mask 52 (by decide) (U_n64 h)
  have e : ((2 ^ 52 - 1 : Nat) : Int) = 4503599627370495 := by decide
  rw [e] at this
  rw [this]
  unfold rst
  have e2 : ((2 ^ 52 : Nat) : Int) = 4503599627370496 := by decide
  rw [e2]
  omega
theorem hid_bits {b : Nat} (h : b < 18446744073709551616) : bits .or .u64 4503599627370496 (rst b : Int) = ((rst b + 4503599627370496 : Nat) : Int) := by
  have h1 := rst_lt b
  have := or_join 52 (x := 4503599627370496) (y := (rst b : Int)) (by unfold U; omega) (by decide) (by omega) (by omega) (by unfold U; omega)
  rw [this]; omega
theorem neg_bits {b : Nat} (h : b < 18446744073709551616) : (bits .and .u64 (b : Int) 9223372036854775808 != 0) = ng b := by
  have h1 := u64_and_nat b 9223372036854775808 h (by omega)
  have e : ((9223372036854775808 : Nat) : Int) = 9223372036854775808 := rfl
  rw [e] at h1
  rw [h1]
  unfold ng
  rcases Nat.lt_or_ge b 9223372036854775808 with hl | hl
  · have h2 : b &&& 9223372036854775808 = 0 := by
      apply Nat.eq_of_testBit_eq
      intro i
      rw [Nat.testBit_and, show (9223372036854775808 : Nat) = 2 ^ 63 by decide, Nat.testBit_two_pow, Nat.zero_testBit]
      by_cases hi : 63 = i
      · subst hi
        rw [Nat.testBit_lt_two_pow (by omega)]; rfl
      · simp [hi]
    rw [h2, decide_eq_false (by omega)]; rfl
  · have h2 : b &&& 9223372036854775808 ≠ 0 := by
      intro h2
      have h3 : (b &&& 9223372036854775808).testBit 63 = true := by
        rw [Nat.testBit_and, show (9223372036854775808 : Nat) = 2 ^ 63 by decide, Nat.testBit_two_pow, Nat.testBit_eq_decide_div_mod_eq]
        simp; omega
      rw [h2] at h3
      simp at h3
    rw [decide_eq_true hl]
    simp only [bne_iff_ne, ne_eq]
    omega
/-- a double with the opposite sign -/
def flp (b : Nat) : Nat := (b + 9223372036854775808) % 18446744073709551616
theorem flip_bits {b : Nat} (h : b < 18446744073709551616) : bits .xor .u64 (b : Int) 9223372036854775808 = (flp b : Int) := by
  have h1 := u64_xor_nat b 9223372036854775808 h (by omega)
  have e : ((9223372036854775808 : Nat) : Int) = 9223372036854775808 := rfl
  rw [e] at h1
  rw [h1]
  suffices h9 : b ^^^ 9223372036854775808 = flp b by rw [h9]
  unfold flp
  rcases Nat.lt_or_ge b 9223372036854775808 with hl | hl
  · have := Nat.two_pow_add_eq_or_of_lt (b := b) (i := 63) (by omega) 1
    have h3 : b ^^^ 9223372036854775808 = b + 9223372036854775808 := by
      apply Nat.eq_of_testBit_eq
      intro i
      rw [Nat.testBit_xor, show (9223372036854775808 : Nat) = 2 ^ 63 * 1 by decide, Nat.add_comm b, Nat.testBit_two_pow_mul_add _ (by omega)]
      rw [Nat.mul_one, Nat.testBit_two_pow]
      by_cases hi : i < 63
      · simp [hi, show ¬ 63 = i by omega]
      · have : b.testBit i = false := Nat.testBit_lt_two_pow (Nat.lt_of_lt_of_le hl (Nat.pow_le_pow_right (n := 2) (by omega) (show 63 ≤ i by omega)))
        simp only [this, Bool.false_xor, if_neg hi]
        rcases Nat.lt_or_ge 63 i with hg | hg
        · have e1 : ¬ 63 = i := by omega
          obtain ⟨j, rfl⟩ : ∃ j, i = 64 + j := ⟨i - 64, by omega⟩
          simp [e1, show 64 + j - 63 = j + 1 by omega, Nat.testBit_succ]
        · have : i = 63 := by omega
          subst this; decide
    rw [h3]; omega
  · obtain ⟨c, hc⟩ : ∃ c, b = 2 ^ 63 * 1 + c := ⟨b - 9223372036854775808, by omega⟩
    have hc2 : c < 2 ^ 63 := by omega
    have h3 : b ^^^ 9223372036854775808 = c := by
      apply Nat.eq_of_testBit_eq
      intro i
      rw [Nat.testBit_xor, hc, Nat.testBit_two_pow_mul_add _ hc2, show (9223372036854775808 : Nat) = 2 ^ 63 by decide, Nat.testBit_two_pow]
      by_cases hi : i < 63
      · simp [hi, show ¬ 63 = i by omega]
      · have : c.testBit i = false := Nat.testBit_lt_two_pow (Nat.lt_of_lt_of_le hc2 (Nat.pow_le_pow_right (by omega) (by omega)))
        rw [this, if_neg hi]
        rcases Nat.lt_or_ge 63 i with hg | hg
        · have e1 : ¬ 63 = i := by omega
          obtain ⟨j, rfl⟩ : ∃ j, i = 64 + j := ⟨i - 64, by omega⟩
          simp [e1, show 64 + j - 63 = j + 1 by omega, Nat.testBit_succ]
        · have : i = 63 := by omega
          subst this; decide
    rw [h3]; omega
theorem sign_bits (s : Bool) {b : Nat} (h : b < 9223372036854775808) : bits .or .u64 (b : Int) 9223372036854775808 = ((b + 9223372036854775808 : Nat) : Int) := by
  have h1 := u64_or_nat b 9223372036854775808 (by omega) (by omega)
  have e : ((9223372036854775808 : Nat) : Int) = 9223372036854775808 := rfl
  rw [e] at h1
  rw [h1]
  suffices h9 : b ||| 9223372036854775808 = b + 9223372036854775808 by rw [h9]
  rw [Nat.or_comm]
  have := Nat.two_pow_add_eq_or_of_lt (b := b) (i := 63) (by omega) 1
  rw [show (9223372036854775808 : Nat) = 2 ^ 63 * 1 by decide, ← this]
  omega

set_option maxHeartbeats 400000 in
theorem fb_field {b : Nat} (hb : b < 18446744073709551616) (w : World) :
    Calls Tryz.prog 207 #[.int .u64 b] w fun e w' => e = .returned (.int .i64 (fld b)) ∧ w = w' := by
  have h1 := fld_bits hb
  have h2 := fld_lt b
  go_enter Tryz.func207, Tryz.ntmps207
  go_wp2
  go_ret
  exact ⟨rfl, rfl⟩
set_option maxHeartbeats 400000 in
theorem rf_field {b : Nat} (hb : b < 18446744073709551616) (w : World) :
    Calls Tryz.prog 172 #[.int .u64 b] w fun e w' => e = .returned (.int .i64 (fld b)) ∧ w = w' := by
  have h1 := fld_bits hb
  have h2 := fld_lt b
  go_enter Tryz.func172, Tryz.ntmps172
  go_wp2
  go_ret
  exact ⟨rfl, rfl⟩
set_option maxHeartbeats 400000 in
theorem rf_rest {b : Nat} (hb : b < 18446744073709551616) (w : World) :
    Calls Tryz.prog 173 #[.int .u64 b] w fun e w' => e = .returned (.int .u64 (rst b)) ∧ w = w' := by
  have h1 := rst_bits hb
  go_enter Tryz.func173, Tryz.ntmps173
  go_wp2
  go_ret
  exact ⟨rfl, rfl⟩
set_option maxHeartbeats 1000000 in
theorem fb_kind {b : Nat} (hb : b < 18446744073709551616) (w : World) :
    Calls Tryz.prog 149 #[.int .u64 b] w fun e w' => e = .returned (.int .i64 (kd b)) ∧ w = w' := by
  have h1 := rst_bits hb
  have F := Lib.hid (fb_field hb w)
  have hk : kd b = if fld b = 2047 then (if rst b = 0 then 3 else 4) else if fld b = 0 then (if rst b = 0 then 0 else 1) else 2 := rfl
  generalize kd b = K at *
  generalize rst b = r at *
  generalize fld b = f at *
  have HK := Lib.hid hk
  clear hk
  by_cases h2 : f = 2047
  · subst h2
    by_cases h3 : r = 0
    · subst h3
      go_enter Tryz.func149, Tryz.ntmps149
      go_wp2_with fail
      refine F.out.mono ?_
      rintro e w' ⟨rfl, rfl⟩
      go_wp2_with fail
      go_ret
      exact ⟨ret1 (by have := HK.out; simp at this; omega), rfl⟩
    · have h4 : ((r : Int) == 0) = false := by simp; omega
      go_enter Tryz.func149, Tryz.ntmps149
      go_wp2_with fail
      refine F.out.mono ?_
      rintro e w' ⟨rfl, rfl⟩
      go_wp2_with fail
      go_ret
      exact ⟨ret1 (by have := HK.out; simp [h3] at this; omega), rfl⟩
  · have g2 : ((f : Int) == 2047) = false := by simp; omega
    by_cases h5 : f = 0
    · subst h5
      by_cases h3 : r = 0
      · subst h3
        go_enter Tryz.func149, Tryz.ntmps149
        go_wp2_with fail
        refine F.out.mono ?_
        rintro e w' ⟨rfl, rfl⟩
        go_wp2_with fail
        go_ret
        exact ⟨ret1 (by have := HK.out; simp at this; omega), rfl⟩
      · have h4 : ((r : Int) == 0) = false := by simp; omega
        go_enter Tryz.func149, Tryz.ntmps149
        go_wp2_with fail
        refine F.out.mono ?_
        rintro e w' ⟨rfl, rfl⟩
        go_wp2_with fail
        go_ret
        exact ⟨ret1 (by have := HK.out; simp [h3] at this; omega), rfl⟩
    · have g5 : ((f : Int) == 0) = false := by simp; omega
      go_enter Tryz.func149, Tryz.ntmps149
      go_wp2_with fail
      refine F.out.mono ?_
      rintro e w' ⟨rfl, rfl⟩
      go_wp2_with fail
      go_ret
      exact ⟨ret1 (by have := HK.out; rw [if_neg h2, if_neg h5] at this; omega), rfl⟩
set_option maxHeartbeats 1000000 in
theorem rf_kind {b : Nat} (hb : b < 18446744073709551616) (w : World) :
    Calls Tryz.prog 104 #[.int .u64 b] w fun e w' => e = .returned (.int .i64 (kd b)) ∧ w = w' := by
  have F := Lib.hid (rf_field hb w)
  have R := Lib.hid (rf_rest hb w)
  have hk : kd b = if fld b = 2047 then (if rst b = 0 then 3 else 4) else if fld b = 0 then (if rst b = 0 then 0 else 1) else 2 := rfl
  generalize kd b = K at *
  generalize rst b = r at *
  generalize fld b = f at *
  have HK := Lib.hid hk
  clear hk
  by_cases h2 : f = 2047
  · subst h2
    by_cases h3 : r = 0
    · subst h3
      go_enter Tryz.func104, Tryz.ntmps104
      go_wp2_with (first | (go_at_call 172; refine F.out.mono ?_; rintro e w' ⟨rfl, rfl⟩) | (go_at_call 173; refine R.out.mono ?_; rintro e w' ⟨rfl, rfl⟩) | fail)
      go_ret
      exact ⟨ret1 (by have := HK.out; simp at this; omega), rfl⟩
    · have h4 : ((r : Int) == 0) = false := by simp; omega
      go_enter Tryz.func104, Tryz.ntmps104
      go_wp2_with (first | (go_at_call 172; refine F.out.mono ?_; rintro e w' ⟨rfl, rfl⟩) | (go_at_call 173; refine R.out.mono ?_; rintro e w' ⟨rfl, rfl⟩) | fail)
      go_ret
      exact ⟨ret1 (by have := HK.out; simp [h3] at this; omega), rfl⟩
  · have g2 : ((f : Int) == 2047) = false := by simp; omega
    by_cases h5 : f = 0
    · subst h5
      by_cases h3 : r = 0
      · subst h3
        go_enter Tryz.func104, Tryz.ntmps104
        go_wp2_with (first | (go_at_call 172; refine F.out.mono ?_; rintro e w' ⟨rfl, rfl⟩) | (go_at_call 173; refine R.out.mono ?_; rintro e w' ⟨rfl, rfl⟩) | fail)
        go_ret
        exact ⟨ret1 (by have := HK.out; simp at this; omega), rfl⟩
      · have h4 : 0 < r := by omega
        go_enter Tryz.func104, Tryz.ntmps104
        go_wp2_with (first | (go_at_call 172; refine F.out.mono ?_; rintro e w' ⟨rfl, rfl⟩) | (go_at_call 173; refine R.out.mono ?_; rintro e w' ⟨rfl, rfl⟩) | fail)
        go_ret
        exact ⟨ret1 (by have := HK.out; simp [h3] at this; omega), rfl⟩
    · have g5 : 0 < f := by omega
      go_enter Tryz.func104, Tryz.ntmps104
      go_wp2_with (first | (go_at_call 172; refine F.out.mono ?_; rintro e w' ⟨rfl, rfl⟩) | (go_at_call 173; refine R.out.mono ?_; rintro e w' ⟨rfl, rfl⟩) | fail)
      go_ret
      exact ⟨ret1 (by have := HK.out; rw [if_neg h2, if_neg h5] at this; omega), rfl⟩
set_option maxHeartbeats 400000 in
theorem fb_neg {b : Nat} (hb : b < 18446744073709551616) (w : World) :
    Calls Tryz.prog 157 #[.int .u64 b] w fun e w' => e = .returned (.bool (ng b)) ∧ w = w' := by
  have h1 := neg_bits hb
  go_enter Tryz.func157, Tryz.ntmps157
  go_wp2
  go_ret
  exact ⟨rfl, rfl⟩
set_option maxHeartbeats 400000 in
theorem rf_neg {b : Nat} (hb : b < 18446744073709551616) (w : World) :
    Calls Tryz.prog 180 #[.int .u64 b] w fun e w' => e = .returned (.bool (ng b)) ∧ w = w' := by
  have h1 : ((b : Int) / 9223372036854775808 == 1) = ng b := by
    unfold ng; rw [Bool.eq_iff_iff]; simp only [beq_iff_eq, decide_eq_true_eq]; omega
  go_enter Tryz.func180, Tryz.ntmps180
  go_wp2
  go_ret
  exact ⟨rfl, rfl⟩
/-- is it a number? -/
def fin (b : Nat) : Bool := decide (fld b < 2047)
set_option maxHeartbeats 400000 in
theorem rf_finite {b : Nat} (hb : b < 18446744073709551616) (w : World) :
    Calls Tryz.prog 224 #[.int .u64 b] w fun e w' => e = .returned (.bool (fin b)) ∧ w = w' := by
  have F := Lib.hid (rf_field hb w)
  unfold fin
  generalize fld b = f at *
  have h1 : decide ((f : Int) < 2047) = decide (f < 2047) := by rw [Bool.eq_iff_iff]; simp; omega
  go_enter Tryz.func224, Tryz.ntmps224
  go_wp2_with fail
  refine F.out.mono ?_
  rintro e w' ⟨rfl, rfl⟩
  go_wp2_with fail
  go_ret
  exact ⟨rfl, rfl⟩
set_option maxHeartbeats 400000 in
theorem fb_signed (s : Bool) {b : Nat} (hb : b < 9223372036854775808) (w : World) :
    Calls Tryz.prog 216 #[.bool s, .int .u64 b] w fun e w' => e = .returned (.int .u64 (sg s b)) ∧ w = w' := by
  have h1 := sign_bits s hb
  cases s
  · go_enter Tryz.func216, Tryz.ntmps216
    go_wp2
    go_ret
    exact ⟨rfl, rfl⟩
  · go_enter Tryz.func216, Tryz.ntmps216
    go_wp2
    go_ret
    exact ⟨ret1 (by unfold sg; simp), rfl⟩
set_option maxHeartbeats 400000 in
theorem rf_signed (s : Bool) {b : Nat} (hb : b < 9223372036854775808) (w : World) :
    Calls Tryz.prog 107 #[.bool s, .int .u64 b] w fun e w' => e = .returned (.int .u64 (sg s b)) ∧ w = w' := by
  cases s
  · go_enter Tryz.func107, Tryz.ntmps107
    go_wp2
    go_ret
    exact ⟨rfl, rfl⟩
  · go_enter Tryz.func107, Tryz.ntmps107
    go_wp2
    go_ret
    exact ⟨ret1 (by unfold sg; simp), rfl⟩
def NAN : Nat := 9221120237041090560
set_option maxHeartbeats 400000 in
theorem fb_nan (w : World) : Calls Tryz.prog 150 #[] w fun e w' => e = .returned (.int .u64 NAN) ∧ w = w' := by
  go_enter Tryz.func150, Tryz.ntmps150
  go_wp2
  go_ret
  exact ⟨rfl, rfl⟩
set_option maxHeartbeats 400000 in
theorem rf_nan (w : World) : Calls Tryz.prog 105 #[] w fun e w' => e = .returned (.int .u64 NAN) ∧ w = w' := by
  go_enter Tryz.func105, Tryz.ntmps105
  go_wp2
  go_ret
  exact ⟨rfl, rfl⟩
set_option maxHeartbeats 400000 in
theorem fb_inf (s : Bool) (w : World) : Calls Tryz.prog 158 #[.bool s] w fun e w' => e = .returned (.int .u64 (sg s INF)) ∧ w = w' := by
  have S := fb_signed s (b := 9218868437227405312) (by omega) w
  rw [← INF_lit] at S
  have e : ((INF : Nat) : Int) = 9218868437227405312 := by rw [INF_lit]; rfl
  rw [e] at S
  have HS := Lib.hid S
  clear S e
  go_enter Tryz.func158, Tryz.ntmps158
  go_wp2_with fail
  refine HS.out.mono ?_
  rintro e w' ⟨rfl, rfl⟩
  go_wp2_with fail
  go_ret
  exact ⟨rfl, rfl⟩
set_option maxHeartbeats 400000 in
theorem rf_inf (s : Bool) (w : World) : Calls Tryz.prog 106 #[.bool s] w fun e w' => e = .returned (.int .u64 (sg s INF)) ∧ w = w' := by
  have S := rf_signed s (b := 9218868437227405312) (by omega) w
  rw [← INF_lit] at S
  have e : ((INF : Nat) : Int) = 9218868437227405312 := by rw [INF_lit]; rfl
  rw [e] at S
  have HS := Lib.hid S
  clear S e
  go_enter Tryz.func106, Tryz.ntmps106
  go_wp2_with fail
  refine HS.out.mono ?_
  rintro e w' ⟨rfl, rfl⟩
  go_wp2_with fail
  go_ret
  exact ⟨rfl, rfl⟩
/-- a double; all that are no number as one -/
def cln (b : Nat) : Nat := if kd b = 4 then NAN else b
theorem cln_lt {b : Nat} (hb : b < 18446744073709551616) : cln b < 18446744073709551616 := by unfold cln NAN; split <;> omega
set_option maxHeartbeats 400000 in
theorem fb_clean {b : Nat} (hb : b < 18446744073709551616) (w : World) :
    Calls Tryz.prog 94 #[.int .u64 b] w fun e w' => e = .returned (.int .u64 (cln b)) ∧ w = w' := by
  have F := Lib.hid (fb_kind hb w)
  have hk : cln b = if kd b = 4 then NAN else b := rfl
  generalize cln b = K at *
  generalize kd b = f at *
  have HK := Lib.hid hk
  clear hk
  by_cases h : f = 4
  · subst h
    go_enter Tryz.func94, Tryz.ntmps94
    go_wp2_with fail
    refine F.out.mono ?_
    rintro e w' ⟨rfl, rfl⟩
    go_wp2_with fail
    refine (fb_nan _).mono ?_
    rintro e w' ⟨rfl, rfl⟩
    go_wp2_with fail
    go_ret
    exact ⟨ret1 (by have := HK.out; rw [if_pos trivial] at this; omega), rfl⟩
  · have g : ((f : Int) == 4) = false := by simp; omega
    go_enter Tryz.func94, Tryz.ntmps94
    go_wp2_with fail
    refine F.out.mono ?_
    rintro e w' ⟨rfl, rfl⟩
    go_wp2_with fail
    go_ret
    exact ⟨ret1 (by have := HK.out; rw [if_neg h] at this; omega), rfl⟩
set_option maxHeartbeats 400000 in
theorem rf_clean {b : Nat} (hb : b < 18446744073709551616) (w : World) :
    Calls Tryz.prog 63 #[.int .u64 b] w fun e w' => e = .returned (.int .u64 (cln b)) ∧ w = w' := by
  have F := Lib.hid (rf_kind hb w)
  have hk : cln b = if kd b = 4 then NAN else b := rfl
  generalize cln b = K at *
  generalize kd b = f at *
  have HK := Lib.hid hk
  clear hk
  by_cases h : f = 4
  · subst h
    go_enter Tryz.func63, Tryz.ntmps63
    go_wp2_with fail
    refine F.out.mono ?_
    rintro e w' ⟨rfl, rfl⟩
    go_wp2_with fail
    refine (rf_nan _).mono ?_
    rintro e w' ⟨rfl, rfl⟩
    go_wp2_with fail
    go_ret
    exact ⟨ret1 (by have := HK.out; rw [if_pos trivial] at this; omega), rfl⟩
  · have g : ((f : Int) == 4) = false := by simp; omega
    go_enter Tryz.func63, Tryz.ntmps63
    go_wp2_with fail
    refine F.out.mono ?_
    rintro e w' ⟨rfl, rfl⟩
    go_wp2_with fail
    go_ret
    exact ⟨ret1 (by have := HK.out; rw [if_neg h] at this; omega), rfl⟩
theorem flp_lt (b : Nat) : flp b < 18446744073709551616 := by unfold flp; omega
theorem flp_kind {b : Nat} (hb : b < 18446744073709551616) : kd (flp b) = kd b := by
  have h1 : fld (flp b) = fld b := by unfold fld flp; omega
  have h2 : rst (flp b) = rst b := by unfold rst flp; omega
  unfold kd; rw [h1, h2]
/-- .. with the opposite sign -/
def flc (b : Nat) : Nat := if kd b = 4 then NAN else flp b
theorem flc_cln {b : Nat} (hb : b < 18446744073709551616) : cln (flp b) = flc b := by unfold cln flc; rw [flp_kind hb]
set_option maxHeartbeats 400000 in
theorem fb_flip {b : Nat} (hb : b < 18446744073709551616) (w : World) :
    Calls Tryz.prog 96 #[.int .u64 b] w fun e w' => e = .returned (.int .u64 (flc b)) ∧ w = w' := by
  have h1 := flip_bits hb
  have F := fb_clean (flp_lt b) w
  rw [flc_cln hb] at F
  have HF := Lib.hid F
  clear F
  go_enter Tryz.func96, Tryz.ntmps96
  go_wp2_with fail
  refine HF.out.mono ?_
  rintro e w' ⟨rfl, rfl⟩
  go_wp2_with fail
  go_ret
  exact ⟨rfl, rfl⟩
set_option maxHeartbeats 400000 in
theorem rf_flip {b : Nat} (hb : b < 18446744073709551616) (w : World) :
    Calls Tryz.prog 111 #[.int .u64 b] w fun e w' => e = .returned (.int .u64 (flc b)) ∧ w = w' := by
  have F := Lib.hid (rf_kind hb w)
  have hk : flc b = if kd b = 4 then NAN else flp b := rfl
  have hf : (flp b : Int) = ((b : Int) + 9223372036854775808) % 18446744073709551616 := by unfold flp; omega
  generalize flc b = K at *
  generalize flp b = L at *
  generalize kd b = f at *
  have HK := Lib.hid hk
  have HF := Lib.hid hf
  clear hk hf
  by_cases h : f = 4
  · subst h
    go_enter Tryz.func111, Tryz.ntmps111
    go_wp2_with fail
    refine F.out.mono ?_
    rintro e w' ⟨rfl, rfl⟩
    go_wp2_with fail
    refine (rf_nan _).mono ?_
    rintro e w' ⟨rfl, rfl⟩
    go_wp2_with fail
    go_ret
    exact ⟨ret1 (by have := HK.out; rw [if_pos trivial] at this; omega), rfl⟩
  · have g : ((f : Int) == 4) = false := by simp; omega
    go_enter Tryz.func111, Tryz.ntmps111
    go_wp2_with fail
    refine F.out.mono ?_
    rintro e w' ⟨rfl, rfl⟩
    go_wp2_with fail
    go_ret
    exact ⟨ret1 (by have := HK.out; have h9 := HF.out; rw [if_neg h] at this; try rw [wrapU]; omega), rfl⟩

set_option maxHeartbeats 1000000 in
theorem fb_parts {b : Nat} (hb : b < 18446744073709551616) (w : World) :
    Calls Tryz.prog 214 #[.int .u64 b] w fun e w' => e = .returned (if fld b < 2047 then .tuple #[.bool (ng b), .int .u64 (sig b), .int .i64 (xpo b), .bool true] else .tuple #[.bool false, .int .u64 0, .int .i64 0, .bool false]) ∧ w = w' := by
  have h1 := rst_bits hb
  have h6 := hid_bits hb
  have F := Lib.hid (fb_kind hb w)
  have G := Lib.hid (fb_field hb w)
  have N := Lib.hid (fb_neg hb w)
  have hl := fld_lt b
  have hr := rst_lt b
  have hk : kd b = if fld b = 2047 then (if rst b = 0 then 3 else 4) else if fld b = 0 then (if rst b = 0 then 0 else 1) else 2 := rfl
  have hs : sig b = if fld b = 0 then rst b else rst b + 4503599627370496 := rfl
  have hx : xpo b = if fld b = 0 then -1074 else (fld b : Int) - 1075 := rfl
  generalize kd b = K at *
  generalize sig b = S at *
  generalize xpo b = X at *
  generalize rst b = r at *
  generalize fld b = f at *
  generalize ng b = g at *
  by_cases h2 : f = 2047
  · subst h2
    rw [if_neg (by omega)]
    simp at hk
    have hK : K = 3 ∨ K = 4 := by split at hk <;> omega
    clear hk hs hx
    rcases hK with rfl | rfl
    all_goals
      go_enter Tryz.func214, Tryz.ntmps214
      go_wp2_with fail
      refine F.out.mono ?_
      rintro e w' ⟨rfl, rfl⟩
      go_wp2_with fail
      refine bodyPost_ret (v := .tuple #[.bool false, .int .u64 0, .int .i64 0, .bool false]) (by simp [results, Tryz.results214, go_sem]) rfl ?_
      exact ⟨rfl, rfl⟩
  · rw [if_pos (show f < 2047 by omega)]
    rw [if_neg h2] at hk
    by_cases h5 : f = 0
    · subst h5
      simp at hk hs hx
      subst hs hx
      have hK : K = 0 ∨ K = 1 := by split at hk <;> omega
      clear hk
      rcases hK with rfl | rfl
      all_goals
        go_enter Tryz.func214, Tryz.ntmps214
        go_wp2_with fail
        refine F.out.mono ?_
        rintro e w' ⟨rfl, rfl⟩
        go_wp2_with fail
        refine N.out.mono ?_
        rintro e w' ⟨rfl, rfl⟩
        go_wp2_with fail
        refine bodyPost_ret (v := .tuple #[.bool g, .int .u64 S, .int .i64 (-1074), .bool true]) (by simp [results, Tryz.results214, go_sem]) rfl ?_
        exact ⟨rfl, rfl⟩
    · rw [if_neg h5] at hk hs hx
      subst hk hs hx
      obtain ⟨y, hy⟩ : ∃ y : Int, (f : Int) - 1075 = y := ⟨_, rfl⟩
      have hy2 : (f : Int) - 1 + -1074 = y := by omega
      rw [hy]
      have HY := Lib.hid hy2
      clear hy hy2
      go_enter Tryz.func214, Tryz.ntmps214
      go_wp2_with fail
      refine F.out.mono ?_
      rintro e w' ⟨rfl, rfl⟩
      go_wp2_with fail
      refine N.out.mono ?_
      rintro e w' ⟨rfl, rfl⟩
      go_wp2_with fail
      refine G.out.mono ?_
      rintro e w' ⟨rfl, rfl⟩
      go_wp2_with fail
      have := HY.out
      refine bodyPost_ret (v := .tuple #[.bool g, .int .u64 ((r + 4503599627370496 : Nat) : Int), .int .i64 y, .bool true]) (by simp [results, Tryz.results214, go_sem]; try omega) rfl ?_
      exact ⟨rfl, rfl⟩
set_option maxHeartbeats 1000000 in
theorem rf_parts {b : Nat} (hb : b < 18446744073709551616) (w : World) :
    Calls Tryz.prog 181 #[.int .u64 b] w fun e w' => e = .returned (.tuple #[.int .u64 (sig b), .int .i64 (xpo b)]) ∧ w = w' := by
  have R := Lib.hid (rf_rest hb w)
  have G := Lib.hid (rf_field hb w)
  have hl := fld_lt b
  have hr := rst_lt b
  have hs : sig b = if fld b = 0 then rst b else rst b + 4503599627370496 := rfl
  have hx : xpo b = if fld b = 0 then -1074 else (fld b : Int) - 1075 := rfl
  generalize sig b = S at *
  generalize xpo b = X at *
  generalize rst b = r at *
  generalize fld b = f at *
  by_cases h5 : f = 0
  · subst h5
    simp at hs hx
    subst hs hx
    go_enter Tryz.func181, Tryz.ntmps181
    go_wp2_with (first | (go_at_call 172; refine G.out.mono ?_; rintro e w' ⟨rfl, rfl⟩) | (go_at_call 173; refine R.out.mono ?_; rintro e w' ⟨rfl, rfl⟩) | fail)
    go_ret2
    exact ⟨rfl, rfl⟩
  · have g5 : ((f : Int) == 0) = false := by simp; omega
    rw [if_neg h5] at hs hx
    subst hs hx
    go_enter Tryz.func181, Tryz.ntmps181
    go_wp2_with (first | (go_at_call 172; refine G.out.mono ?_; rintro e w' ⟨rfl, rfl⟩) | (go_at_call 173; refine R.out.mono ?_; rintro e w' ⟨rfl, rfl⟩) | fail)
    go_ret2
    exact ⟨ret2 (by omega) (by omega), rfl⟩

end Go.Proofs.YtibgpeaplmcogaaGreatDoor

namespace Go.Proofs.YtibgpeaplmcogaaGreatDoor
set_option maxRecDepth 100000
set_option linter.unusedVariables false
set_option linter.unusedSimpArgs false

@[irreducible] def K74 : Nat := 1074
theorem K74_eq : K74 = 1074 := by unfold K74; rfl
def mant (b : Nat) : Nat := b % 9223372036854775808
/-- the double nearest to an exact number -/
def fromQ (X : Rat) : Nat := sg (neg_ X) (magR X.num.natAbs X.den 0)

theorem mant_lt {b : Nat} (h : fld b < 2047) : mant b < INF := by
  rw [INF_lit]; unfold mant; unfold fld at h; omega
theorem mant_fld (b : Nat) : mant b / B52 = fld b ∧ mant b % B52 = rst b := by
  rw [B52_eq]; unfold mant fld rst; omega
theorem sg_mant (b : Nat) (hb : b < 18446744073709551616) : sg (ng b) (mant b) = b := by
  unfold sg ng mant
  by_cases h : 9223372036854775808 ≤ b
  · rw [decide_eq_true h]; simp; omega
  · rw [decide_eq_false h]; simp; omega
/-- the value, by significand and exponent -/
theorem fv_mant (b : Nat) : fv (mant b) = sig b * 2 ^ (xpo b + 1074).toNat := by
  obtain ⟨h1, h2⟩ := mant_fld b
  unfold fv
  rw [h1, h2]
  unfold sig xpo
  by_cases h : fld b = 0
  · rw [if_pos h, if_pos h, if_pos h]
    have : mant b = rst b := by
      have := Nat.div_add_mod (mant b) B52
      rw [h1, h2, h] at this
      omega
    rw [this]; simp
  · rw [if_neg h, if_neg h, if_neg h, B52_eq]
    congr 2
    omega
theorem xpo_range {b : Nat} (h : fld b < 2047) : -1074 ≤ xpo b ∧ xpo b ≤ 971 := by unfold xpo; split <;> omega
theorem sig_lt (b : Nat) : sig b < 9007199254740992 := by have := rst_lt b; unfold sig; split <;> omega
theorem abs_same (s : Bool) (a b : Nat) : (sI s a - sI s b).natAbs = dist a b := by
  unfold sI dist; cases s <;> simp <;> omega
theorem magR_le' (p q : Nat) (e : Int) : magR p q e ≤ 9218868437227405312 := by have := mag_le (p * 2 ^ up e) (q * 2 ^ dn e); rw [INF_lit] at this; exact this
end Go.Proofs.YtibgpeaplmcogaaGreatDoor

namespace Go.Proofs.YtibgpeaplmcogaaGreatDoor
set_option maxRecDepth 100000
set_option linter.unusedVariables false
set_option linter.unusedSimpArgs false

/-- what has at most 53 bits is a double -/
theorem ex_any {x s : Nat} (hx : x < 2 * B52) (hs : s ≤ 2045) : Ex (x * 2 ^ s) 1 := by
  rcases Nat.eq_zero_or_pos x with rfl | h0
  · unfold Ex ulp
    rw [Nat.zero_mul, Nat.zero_div, Nat.zero_mod, blen_zero]
    exact ⟨rfl, rfl, by omega⟩
  · have hb := blen_le (n := x) (k := 53) (by rw [B52_pow] at hx; omega)
    have hl : blen (x * 2 ^ s) = blen x + s := blen_mul_pow h0 s
    unfold Ex ulp
    rw [Nat.mod_one, Nat.div_one, hl]
    exact ⟨rfl, dvd_pow_pow (by omega), by omega⟩
/-- a number that is a double, and its word -/
theorem ex_val {p : Nat} (h : Ex p 1) : fv (mag p 1) = p ∧ mag p 1 < INF := by
  obtain ⟨_, h2, h3⟩ := h
  rw [Nat.div_one] at h2 h3
  have hu : ulp p 1 ≤ 2045 := by unfold ulp; rw [Nat.div_one]; omega
  have hp : 0 < 2 ^ ulp p 1 := Nat.two_pow_pos _
  have hd : p / 2 ^ ulp p 1 * 2 ^ ulp p 1 = p := by have := Nat.div_add_mod' p (2 ^ ulp p 1); omega
  have hr : rdiv p (1 * 2 ^ ulp p 1) = p / 2 ^ ulp p 1 := by
    rw [Nat.one_mul]
    have := rdiv_exact (p / 2 ^ ulp p 1) hp
    rwa [hd] at this
  have hl : p / 2 ^ ulp p 1 < 2 * B52 := by
    rw [Nat.div_lt_iff_lt_mul hp]
    refine Nat.lt_of_lt_of_le (blen_lt p) ?_
    rw [B52_pow, ← Nat.pow_succ', ← Nat.pow_add]
    exact Nat.pow_le_pow_right (by omega) (by unfold ulp; rw [Nat.div_one]; omega)
  have h6 : mag p 1 ≤ ulp p 1 * B52 + rdiv p (1 * 2 ^ ulp p 1) := by unfold mag; exact Nat.min_le_left _ _
  have h4 : ulp p 1 * B52 ≤ 2045 * B52 := Nat.mul_le_mul_right _ hu
  have hm : mag p 1 < INF := by
    rw [INF_eq]
    rw [hr] at h6
    generalize ulp p 1 * B52 = a at *
    generalize p / 2 ^ ulp p 1 = b at *
    generalize mag p 1 = c at *
    generalize B52 = d at *
    omega
  refine ⟨?_, hm⟩
  rw [fv_mag p (by omega) hm, hr, hd]
end Go.Proofs.YtibgpeaplmcogaaGreatDoor
