/-
  What the functions of package limb, and the document's answers beside them, return for any words: sums, differences, products. Conditions: the arguments are 64-bit words.
-/
import Derived.Test.YtmoahgiklgicgaaDoorFltMath
import Derived.Test.YtmoahgiklgicgaaDoorProg
import Derived.Test.YtmoahgiklgicgaaDoorU64
import Derived.WalkKit
import Derived.WalkSpells
import Derived.WalkLawsBesides
import Derived.Lib.Hide
namespace Go.Proofs.YtmoahgiklgicgaaDoor
set_option maxRecDepth 100000
set_option linter.unusedVariables false
set_option linter.unusedSimpArgs false

def up (e : Int) : Nat := (e + 1074).toNat
def dn (e : Int) : Nat := (-(e + 1074)).toNat
/-- the word of the double nearest to p / q * 2^e -/
def magR (p q : Nat) (e : Int) : Nat := mag (p * 2 ^ up e) (q * 2 ^ dn e)
/-- is p / q * 2^e a double, just so? -/
def ExR (p q : Nat) (e : Int) : Prop := Ex (p * 2 ^ up e) (q * 2 ^ dn e)
instance (p q : Nat) (e : Int) : Decidable (ExR p q e) := by unfold ExR; infer_instance
theorem up_dn (e : Int) : (up e : Int) = e + 1074 + dn e := by unfold up dn; omega
theorem dn_zero {e : Int} (h : -1074 ≤ e) : dn e = 0 := by unfold dn; omega
theorem up_zero {e : Int} (h : e ≤ -1074) : up e = 0 := by unfold up; omega
theorem up_or (e : Int) : up e = 0 ∨ dn e = 0 := by unfold up dn; omega

theorem cross_pow {X Y a b m n : Nat} (h : X * 2 ^ a = Y * 2 ^ b) (hm : m + b = n + a) : X * 2 ^ m = Y * 2 ^ n := by
  have hb : 0 < 2 ^ b := Nat.two_pow_pos b
  apply Nat.eq_of_mul_eq_mul_right hb
  rw [Nat.mul_assoc, ← Nat.pow_add, hm, Nat.add_comm n a, Nat.pow_add, ← Nat.mul_assoc, h, Nat.mul_right_comm]
theorem R_cross {p q p' q' a b : Nat} {e e' : Int} (h : p * q' * 2 ^ a = p' * q * 2 ^ b) (he : (a : Int) + e' = b + e) : p * 2 ^ up e * (q' * 2 ^ dn e') = p' * 2 ^ up e' * (q * 2 ^ dn e) := by
  have h1 := up_dn e
  have h2 := up_dn e'
  have h3 := cross_pow (X := p * q') (Y := p' * q) (a := a) (b := b) (m := up e + dn e') (n := up e' + dn e) h (by omega)
  rw [Nat.pow_add, Nat.pow_add] at h3
  rw [Nat.mul_mul_mul_comm, h3, Nat.mul_mul_mul_comm]
theorem magR_eq {p q p' q' a b : Nat} {e e' : Int} (hq : 0 < q) (hq' : 0 < q') (h : p * q' * 2 ^ a = p' * q * 2 ^ b) (he : (a : Int) + e' = b + e) : magR p q e = magR p' q' e' :=
  mag_eq (Nat.mul_pos hq (Nat.two_pow_pos _)) (Nat.mul_pos hq' (Nat.two_pow_pos _)) (R_cross h he)
theorem ex_eq {p d p' d' : Nat} (hd : 0 < d) (hd' : 0 < d') (h : p * d' = p' * d) : Ex p d ↔ Ex p' d' := by
  rw [← ex_scale p d hd', ← ex_scale p' d' hd, h, Nat.mul_comm d' d]
theorem exR_eq {p q p' q' a b : Nat} {e e' : Int} (hq : 0 < q) (hq' : 0 < q') (h : p * q' * 2 ^ a = p' * q * 2 ^ b) (he : (a : Int) + e' = b + e) : ExR p q e ↔ ExR p' q' e' :=
  ex_eq (Nat.mul_pos hq (Nat.two_pow_pos _)) (Nat.mul_pos hq' (Nat.two_pow_pos _)) (R_cross h he)
theorem magR_shift (p q c : Nat) (hq : 0 < q) (e : Int) : magR (p * 2 ^ c) q e = magR p q (e + c) :=
  magR_eq (a := 0) (b := c) hq hq (by grind) (by omega)
theorem exR_shift (p q c : Nat) (hq : 0 < q) (e : Int) : ExR (p * 2 ^ c) q e ↔ ExR p q (e + c) :=
  exR_eq (a := 0) (b := c) hq hq (by grind) (by omega)
theorem magR_two (p : Nat) (e : Int) : magR p 2 e = magR p 1 (e - 1) :=
  magR_eq (a := 1) (b := 0) (by omega) (by omega) (by omega) (by omega)
theorem magR_down (p q c : Nat) (hq : 0 < q) (e : Int) : magR p (q * 2 ^ c) (e + c) = magR p q e :=
  magR_eq (a := c) (b := 0) (Nat.mul_pos hq (Nat.two_pow_pos c)) hq (by grind) (by omega)
/-- of a whole exponent -/
theorem magR_at {m : Nat} {e : Int} {s : Nat} (h : e + 1074 = s) : magR m 1 e = mag (m * 2 ^ s) 1 ∧ (ExR m 1 e ↔ Ex (m * 2 ^ s) 1) := by
  unfold magR ExR
  rw [dn_zero (by omega), show up e = s by unfold up; omega, Nat.pow_zero, Nat.mul_one]
  exact ⟨rfl, Iff.rfl⟩

theorem blen_div_pow (n k : Nat) : blen (n / 2 ^ k) = blen n - k := by
  by_cases h : n / 2 ^ k = 0
  · rw [h, blen_zero]
    have : n < 2 ^ k := by
      rcases Nat.lt_or_ge n (2 ^ k) with hl | hl
      · exact hl
      · have := Nat.div_pos hl (Nat.two_pow_pos k); omega
    have := blen_le this
    omega
  · have := blen_shr h
    omega
/-- how many bits the floor has -/
theorem blen_floor {p q : Nat} (e : Int) (h : 0 < p / q) : ((blen (p * 2 ^ up e / (q * 2 ^ dn e)) : Nat) : Int) = max ((blen (p / q) : Int) + e + 1074) 0 := by
  have hd := up_dn e
  have hp := blen_pos h
  rcases up_or e with h0 | h0
  · rw [h0, Nat.pow_zero, Nat.mul_one, ← Nat.div_div_eq_div_mul, blen_div_pow]
    omega
  · rw [h0, Nat.pow_zero, Nat.mul_one]
    have e1 : p * 2 ^ up e / q / 2 ^ up e = p / q := by
      rw [Nat.div_div_eq_div_mul, Nat.mul_div_mul_right _ _ (Nat.two_pow_pos _)]
    rw [blen_shr (n := p * 2 ^ up e / q) (k := up e) (by rw [e1]; omega), e1]
    omega
theorem ulpR {p q : Nat} (e : Int) (h : 0 < p / q) : ((ulp (p * 2 ^ up e) (q * 2 ^ dn e) : Nat) : Int) = max ((blen (p / q) : Int) + e + 1021) 0 := by
  have := blen_floor e h
  unfold ulp
  omega
theorem ulpR1 {m : Nat} (e : Int) (h : 0 < m) : ((ulp (m * 2 ^ up e) (1 * 2 ^ dn e) : Nat) : Int) = max ((blen m : Int) + e + 1021) 0 := by
  have := ulpR (p := m) (q := 1) e (by rw [Nat.div_one]; exact h)
  rwa [Nat.div_one] at this
theorem mag_ulp_big {p d : Nat} (hd : 0 < d) (h : 2046 ≤ ulp p d) : mag p d = INF := by
  have h1 := units_ge p hd (by omega)
  have h2 : 2046 * B52 ≤ ulp p d * B52 := Nat.mul_le_mul_right _ h
  have h3 := INF_eq
  unfold mag
  exact Nat.min_eq_right (by omega)
theorem mag_small {p d : Nat} (h : 2 * p < d) : mag p d = 0 := by
  have h1 : ulp p d = 0 := by unfold ulp; rw [Nat.div_eq_of_lt (by omega), blen_zero]
  unfold mag
  rw [h1, Nat.pow_zero, Nat.mul_one, rdiv_small h]
  simp
theorem magR_big {p q : Nat} {e : Int} (hq : 0 < q) (h0 : 0 < p / q) (h : 1025 ≤ (blen (p / q) : Int) + e) : magR p q e = INF :=
  mag_ulp_big (Nat.mul_pos hq (Nat.two_pow_pos _)) (by have := ulpR e h0; omega)
theorem magR_big1 {m : Nat} {e : Int} (h0 : 0 < m) (h : 1025 ≤ (blen m : Int) + e) : magR m 1 e = INF :=
  magR_big (by omega) (by rw [Nat.div_one]; exact h0) (by rw [Nat.div_one]; exact h)
theorem magR_small {p q : Nat} {e : Int} (hq : 0 < q) (h : (blen p : Int) - blen q + e ≤ -1077) : magR p q e = 0 := by
  have h1 := up_dn e
  have h2 := blen_lt p
  have h3 := blen_self hq
  have h4 := blen_pos hq
  apply mag_small
  have a1 : 2 * (p * 2 ^ up e) < 2 ^ (1 + blen p + up e) := by
    rw [Nat.pow_add, Nat.pow_add, Nat.pow_one, Nat.mul_assoc]
    exact Nat.mul_lt_mul_of_pos_left (Nat.mul_lt_mul_of_pos_right h2 (Nat.two_pow_pos _)) (by omega)
  have a2 : 2 ^ (blen q - 1 + dn e) ≤ q * 2 ^ dn e := by
    rw [Nat.pow_add]; exact Nat.mul_le_mul_right _ h3
  have a3 : 2 ^ (1 + blen p + up e) ≤ 2 ^ (blen q - 1 + dn e) := Nat.pow_le_pow_right (by omega) (by omega)
  omega
theorem magR_zero (q : Nat) (e : Int) : magR 0 q e = 0 := by unfold magR; rw [Nat.zero_mul, mag_zero]

/-- what is left below a half may stand for itself -/
theorem rdiv_sticky (p : Nat) {q k : Nat} (hq : 0 < q) (hk : 1 ≤ k) (hr : p % q ≠ 0) : rdiv (2 * (p / q) + 1) (2 ^ (k + 1)) = rdiv p (q * 2 ^ k) := by
  obtain ⟨j, rfl⟩ : ∃ j, k = j + 1 := ⟨k - 1, by omega⟩
  have h1 : p % (q * 2 ^ (j + 1)) = p % q + q * (p / q % 2 ^ (j + 1)) := Nat.mod_mul
  have h2 : p / (q * 2 ^ (j + 1)) = p / q / 2 ^ (j + 1) := (Nat.div_div_eq_div_mul _ _ _).symm
  have hlt := Nat.mod_lt p hq
  generalize p % q = r at *
  generalize p / q = Q at *
  have h3 : (2 * Q + 1) % (2 * 2 ^ (j + 1)) = 1 + 2 * (Q % 2 ^ (j + 1)) := by
    rw [Nat.mod_mul, show (2 * Q + 1) % 2 = 1 by omega, show (2 * Q + 1) / 2 = Q by omega]
  have h4 : (2 * Q + 1) / (2 * 2 ^ (j + 1)) = Q / 2 ^ (j + 1) := by
    rw [← Nat.div_div_eq_div_mul, show (2 * Q + 1) / 2 = Q by omega]
  unfold rdiv
  rw [Nat.pow_succ 2 (j + 1), Nat.mul_comm (2 ^ (j + 1)) 2, h3, h4, h1, h2]
  generalize Q / 2 ^ (j + 1) = K
  generalize Q % 2 ^ (j + 1) = R
  rw [Nat.pow_succ]
  generalize 2 ^ j = M
  have e1 : q * (M * 2) = 2 * (q * M) := by grind
  rw [e1]
  have key : (2 * (M * 2) < 2 * (1 + 2 * R) ∨ (2 * (1 + 2 * R) = 2 * (M * 2) ∧ K % 2 = 1)) ↔ (2 * (q * M) < 2 * (r + q * R) ∨ (2 * (r + q * R) = 2 * (q * M) ∧ K % 2 = 1)) := by
    rcases Nat.lt_or_ge R M with hl | hl
    · have : q * (R + 1) ≤ q * M := Nat.mul_le_mul_left _ hl
      rw [Nat.mul_add, Nat.mul_one] at this
      generalize q * R = x at *
      generalize q * M = y at *
      constructor <;> intro h <;> omega
    · have : q * M ≤ q * R := Nat.mul_le_mul_left _ hl
      generalize q * R = x at *
      generalize q * M = y at *
      constructor <;> intro h <;> omega
  simp only [key]
theorem magR_sticky {p q : Nat} (e : Int) (hq : 0 < q) (hr : p % q ≠ 0) (hQ : 54 ≤ blen (p / q)) : magR p q e = magR (2 * (p / q) + 1) 2 e := by
  have h0 : 0 < p / q := by
    rcases Nat.eq_zero_or_pos (p / q) with h | h
    · rw [h, blen_zero] at hQ; omega
    · exact h
  have hQ2 : (2 * (p / q) + 1) / 2 = p / q := by omega
  have u1 := ulpR e h0
  have u2 := ulpR (p := 2 * (p / q) + 1) (q := 2) e (by rw [hQ2]; exact h0)
  rw [hQ2] at u2
  have hu : ulp ((2 * (p / q) + 1) * 2 ^ up e) (2 * 2 ^ dn e) = ulp (p * 2 ^ up e) (q * 2 ^ dn e) := by omega
  have hd := up_dn e
  unfold magR mag
  rw [hu]
  generalize ulp (p * 2 ^ up e) (q * 2 ^ dn e) = u at *
  obtain ⟨k, hk⟩ : ∃ k, u + dn e = k + up e := ⟨u + dn e - up e, by omega⟩
  have hk1 : 1 ≤ k := by omega
  have hp : ∀ x, x * 2 ^ dn e * 2 ^ u = x * 2 ^ k * 2 ^ up e := fun x => by
    rw [Nat.mul_assoc, ← Nat.pow_add, Nat.mul_assoc, ← Nat.pow_add]; congr 2; omega
  rw [hp, hp, rdiv_scale _ _ (Nat.two_pow_pos _), rdiv_scale _ _ (Nat.two_pow_pos _), ← rdiv_sticky p hq hk1 hr, Nat.pow_succ 2 k, Nat.mul_comm (2 ^ k) 2]

/-- the odd part -/
theorem tz_part {m : Nat} (h : 0 < m) : m / 2 ^ tz m * 2 ^ tz m = m ∧ m / 2 ^ tz m % 2 = 1 := by
  obtain ⟨h1, h2⟩ := tz_spec h
  refine ⟨?_, h2⟩
  have : ∀ k, LowZero m k → m / 2 ^ k * 2 ^ k = m := by
    intro k
    induction k with
    | zero => intro _; simp
    | succ k ih =>
      intro hk
      have a := ih (fun j hj => hk j (by omega))
      have b := hk k (by omega)
      have c : m / 2 ^ (k + 1) = m / 2 ^ k / 2 := by rw [Nat.pow_succ, Nat.div_div_eq_div_mul]
      rw [c, Nat.pow_succ, Nat.mul_comm (2 ^ k) 2, ← Nat.mul_assoc, show m / 2 ^ k / 2 * 2 = m / 2 ^ k by omega]
      exact a
  exact this _ h1
theorem odd_pow_dvd {o a b : Nat} (ho : o % 2 = 1) (h : o * 2 ^ a % 2 ^ b = 0) : b ≤ a := by
  rcases Nat.lt_or_ge a b with hl | hl
  · exfalso
    obtain ⟨c, rfl⟩ : ∃ c, b = a + (c + 1) := ⟨b - a - 1, by omega⟩
    rw [Nat.pow_add, Nat.mul_comm o, Nat.mul_mod_mul_left] at h
    have h2 : o % 2 ^ (c + 1) = 0 := by
      rcases Nat.mul_eq_zero.1 h with h | h
      · have := Nat.two_pow_pos a; omega
      · exact h
    rw [Nat.pow_succ, Nat.mul_comm] at h2
    have h3 : o % (2 * 2 ^ c) % 2 = o % 2 := Nat.mod_mul_right_mod o 2 (2 ^ c)
    rw [h2] at h3
    omega
  · exact hl
theorem dvd_pow_pow {o a b : Nat} (h : b ≤ a) : o * 2 ^ a % 2 ^ b = 0 := by
  obtain ⟨c, rfl⟩ : ∃ c, a = c + b := ⟨a - b, by omega⟩
  rw [Nat.pow_add, ← Nat.mul_assoc, Nat.mul_mod_left]
/-- m * 2^e with m = o * 2^t -/
theorem make_part {o t s : Nat} {e : Int} (h : e + t + 1074 = s) : magR (o * 2 ^ t) 1 e = mag (o * 2 ^ s) 1 ∧ (ExR (o * 2 ^ t) 1 e ↔ Ex (o * 2 ^ s) 1) := by
  rw [magR_shift _ _ _ (by omega), exR_shift _ _ _ (by omega)]
  exact magR_at (by omega)
theorem make_no1 {o t : Nat} {e : Int} (ho : o % 2 = 1) (h : e + t < -1074) : ¬ ExR (o * 2 ^ t) 1 e := by
  intro hx
  have h1 := hx.1
  rw [up_zero (by omega), Nat.pow_zero, Nat.mul_one, Nat.one_mul] at h1
  have := odd_pow_dvd ho h1
  have := up_dn e
  rw [up_zero (by omega)] at this
  omega
theorem make_no2 {o t : Nat} {e : Int} (ho : o % 2 = 1) (h : 53 < blen o) : ¬ ExR (o * 2 ^ t) 1 e := by
  intro hx
  rcases Int.lt_or_le (e + t) (-1074) with hl | hl
  · exact make_no1 ho hl hx
  · obtain ⟨s, hs⟩ : ∃ s : Nat, e + t + 1074 = s := ⟨(e + t + 1074).toNat, by omega⟩
    obtain ⟨h1, h2, h3⟩ := (make_part (o := o) hs).2.1 hx
    unfold ulp at h2
    rw [Nat.div_one, blen_mul_pow (by omega)] at h2
    have := odd_pow_dvd ho h2
    omega
theorem make_no3 {o t : Nat} {e : Int} (ho : o % 2 = 1) (h : 1024 < (blen o : Int) + (e + t)) : ¬ ExR (o * 2 ^ t) 1 e := by
  intro hx
  rcases Int.lt_or_le (e + t) (-1074) with hl | hl
  · exact make_no1 ho hl hx
  · obtain ⟨s, hs⟩ : ∃ s : Nat, e + t + 1074 = s := ⟨(e + t + 1074).toNat, by omega⟩
    obtain ⟨h1, h2, h3⟩ := (make_part (o := o) hs).2.1 hx
    rw [Nat.div_one, blen_mul_pow (by omega)] at h3
    omega
/-- a significand that is normalized: x * 2^s is the number -/
theorem make_pair {o t x s : Nat} {e : Int} (he : -1074 ≤ e + t) (h : o * 2 ^ (e + t + 1074).toNat = x * 2 ^ s) (h1 : x < 2 * B52) (h2 : B52 ≤ x ∨ s = 0) :
    magR (o * 2 ^ t) 1 e = min (s * B52 + x) INF ∧ (ExR (o * 2 ^ t) 1 e ↔ s ≤ 2045) := by
  obtain ⟨a, b⟩ := make_part (o := o) (t := t) (e := e) (s := (e + t + 1074).toNat) (by omega)
  rw [a, b, h]
  exact ⟨mag_norm h1 h2, ex_norm h1 h2⟩
theorem lt_B52 {o n k : Nat} (h : blen o = n) (hk : n + k ≤ 53) : o * 2 ^ k < 2 * B52 := by
  have := blen_lt o
  rw [h] at this
  have h1 : o * 2 ^ k < 2 ^ n * 2 ^ k := Nat.mul_lt_mul_of_pos_right this (Nat.two_pow_pos k)
  have h2 : 2 ^ n * 2 ^ k ≤ 2 * B52 := by rw [← Nat.pow_add, B52_pow, ← Nat.pow_succ']; exact Nat.pow_le_pow_right (by omega) hk
  omega
theorem ge_B52 {o n k : Nat} (ho : 0 < o) (h : blen o = n) (hk : 53 ≤ n + k) : B52 ≤ o * 2 ^ k := by
  have h0 := blen_pos ho
  have := blen_self ho
  rw [h] at this h0
  have h1 : 2 ^ (n - 1) * 2 ^ k ≤ o * 2 ^ k := Nat.mul_le_mul_right _ this
  have h2 : B52 ≤ 2 ^ (n - 1) * 2 ^ k := by rw [← Nat.pow_add, B52_pow]; exact Nat.pow_le_pow_right (by omega) (by omega)
  omega
/-- what the program makes: the exponent is as low as it can be -/
theorem make_good {o t n : Nat} {e low : Int} (ho : o % 2 = 1) (hn : blen o = n) (h1 : n ≤ 53) (h2 : -1074 ≤ e + t) (h3 : (n : Int) + (e + t) ≤ 1024) (hlow : low = max (n + (e + t) - 53) (-1074)) :
    magR (o * 2 ^ t) 1 e = (low + 1074).toNat * B52 + o * 2 ^ (e + t - low).toNat ∧ ExR (o * 2 ^ t) 1 e ∧ o * 2 ^ (e + t - low).toNat < 2 * B52 := by
  have hx1 : o * 2 ^ (e + t - low).toNat < 2 * B52 := lt_B52 hn (by omega)
  have hx2 : B52 ≤ o * 2 ^ (e + t - low).toNat ∨ (low + 1074).toNat = 0 := by
    rcases Int.lt_or_le (-1074) low with hl | hl
    · exact .inl (ge_B52 (by omega) hn (by omega))
    · exact .inr (by omega)
  have hh : o * 2 ^ (e + t + 1074).toNat = o * 2 ^ (e + t - low).toNat * 2 ^ (low + 1074).toNat := by
    rw [Nat.mul_assoc, ← Nat.pow_add]; congr 2; omega
  obtain ⟨a, b⟩ := make_pair h2 hh hx1 hx2
  refine ⟨?_, b.2 (by omega), hx1⟩
  rw [a, INF_eq]
  have : (low + 1074).toNat * B52 ≤ 2045 * B52 := Nat.mul_le_mul_right _ (by omega)
  exact Nat.min_eq_left (by omega)

/-- rounding to a whole number of units, and making the double of them -/
theorem word_ulp {m : Nat} {e low : Int} (hlow : low = max ((blen m : Int) + e - 53) (-1074)) (h : e < low ∨ 0 < m) : ulp (m * 2 ^ up e) (1 * 2 ^ dn e) = (low + 1074).toNat := by
  rcases Nat.eq_zero_or_pos m with rfl | h0
  · rw [blen_zero] at hlow
    unfold ulp
    rw [Nat.zero_mul, Nat.zero_div, blen_zero]
    omega
  · have := ulpR1 e h0
    omega
theorem word_round {m k s : Nat} {e low : Int} (hlow : low = max ((blen m : Int) + e - 53) (-1074)) (h : e < low) (hk : low - e = k) (hs : low + 1074 = s) :
    (ExR (rdiv m (2 ^ k)) 1 low → magR (rdiv m (2 ^ k)) 1 low = magR m 1 e) ∧ (¬ ExR (rdiv m (2 ^ k)) 1 low → magR m 1 e = INF) ∧ rdiv m (2 ^ k) ≤ 2 * B52 := by
  have hu := word_ulp hlow (.inl h)
  have hd := up_dn e
  have hs' : (low + 1074).toNat = s := by omega
  rw [hs'] at hu
  have e1 : 1 * 2 ^ dn e * 2 ^ s = 2 ^ k * 2 ^ up e := by
    rw [Nat.one_mul, ← Nat.pow_add, ← Nat.pow_add]; congr 1; omega
  have hpos : 0 < 1 * 2 ^ dn e := by have := Nat.two_pow_pos (dn e); omega
  have hr : rdiv (m * 2 ^ up e) (1 * 2 ^ dn e * 2 ^ ulp (m * 2 ^ up e) (1 * 2 ^ dn e)) = rdiv m (2 ^ k) := by
    rw [hu, e1, rdiv_scale _ _ (Nat.two_pow_pos _)]
  have hM := mag_units (m * 2 ^ up e) hpos
  have hL := units_le (m * 2 ^ up e) hpos
  rw [hr] at hM hL
  rw [hu] at hM
  obtain ⟨a, b⟩ := magR_at (m := rdiv m (2 ^ k)) (e := low) (s := s) hs
  rw [a, b]
  exact ⟨hM.1, hM.2, hL⟩
theorem word_exact {m : Nat} {e low : Int} (hlow : low = max ((blen m : Int) + e - 53) (-1074)) (h : low ≤ e) : ¬ ExR m 1 e → magR m 1 e = INF := by
  intro hx
  rcases Nat.eq_zero_or_pos m with rfl | h0
  · exfalso
    apply hx
    unfold ExR Ex ulp
    rw [Nat.zero_mul, Nat.zero_div, Nat.zero_mod, blen_zero]
    exact ⟨rfl, rfl, by omega⟩
  · obtain ⟨s, hs⟩ : ∃ s : Nat, e + 1074 = s := ⟨(e + 1074).toNat, by omega⟩
    obtain ⟨a, b⟩ := magR_at (m := m) hs
    rw [a]
    rw [b] at hx
    by_cases hb : 2046 ≤ ulp (m * 2 ^ s) 1
    · exact mag_ulp_big (by omega) hb
    · exfalso
      apply hx
      have hl : blen (m * 2 ^ s) = blen m + s := blen_mul_pow h0 s
      unfold Ex
      unfold ulp at hb ⊢
      rw [Nat.mod_one, Nat.div_one, hl]
      rw [Nat.div_one, hl] at hb
      exact ⟨rfl, dvd_pow_pow (by omega), by omega⟩
theorem rdiv_far {m k : Nat} (hm : m < 2 ^ 64) (h : 64 < k) : rdiv m (2 ^ k) = 0 := by
  have : 2 ^ 65 ≤ 2 ^ k := Nat.pow_le_pow_right (by omega) h
  exact rdiv_small (by omega)
theorem word_clamp {m : Nat} (hm : m < 2 ^ 64) {e : Int} : magR m 1 (min (max e (-2000)) 2000) = magR m 1 e := by
  rcases Nat.eq_zero_or_pos m with rfl | h0
  · rw [magR_zero, magR_zero]
  · have hb := blen_pos h0
    have hb2 := blen_le hm
    rcases Int.lt_or_le e (-2000) with hl | hl
    · rw [magR_small (e := e) (by omega) (by rw [show blen 1 = 1 by decide]; omega), magR_small (by omega) (by rw [show blen 1 = 1 by decide]; omega)]
    · rcases Int.lt_or_le 2000 e with hg | hg
      · rw [magR_big1 (e := e) h0 (by omega), magR_big1 h0 (by omega)]
      · congr 1; omega
/-- long numbers: the lowest of 64 bits stands for all that is left out -/
theorem of_short {m skip : Nat} (e : Int) (hs : skip = blen m - 64) (h : ¬ tz m < skip) : magR (m / 2 ^ skip) 1 (e + skip) = magR m 1 e := by
  rcases Nat.eq_zero_or_pos skip with h0 | h0
  · rw [h0]; simp
  · have hm : 0 < m := by
      rcases Nat.eq_zero_or_pos m with rfl | h1
      · rw [blen_zero] at hs; omega
      · exact h1
    obtain ⟨h1, _⟩ := tz_part hm
    have h2 : m / 2 ^ skip * 2 ^ skip = m := by
      obtain ⟨c, hc⟩ : ∃ c, tz m = skip + c := ⟨tz m - skip, by omega⟩
      rw [hc] at h1
      generalize m / 2 ^ (skip + c) = o at h1
      rw [Nat.pow_add, Nat.mul_comm (2 ^ skip), ← Nat.mul_assoc] at h1
      rw [← h1, Nat.mul_div_cancel _ (Nat.two_pow_pos _)]
    rw [← magR_shift _ _ _ (by omega), h2]
theorem of_long {m skip : Nat} (e : Int) (hs : skip = blen m - 64) (h : tz m < skip) : magR (2 * (m / 2 ^ skip / 2) + 1) 1 (e + skip) = magR m 1 e := by
  have hm : 0 < m := by
    rcases Nat.eq_zero_or_pos m with rfl | h1
    · rw [blen_zero] at hs; omega
    · exact h1
  have hr : m % 2 ^ (skip + 1) ≠ 0 := by
    intro h1
    obtain ⟨h2, h3⟩ := tz_part hm
    generalize m / 2 ^ tz m = o at h2 h3
    rw [← h2] at h1
    have := odd_pow_dvd h3 h1
    omega
  have hb : 54 ≤ blen (m / 2 ^ (skip + 1)) := by rw [blen_div_pow]; omega
  have h4 := magR_sticky (e + skip + 1) (Nat.two_pow_pos (skip + 1)) hr hb
  have h5 := magR_down m 1 (skip + 1) (by omega) e
  rw [Nat.one_mul] at h5
  rw [show e + skip + 1 = e + ((skip + 1 : Nat) : Int) by omega, h5, magR_two] at h4
  rw [h4, show m / 2 ^ (skip + 1) = m / 2 ^ skip / 2 by rw [Nat.pow_succ, Nat.div_div_eq_div_mul], show e + ((skip + 1 : Nat) : Int) - 1 = e + skip by omega]
theorem of_clamp {m n : Nat} {e : Int} (hn : blen m ≤ n + 1) : magR m 1 (min (max e (-2000 - n)) 2000) = magR m 1 e ∧ magR m 1 (min (max e (-2000 - n)) 2000 - 1) = magR m 1 (e - 1) := by
  rcases Nat.eq_zero_or_pos m with rfl | h0
  · rw [magR_zero, magR_zero, magR_zero, magR_zero]; exact ⟨rfl, rfl⟩
  · have hb := blen_pos h0
    have h1 : blen 1 = 1 := by decide
    rcases Int.lt_or_le e (-2000 - n) with hl | hl
    · refine ⟨?_, ?_⟩
      · rw [magR_small (e := e) (by omega) (by rw [h1]; omega), magR_small (by omega) (by rw [h1]; omega)]
      · rw [magR_small (e := e - 1) (by omega) (by rw [h1]; omega), magR_small (by omega) (by rw [h1]; omega)]
    · rcases Int.lt_or_le 2000 e with hg | hg
      · refine ⟨?_, ?_⟩
        · rw [magR_big1 (e := e) h0 (by omega), magR_big1 h0 (by omega)]
        · rw [magR_big1 (e := e - 1) h0 (by omega), magR_big1 h0 (by omega)]
      · have : min (max e (-2000 - (n : Int))) 2000 = e := by omega
        rw [this]; exact ⟨rfl, rfl⟩
/-- quotients of at least 64 bits -/
theorem quot_blen {p q s : Nat} (hq : 0 < q) (hp : 0 < p) (h : 64 + blen q ≤ blen p + s) : 64 ≤ blen (p * 2 ^ s / q) := by
  have h1 := blen_self hp
  have h2 := blen_lt q
  have h3 := blen_pos hp
  apply blen_ge (k := 63)
  rw [Nat.le_div_iff_mul_le hq]
  have a : 2 ^ 63 * q ≤ 2 ^ 63 * 2 ^ blen q := Nat.mul_le_mul_left _ (by omega)
  have b : 2 ^ (blen p - 1) * 2 ^ s ≤ p * 2 ^ s := Nat.mul_le_mul_right _ h1
  rw [← Nat.pow_add] at a b
  have c : 2 ^ (63 + blen q) ≤ 2 ^ (blen p - 1 + s) := Nat.pow_le_pow_right (by omega) (by omega)
  omega
theorem quot_exact {p q s : Nat} (hq : 0 < q) (h : p * 2 ^ s % q = 0) : magR (p * 2 ^ s / q) 1 (-(s : Int)) = magR p q 0 := by
  have h1 : p * 2 ^ s / q * q = p * 2 ^ s := by have := Nat.div_add_mod' (p * 2 ^ s) q; omega
  refine magR_eq (a := 0) (b := s) (by omega) hq ?_ (by omega)
  rw [h1]; simp
theorem quot_sticky {p q s : Nat} (hq : 0 < q) (hp : 0 < p) (hs : 64 + blen q ≤ blen p + s) (h : p * 2 ^ s % q ≠ 0) : magR (2 * (p * 2 ^ s / q) + 1) 1 (-(s : Int) - 1) = magR p q 0 := by
  have hb := quot_blen hq hp hs
  rw [← magR_two, ← magR_sticky _ hq h (by omega), magR_shift _ _ _ hq]
  congr 1; omega
theorem quot_big {p q : Nat} (hq : 0 < q) (hp : 0 < p) (h : 1025 + blen q ≤ blen p) (e : Int) (he : 0 ≤ e) : magR p q e = INF := by
  have h1 := blen_self hp
  have h2 := blen_lt q
  have h4 : blen p - 1 - blen q + 1 ≤ blen (p / q) := by
    apply blen_ge
    rw [Nat.le_div_iff_mul_le hq]
    have a : 2 ^ (blen p - 1 - blen q) * q ≤ 2 ^ (blen p - 1 - blen q) * 2 ^ blen q := Nat.mul_le_mul_left _ (by omega)
    rw [← Nat.pow_add] at a
    rw [show blen p - 1 - blen q + blen q = blen p - 1 by omega] at a
    omega
  exact magR_big hq (by rcases Nat.eq_zero_or_pos (p / q) with h | h; rw [h, blen_zero] at h4; omega; exact h) (by omega)

/-- a double's word with its sign -/
def sg (s : Bool) (b : Nat) : Nat := if s then b + 9223372036854775808 else b
theorem sg_lt {s : Bool} {b : Nat} (h : b ≤ INF) : sg s b < 18446744073709551616 := by
  rw [INF_lit] at h; unfold sg; split <;> omega

/-- the lowest bit that is set -/
theorem low_bit {n : Nat} (h0 : 0 < n) (h : n < 2 ^ 64) : n &&& (2 ^ 64 - n) = 2 ^ tz n := by
  obtain ⟨h1, h2⟩ := tz_part h0
  generalize hT : tz n = t at *
  generalize n / 2 ^ t = o at *
  obtain ⟨j, rfl⟩ : ∃ j, o = 2 * j + 1 := ⟨o / 2, by omega⟩
  have e1 : n = 2 ^ (t + 1) * j + 2 ^ t := by rw [← h1, Nat.pow_succ]; grind
  have hp : 0 < 2 ^ t := Nat.two_pow_pos t
  have e2 : n - 1 = 2 ^ (t + 1) * j + (2 ^ t - 1) := by omega
  have ht : t < 64 := by
    rcases Nat.lt_or_ge t 64 with hl | hl
    · exact hl
    · have : 2 ^ 64 ≤ 2 ^ t := Nat.pow_le_pow_right (by omega) hl
      omega
  apply Nat.eq_of_testBit_eq
  intro i
  have e3 : 2 ^ 64 - n = 2 ^ 64 - ((n - 1) + 1) := by omega
  rw [Nat.testBit_and, e3, Nat.testBit_two_pow_sub_succ (by omega), Nat.testBit_two_pow, e2]
  have lt1 : 2 ^ t < 2 ^ (t + 1) := by rw [Nat.pow_succ]; omega
  have b1 : n.testBit i = if i < t + 1 then (2 ^ t).testBit i else j.testBit (i - (t + 1)) := by
    rw [e1, Nat.testBit_two_pow_mul_add _ lt1]
  have b2 : (2 ^ (t + 1) * j + (2 ^ t - 1)).testBit i = if i < t + 1 then (2 ^ t - 1).testBit i else j.testBit (i - (t + 1)) := Nat.testBit_two_pow_mul_add _ (by omega) _
  rw [b1, b2, Nat.testBit_two_pow, Nat.testBit_two_pow_sub_one]
  rcases Nat.lt_trichotomy i t with hl | rfl | hl
  · simp [show i < t + 1 by omega, show ¬ t = i by omega]
  · simp [ht]
  · simp [show ¬ i < t + 1 by omega, show ¬ t = i by omega]
    exact fun h _ => h

end Go.Proofs.YtmoahgiklgicgaaDoor

namespace Go.Proofs.YtmoahgiklgicgaaDoor
set_option maxRecDepth 100000
open Go.RowKit
set_option linter.unusedVariables false
set_option linter.unusedSimpArgs false

set_option maxHeartbeats 400000 in
theorem limb_mul (a b : Int) (ha : U a) (hb : U b) (w : World) :
    Calls Tryd.prog 49 #[.int .u64 a, .int .u64 b] w fun e w' => e = .returned (.tuple #[.int .u64 (hi64 (a * b)), .int .u64 (lo64 (a * b))]) ∧ w = w' := by
  go_enter Tryd.func49, Tryd.ntmps49
  go_wp2
  go_ret2
  exact ⟨ret2 (mul_hi ha hb) (mul_lo ha hb), rfl⟩

set_option maxHeartbeats 400000 in
theorem ref_len (x : Int) (hx : U x) (w : World) :
    Calls Tryd.prog 82 #[.int .u64 x] w fun e w' => e = .returned (.int .i64 (blen x.toNat)) ∧ w = w' := by
  obtain ⟨n, rfl⟩ := Int.eq_ofNat_of_zero_le hx.nn
  have hb : blen n ≤ 64 := blen_le (by unfold U at hx; omega)
  go_enter Tryd.func82, Tryd.ntmps82
  go_wp2
  go_loop [0, 3] (fun x i => ∃ m k : Nat, x = .int .u64 m ∧ i = .int .i64 k ∧ blen m + k = blen n) (fun x _ => (intOf x).toNat)
  case atStart => exact ⟨n, 0, rfl, rfl, rfl⟩
  case round =>
    obtain ⟨m, k, rfl, rfl, hk⟩ := hrel
    have hk' : k ≤ 64 := by omega
    have H := Lib.hid hk
    clear hk
    by_cases h0 : 0 < m
    · have hh := Lib.hid (blen_half h0)
      go_wp2
      go_round
      case rel => exact ⟨m / 2, k + 1, by go_num, by go_num, by have := H.out; have := hh.out; omega⟩
      case measure => simp [intOf]; omega
    · obtain rfl : m = 0 := by omega
      go_wp2
      go_ret
      exact ⟨ret1 (by have h9 := H.out; have h8 := blen_zero; omega), rfl⟩

set_option maxHeartbeats 400000 in
theorem limb_len (x : Int) (hx : U x) (w : World) :
    Calls Tryd.prog 47 #[.int .u64 x] w fun e w' => e = .returned (.int .i64 (blen x.toNat)) ∧ w = w' := by
  obtain ⟨n, rfl⟩ := Int.eq_ofNat_of_zero_le hx.nn
  have hn : n < 2 ^ 64 := by unfold U at hx; omega
  have hb : blen n ≤ 64 := blen_le hn
  go_enter Tryd.func47, Tryd.ntmps47
  go_wp2
  go_loop [0, 3, 4] (fun x i s => ∃ m k t : Nat, x = .int .u64 m ∧ i = .int .i64 k ∧ s = .int .i64 t ∧ LenAt n m k t) (fun _ _ s => (intOf s).toNat)
  case atStart => exact ⟨n, 0, 32, rfl, rfl, rfl, lenAt_0 hn⟩
  case round =>
    obtain ⟨m, k, t, rfl, rfl, rfl, hk⟩ := hrel
    have hk' : k ≤ 64 := by have := hk.1; omega
    have ht := hk.2
    by_cases h0 : t = 0
    · subst h0
      go_wp2
      go_ret
      exact ⟨ret1 (lenAt_end hk), rfl⟩
    · have h3 : t = 32 ∨ t = 16 ∨ t = 8 ∨ t = 4 ∨ t = 2 ∨ t = 1 := by omega
      by_cases hd : m / 2 ^ t = 0
      · have L := lenAt_no hk h0 hd
        clear ht
        rcases h3 with rfl | rfl | rfl | rfl | rfl | rfl
        all_goals
          simp only [Nat.reducePow] at hd
          go_wp2
          go_round
          case rel => exact ⟨_, _, _, rfl, rfl, by go_num, L⟩
          case measure => simp [intOf]
      · have L := lenAt_yes hk h0 hd
        clear ht
        rcases h3 with rfl | rfl | rfl | rfl | rfl | rfl
        all_goals
          simp only [Nat.reducePow] at hd
          go_wp2
          go_round
          case rel => exact ⟨_, _, _, by go_num, by go_num, by go_num, L⟩
          case measure => simp [intOf]

set_option maxHeartbeats 400000 in
theorem ref_div_no (h l d : Int) (hd : d ≤ h) (w : World) :
    Calls Tryd.prog 72 #[.int .u64 h, .int .u64 l, .int .u64 d] w fun e w' => e = .returned (.tuple #[.int .u64 0, .int .u64 0, .bool false]) ∧ w = w' := by
  go_enter Tryd.func72, Tryd.ntmps72
  go_wp2
  go_ret3
  exact ⟨rfl, rfl⟩
set_option maxHeartbeats 1000000 in
theorem ref_div_yes (h l d : Int) (hh : U h) (hl : U l) (hd' : U d) (hd : h < d) (w : World) :
    Calls Tryd.prog 72 #[.int .u64 h, .int .u64 l, .int .u64 d] w fun e w' => e = .returned (.tuple #[.int .u64 ((h * 18446744073709551616 + l) / d), .int .u64 ((h * 18446744073709551616 + l) % d), .bool true]) ∧ w = w' := by
  obtain ⟨n, rfl⟩ := Int.eq_ofNat_of_zero_le hl.nn
  obtain ⟨H, rfl⟩ := Int.eq_ofNat_of_zero_le hh.nn
  obtain ⟨D, rfl⟩ := Int.eq_ofNat_of_zero_le hd'.nn
  have hn : n < 2 ^ 64 := by unfold U at hl; omega
  have hD : D < 2 ^ 64 := by unfold U at hd'; omega
  have hlt := div_lt64 hn (show H < D by omega)
  have HN := Lib.hid hlt
  have Hn := Lib.hid hn
  have HD := Lib.hid hD
  clear hlt hn hD
  go_enter Tryd.func72, Tryd.ntmps72
  go_wp2
  go_loop [9, 10, 11] (fun x y i => ∃ (q r k : Nat), x = .int .u64 q ∧ y = .int .u64 r ∧ i = .int .i64 ((k : Int) - 1) ∧ DivAt (H * 2 ^ 64 + n) D q r k) (fun _ _ i => (intOf i + 1).toNat)
  case atStart => exact ⟨0, H, 64, rfl, rfl, rfl, divAt_0 Hn.out (by omega)⟩
  case round =>
    obtain ⟨q, r, k, rfl, rfl, rfl, hk⟩ := hrel
    have hk' : k ≤ 64 := hk.1
    by_cases h0 : k = 0
    · subst h0
      go_wp2
      go_ret3
      exact ⟨ret3 (divAt_end hk).1 (divAt_end hk).2 rfl, rfl⟩
    · obtain ⟨j, rfl⟩ : ∃ j, k = j + 1 := ⟨k - 1, by omega⟩
      obtain ⟨hr, s1, s2⟩ := divAt_step (by omega) hk
      rw [bit_low (by omega)] at s1 s2
      obtain ⟨b, hb, hb2, hb3⟩ : ∃ b : Nat, bits BinOp.and IntKind.u64 ((n : Int) / 2 ^ j) 1 = (b : Int) ∧ b < 2 ∧ n / 2 ^ j % 2 = b := ⟨n / 2 ^ j % 2, bit_of n j hl, Nat.mod_lt _ (by omega), rfl⟩
      rw [hb3] at s1 s2
      have S1 := Lib.hid s1
      have S2 := Lib.hid s2
      have HB3 := Lib.hid hb3
      clear s1 s2 hb3
      by_cases ho : 9223372036854775808 ≤ r
      · have hor : bits BinOp.or IntKind.u64 (IntKind.u64.wrap (r * 2)) (b : Int) = IntKind.u64.wrap (r * 2) + b := or1 (U_wrap _) (by rw [wrapU]; omega) (by omega) (by omega)
        have hob : ((r : Int) / 9223372036854775808 == 1) = true := by have := HD.out; simp; omega
        have L := S1.out (by have := HD.out; omega)
        have hq := divAt_small L HN.out
        have hq1 : q < 9223372036854775808 := by omega
        have hor2 : bits BinOp.or IntKind.u64 (q * 2) 1 = q * 2 + 1 := or1 (by unfold U; omega) (by omega) (by omega) (by omega)
        clear hq
        go_wp2
        go_round
        case rel => exact ⟨_, _, _, by go_num, vint (by have := HD.out; rw [wrapU, wrapU]; omega), rfl, L⟩
        case measure => simp [intOf]
      · have ho' : r < 9223372036854775808 := by omega
        have hob : ((r : Int) / 9223372036854775808 == 1) = false := by simp; omega
        have hor : bits BinOp.or IntKind.u64 (r * 2) (b : Int) = r * 2 + b := or1 (by unfold U; omega) (by omega) (by omega) (by omega)
        by_cases hy : D ≤ 2 * r + b
        · have L := S1.out hy
          have hq := divAt_small L HN.out
          have hq1 : q < 9223372036854775808 := by omega
          have hor2 : bits BinOp.or IntKind.u64 (q * 2) 1 = q * 2 + 1 := or1 (by unfold U; omega) (by omega) (by omega) (by omega)
          clear hq
          go_wp2
          go_round
          case rel => exact ⟨_, _, _, by go_num, vint (by omega), rfl, L⟩
          case measure => simp [intOf]
        · have L := S2.out (by omega)
          have hq := divAt_small L HN.out
          have hq1 : q < 9223372036854775808 := by omega
          clear hq
          go_wp2
          go_round
          case rel => exact ⟨_, _, _, vint (by omega), vint (by omega), rfl, L⟩
          case measure => simp [intOf]

end Go.Proofs.YtmoahgiklgicgaaDoor
