/-
  Plain mathematics of doubles: numbers p / d in units of the least double; the nearest natural, ties to even; the word of the nearest double; what a word says. No Go in sight. Conditions: those that each theorem names.
-/
import Derived.Test.YtmoahgiklgicgaaDoorNatMath
namespace Go.Proofs.YtmoahgiklgicgaaDoor
set_option maxRecDepth 100000
set_option linter.unusedVariables false
set_option linter.unusedSimpArgs false

/-- p / d, rounded to the nearest natural, ties to the even one -/
def rdiv (p d : Nat) : Nat := if d < 2 * (p % d) ∨ (2 * (p % d) = d ∧ p / d % 2 = 1) then p / d + 1 else p / d
/-- how many bits the nearest double leaves out below -/
def ulp (p d : Nat) : Nat := blen (p / d) - 53
@[irreducible] def INF : Nat := 9218868437227405312
/-- 2^52 -/
@[irreducible] def B52 : Nat := 4503599627370496
/-- the word, without a sign, of the double nearest to p / d -/
def mag (p d : Nat) : Nat := min (ulp p d * B52 + rdiv p (d * 2 ^ ulp p d)) INF
/-- what a word without a sign says -/
def fv (b : Nat) : Nat := if b / B52 = 0 then b else (b % B52 + B52) * 2 ^ (b / B52 - 1)

theorem B52_pow : B52 = 2 ^ 52 := by unfold B52; rfl
theorem B52_eq : B52 = 4503599627370496 := by unfold B52; rfl
theorem INF_eq : INF = 2047 * B52 := by unfold INF B52; rfl
theorem INF_lit : INF = 9218868437227405312 := by unfold INF; rfl
theorem B52_pos : 0 < B52 := by unfold B52; omega

theorem rdiv_scale (p d : Nat) {c : Nat} (hc : 0 < c) : rdiv (p * c) (d * c) = rdiv p d := by
  unfold rdiv
  rw [Nat.mul_div_mul_right _ _ hc, Nat.mul_mod_mul_right]
  have h1 : d * c < 2 * (p % d * c) ↔ d < 2 * (p % d) := by
    rw [← Nat.mul_assoc]; exact ⟨fun h => Nat.lt_of_mul_lt_mul_right h, fun h => Nat.mul_lt_mul_of_pos_right h hc⟩
  have h2 : 2 * (p % d * c) = d * c ↔ 2 * (p % d) = d := by
    rw [← Nat.mul_assoc]; exact ⟨fun h => Nat.eq_of_mul_eq_mul_right hc h, fun h => by rw [h]⟩
  simp only [h1, h2]
/-- what rounding does: at most half a unit off; where it is just half a unit off, the result is even -/
theorem rdiv_spec (p : Nat) {d : Nat} (hd : 0 < d) : 2 * p ≤ (2 * rdiv p d + 1) * d ∧ 2 * rdiv p d * d ≤ 2 * p + d ∧ (2 * p = (2 * rdiv p d + 1) * d → rdiv p d % 2 = 0) ∧ (2 * rdiv p d * d = 2 * p + d → rdiv p d % 2 = 0) := by
  have h1 : p / d * d + p % d = p := Nat.div_add_mod' p d
  have h2 := Nat.mod_lt p hd
  unfold rdiv
  generalize p / d = q at *
  generalize p % d = r at *
  have e0 : (2 * q + 1) * d = 2 * (q * d) + d := by grind
  have e1 : 2 * q * d = 2 * (q * d) := by grind
  have e2 : (2 * (q + 1) + 1) * d = 2 * (q * d) + 3 * d := by grind
  have e3 : 2 * (q + 1) * d = 2 * (q * d) + 2 * d := by grind
  generalize q * d = x at *
  by_cases h : d < 2 * r ∨ (2 * r = d ∧ q % 2 = 1)
  · rw [if_pos h, e2, e3]
    omega
  · rw [if_neg h, e0, e1]
    omega
theorem rdiv_mono1 {p q d : Nat} (hd : 0 < d) (h : p ≤ q) : rdiv p d ≤ rdiv q d := by
  obtain ⟨_, a2, _, a4⟩ := rdiv_spec p hd
  obtain ⟨b1, _, b3, _⟩ := rdiv_spec q hd
  generalize rdiv p d = x at *
  generalize rdiv q d = y at *
  rcases Nat.lt_or_ge y x with hl | hl
  · exfalso
    have h1 : (2 * y + 1) * d + d ≤ 2 * x * d := by
      have : (2 * y + 2) * d ≤ 2 * x * d := Nat.mul_le_mul_right _ (by omega)
      have e : (2 * y + 2) * d = (2 * y + 1) * d + d := by grind
      omega
    have h2 : 2 * x * d = 2 * p + d := by omega
    have h3 : 2 * q = (2 * y + 1) * d := by omega
    have h4 : (2 * y + 2) * d = 2 * x * d := by
      have e : (2 * y + 2) * d = (2 * y + 1) * d + d := by grind
      omega
    have h5 : 2 * y + 2 = 2 * x := Nat.eq_of_mul_eq_mul_right hd h4
    have := a4 h2
    have := b3 h3
    omega
  · exact hl
theorem rdiv_mono {p d p' d' : Nat} (hd : 0 < d) (hd' : 0 < d') (h : p * d' ≤ p' * d) : rdiv p d ≤ rdiv p' d' := by
  rw [← rdiv_scale p d hd', ← rdiv_scale p' d' hd, Nat.mul_comm d' d]
  exact rdiv_mono1 (Nat.mul_pos hd hd') h
theorem rdiv_exact (k : Nat) {d : Nat} (hd : 0 < d) : rdiv (k * d) d = k := by
  unfold rdiv
  rw [Nat.mul_div_cancel _ hd, Nat.mul_mod_left, if_neg (by omega)]
theorem rdiv_one (k : Nat) : rdiv k 1 = k := by have := rdiv_exact k (d := 1) (by omega); rwa [Nat.mul_one] at this
theorem rdiv_small {p d : Nat} (h : 2 * p < d) : rdiv p d = 0 := by
  unfold rdiv
  rw [Nat.div_eq_of_lt (by omega), Nat.mod_eq_of_lt (by omega), if_neg (by omega)]

/-- only the ratio counts -/
theorem ulp_scale (p d : Nat) {c : Nat} (hc : 0 < c) : ulp (p * c) (d * c) = ulp p d := by unfold ulp; rw [Nat.mul_div_mul_right _ _ hc]
theorem mag_scale (p d : Nat) {c : Nat} (hc : 0 < c) : mag (p * c) (d * c) = mag p d := by
  unfold mag
  rw [ulp_scale p d hc, Nat.mul_right_comm d c, rdiv_scale _ _ hc]
theorem mag_eq {p d p' d' : Nat} (hd : 0 < d) (hd' : 0 < d') (h : p * d' = p' * d) : mag p d = mag p' d' := by
  rw [← mag_scale p d hd', ← mag_scale p' d' hd, h, Nat.mul_comm d' d]

theorem blen_mono {a b : Nat} (h : a ≤ b) : blen a ≤ blen b := blen_le (Nat.lt_of_le_of_lt h (blen_lt b))
theorem div_mono2 {p d p' d' : Nat} (hd : 0 < d) (hd' : 0 < d') (h : p * d' ≤ p' * d) : p / d ≤ p' / d' := by
  rw [Nat.le_div_iff_mul_le hd']
  have h1 : p / d * d ≤ p := Nat.div_mul_le_self p d
  have h2 : p / d * d * d' ≤ p * d' := Nat.mul_le_mul_right _ h1
  have h3 : p / d * d' * d ≤ p' * d := by rw [Nat.mul_right_comm]; omega
  exact Nat.le_of_mul_le_mul_right h3 hd
theorem ulp_mono {p d p' d' : Nat} (hd : 0 < d) (hd' : 0 < d') (h : p * d' ≤ p' * d) : ulp p d ≤ ulp p' d' := by
  have := blen_mono (div_mono2 hd hd' h)
  unfold ulp; omega
/-- how great the rounded number of units is -/
theorem units_le (p : Nat) {d : Nat} (hd : 0 < d) : rdiv p (d * 2 ^ ulp p d) ≤ 2 * B52 := by
  have hu : 0 < 2 ^ ulp p d := Nat.two_pow_pos _
  have h1 : p / (d * 2 ^ ulp p d) < 2 * B52 := by
    rw [← Nat.div_div_eq_div_mul, Nat.div_lt_iff_lt_mul hu]
    refine Nat.lt_of_lt_of_le (blen_lt (p / d)) ?_
    rw [B52_pow, ← Nat.pow_succ', ← Nat.pow_add]
    exact Nat.pow_le_pow_right (by omega) (by unfold ulp; omega)
  unfold rdiv
  split <;> omega
theorem units_ge (p : Nat) {d : Nat} (hd : 0 < d) (h0 : 0 < ulp p d) : B52 ≤ rdiv p (d * 2 ^ ulp p d) := by
  have hu : 0 < 2 ^ ulp p d := Nat.two_pow_pos _
  have h1 : B52 ≤ p / (d * 2 ^ ulp p d) := by
    rw [← Nat.div_div_eq_div_mul, Nat.le_div_iff_mul_le hu]
    have hp : 0 < p / d := by
      rcases Nat.eq_zero_or_pos (p / d) with h | h
      · unfold ulp at h0; rw [h, blen_zero] at h0; omega
      · exact h
    refine Nat.le_trans ?_ (blen_self hp)
    rw [B52_pow, ← Nat.pow_add]
    exact Nat.pow_le_pow_right (by omega) (by unfold ulp at *; omega)
  unfold rdiv
  split <;> omega
theorem mag_mono_lt {p d p' d' : Nat} (hd : 0 < d) (hd' : 0 < d') (hl : ulp p d < ulp p' d') : ulp p d * B52 + rdiv p (d * 2 ^ ulp p d) ≤ ulp p' d' * B52 + rdiv p' (d' * 2 ^ ulp p' d') := by
  have a := units_le p hd
  have b := units_ge p' hd' (by omega)
  have c : (ulp p d + 1) * B52 ≤ ulp p' d' * B52 := Nat.mul_le_mul_right _ hl
  rw [Nat.add_mul, Nat.one_mul] at c
  omega
theorem rdiv_mono_u {p d p' d' u : Nat} (hd : 0 < d) (hd' : 0 < d') (h : p * d' ≤ p' * d) : rdiv p (d * 2 ^ u) ≤ rdiv p' (d' * 2 ^ u) := by
  have hu : 0 < 2 ^ u := Nat.two_pow_pos _
  exact rdiv_mono (p := p) (d := d * 2 ^ u) (p' := p') (d' := d' * 2 ^ u) (Nat.mul_pos hd hu) (Nat.mul_pos hd' hu) (by
    rw [← Nat.mul_assoc, ← Nat.mul_assoc]; exact Nat.mul_le_mul_right _ h)
theorem mag_mono {p d p' d' : Nat} (hd : 0 < d) (hd' : 0 < d') (h : p * d' ≤ p' * d) : mag p d ≤ mag p' d' := by
  have h1 := ulp_mono hd hd' h
  have hh : ulp p d * B52 + rdiv p (d * 2 ^ ulp p d) ≤ ulp p' d' * B52 + rdiv p' (d' * 2 ^ ulp p' d') := by
    rcases Nat.lt_or_eq_of_le h1 with hl | hl
    · exact mag_mono_lt hd hd' hl
    · rw [hl]
      exact Nat.add_le_add_left (rdiv_mono_u hd hd' h) _
  unfold mag
  exact Nat.le_min.2 ⟨Nat.le_trans (Nat.min_le_left _ _) hh, Nat.min_le_right _ _⟩
theorem mag_le (p d : Nat) : mag p d ≤ INF := by unfold mag; omega
theorem mag_zero (d : Nat) : mag 0 d = 0 := by
  unfold mag ulp
  rw [Nat.zero_div, blen_zero]
  unfold rdiv
  simp

/-- a normalized significand -/
theorem ulp_norm {x s : Nat} (h1 : x < 2 * B52) (h2 : B52 ≤ x ∨ s = 0) : ulp (x * 2 ^ s) 1 = s := by
  unfold ulp
  rw [Nat.div_one]
  rcases h2 with h2 | rfl
  · rw [blen_mul_pow (by have := B52_pos; omega), blen_unique (n := x) (k := 52) (by rw [B52_pow] at h1; omega) (by rw [B52_pow] at h2; omega)]
    omega
  · rw [Nat.pow_zero, Nat.mul_one]
    have := blen_le (n := x) (k := 53) (by rw [B52_pow] at h1; omega)
    omega
theorem mag_norm {x s : Nat} (h1 : x < 2 * B52) (h2 : B52 ≤ x ∨ s = 0) : mag (x * 2 ^ s) 1 = min (s * B52 + x) INF := by
  unfold mag
  rw [ulp_norm h1 h2, Nat.one_mul, rdiv_exact _ (Nat.two_pow_pos s)]
/-- is p / d a double, just so? -/
def Ex (p d : Nat) : Prop := p % d = 0 ∧ p / d % 2 ^ ulp p d = 0 ∧ blen (p / d) ≤ 2098
instance (p d : Nat) : Decidable (Ex p d) := by unfold Ex; infer_instance
theorem ex_scale (p d : Nat) {c : Nat} (hc : 0 < c) : Ex (p * c) (d * c) ↔ Ex p d := by
  unfold Ex
  rw [ulp_scale p d hc, Nat.mul_div_mul_right _ _ hc, Nat.mul_mod_mul_right]
  have : p % d * c = 0 ↔ p % d = 0 := by
    rw [Nat.mul_eq_zero]; exact ⟨fun h => by omega, fun h => .inl h⟩
  rw [this]
theorem ex_norm {x s : Nat} (h1 : x < 2 * B52) (h2 : B52 ≤ x ∨ s = 0) : Ex (x * 2 ^ s) 1 ↔ s ≤ 2045 := by
  unfold Ex
  rw [ulp_norm h1 h2, Nat.mod_one, Nat.div_one, Nat.mul_mod_left]
  rcases h2 with h2 | rfl
  · rw [blen_mul_pow (by have := B52_pos; omega), blen_unique (n := x) (k := 52) (by rw [B52_pow] at h1; omega) (by rw [B52_pow] at h2; omega)]
    omega
  · rw [Nat.pow_zero, Nat.mul_one]
    have := blen_le (n := x) (k := 53) (by rw [B52_pow] at h1; omega)
    omega
/-- the word of what a word says -/
theorem fv_norm (b : Nat) : ∃ x s, fv b = x * 2 ^ s ∧ x < 2 * B52 ∧ (B52 ≤ x ∨ s = 0) ∧ s * B52 + x = b ∧ (b < INF → s ≤ 2045) := by
  have hm := Nat.mod_lt b B52_pos
  have hd := Nat.div_add_mod b B52
  unfold fv
  by_cases h : b / B52 = 0
  · rw [if_pos h]
    rw [h, Nat.mul_zero, Nat.zero_add] at hd
    exact ⟨b, 0, by simp, by omega, .inr rfl, by omega, fun _ => by omega⟩
  · rw [if_neg h]
    refine ⟨b % B52 + B52, b / B52 - 1, rfl, by omega, .inl (by omega), ?_, fun hb => ?_⟩
    · obtain ⟨k, hk⟩ : ∃ k, b / B52 = k + 1 := ⟨b / B52 - 1, (Nat.succ_pred_eq_of_ne_zero h).symm⟩
      rw [hk, Nat.mul_add, Nat.mul_one, Nat.mul_comm] at hd
      rw [hk, Nat.add_sub_cancel]
      omega
    · have : b / B52 < 2047 := by rw [Nat.div_lt_iff_lt_mul B52_pos]; rw [INF_eq] at hb; exact hb
      omega
theorem mag_fv {b : Nat} (h : b < INF) : mag (fv b) 1 = b := by
  obtain ⟨x, s, e, h1, h2, h3, _⟩ := fv_norm b
  rw [e, mag_norm h1 h2]; omega
theorem ex_fv {b : Nat} (h : b < INF) : Ex (fv b) 1 := by
  obtain ⟨x, s, e, h1, h2, h3, h4⟩ := fv_norm b
  rw [e, ex_norm h1 h2]; exact h4 h
theorem fv_lt {b c : Nat} (hb : b < INF) (hc : c < INF) (h : b < c) : fv b < fv c := by
  rcases Nat.lt_or_ge (fv b) (fv c) with hl | hl
  · exact hl
  · have := mag_mono (p := fv c) (d := 1) (p' := fv b) (d' := 1) (by omega) (by omega) (by omega)
    rw [mag_fv hb, mag_fv hc] at this
    omega
theorem fv_zero : fv 0 = 0 := by unfold fv; simp
theorem fv_eq_zero {b : Nat} (hb : b < INF) : fv b = 0 ↔ b = 0 := by
  refine ⟨fun h => ?_, fun h => by rw [h, fv_zero]⟩
  rcases Nat.eq_zero_or_pos b with h0 | h0
  · exact h0
  · have := fv_lt (b := 0) (by unfold INF; omega) hb h0
    omega
/-- a number's units, as a normalized significand -/
theorem units_norm (p : Nat) {d : Nat} (hd : 0 < d) : ∃ x s, rdiv p (d * 2 ^ ulp p d) * 2 ^ ulp p d = x * 2 ^ s ∧ x < 2 * B52 ∧ (B52 ≤ x ∨ s = 0) ∧ s * B52 + x = ulp p d * B52 + rdiv p (d * 2 ^ ulp p d) := by
  have h1 := units_le p hd
  have h2 := units_ge p hd
  generalize hx : rdiv p (d * 2 ^ ulp p d) = x at *
  generalize ulp p d = s at *
  rcases Nat.lt_or_ge x (2 * B52) with hl | hl
  · exact ⟨x, s, rfl, hl, by rcases Nat.eq_zero_or_pos s with h | h; exact .inr h; exact .inl (h2 h), rfl⟩
  · obtain rfl : x = 2 * B52 := by omega
    refine ⟨B52, s + 1, by rw [Nat.pow_succ]; grind, by have := B52_pos; omega, .inl (Nat.le_refl _), by grind⟩
/-- the double that rounding tells, made of its units: the same word; too great where there is none -/
theorem mag_units (p : Nat) {d : Nat} (hd : 0 < d) :
    (Ex (rdiv p (d * 2 ^ ulp p d) * 2 ^ ulp p d) 1 → mag (rdiv p (d * 2 ^ ulp p d) * 2 ^ ulp p d) 1 = mag p d) ∧ (¬ Ex (rdiv p (d * 2 ^ ulp p d) * 2 ^ ulp p d) 1 → mag p d = INF) := by
  obtain ⟨x, s, e, h1, h2, h3⟩ := units_norm p hd
  rw [e, mag_norm h1 h2, ex_norm h1 h2, h3]
  refine ⟨fun _ => rfl, fun h => ?_⟩
  unfold mag
  rw [← h3, INF_eq]
  have hs : 2046 ≤ s := by omega
  have : 2046 * B52 ≤ s * B52 := Nat.mul_le_mul_right _ hs
  rcases h2 with h2 | h2
  · omega
  · omega
/-- .. what it says -/
theorem fv_mag (p : Nat) {d : Nat} (hd : 0 < d) (h : mag p d < INF) : fv (mag p d) = rdiv p (d * 2 ^ ulp p d) * 2 ^ ulp p d := by
  obtain ⟨x, s, e, h1, h2, h3⟩ := units_norm p hd
  have hm : mag p d = s * B52 + x := by
    unfold mag at h ⊢
    rw [h3]; omega
  obtain ⟨y, t, e', k1, k2, k3, _⟩ := fv_norm (mag p d)
  rw [e, e']
  have hst : s = t ∧ x = y := by
    rw [hm] at k3
    have hs : s = t := by
      rcases Nat.lt_trichotomy s t with hl | hl | hl
      · exfalso
        have : (s + 1) * B52 ≤ t * B52 := Nat.mul_le_mul_right _ hl
        rw [Nat.add_mul, Nat.one_mul] at this
        rcases k2 with k2 | k2 <;> omega
      · exact hl
      · exfalso
        have : (t + 1) * B52 ≤ s * B52 := Nat.mul_le_mul_right _ hl
        rw [Nat.add_mul, Nat.one_mul] at this
        rcases h2 with h2 | h2 <;> omega
    subst hs
    exact ⟨rfl, by omega⟩
  rw [hst.1, hst.2]
theorem mag_parity (p : Nat) {d : Nat} (hd : 0 < d) (h : mag p d < INF) : mag p d % 2 = rdiv p (d * 2 ^ ulp p d) % 2 := by
  have : mag p d = ulp p d * B52 + rdiv p (d * 2 ^ ulp p d) := by unfold mag at h ⊢; omega
  rw [this, B52_eq]
  omega

/-- how far apart -/
def dist (a b : Nat) : Nat := a - b + (b - a)
/-- no multiple of the unit is nearer -/
theorem rdiv_near (p k : Nat) {d : Nat} (hd : 0 < d) : dist p (rdiv p d * d) ≤ dist p (k * d) ∧ (dist p (rdiv p d * d) = dist p (k * d) → k = rdiv p d ∨ rdiv p d % 2 = 0) := by
  obtain ⟨a1, a2, a3, a4⟩ := rdiv_spec p hd
  generalize rdiv p d = x at *
  have e1 : (2 * x + 1) * d = 2 * (x * d) + d := by grind
  have e2 : 2 * x * d = 2 * (x * d) := by grind
  rw [e1] at a1 a3
  rw [e2] at a2 a4
  unfold dist
  rcases Nat.lt_trichotomy k x with hl | hl | hl
  · have : (k + 1) * d ≤ x * d := Nat.mul_le_mul_right _ hl
    rw [Nat.add_mul, Nat.one_mul] at this
    generalize x * d = X at *
    generalize k * d = Y at *
    refine ⟨by omega, fun h => .inr (a4 (by omega))⟩
  · subst hl
    exact ⟨Nat.le_refl _, fun _ => .inl rfl⟩
  · have : (x + 1) * d ≤ k * d := Nat.mul_le_mul_right _ hl
    rw [Nat.add_mul, Nat.one_mul] at this
    generalize x * d = X at *
    generalize k * d = Y at *
    refine ⟨by omega, fun h => .inr (a3 (by omega))⟩
/-- NO DOUBLE IS NEARER: of two that are as near it is the even one -/
theorem nearest (p b : Nat) {d : Nat} (hd : 0 < d) (h : mag p d < INF) (hb : b < INF) :
    dist p (fv (mag p d) * d) ≤ dist p (fv b * d) ∧ (dist p (fv (mag p d) * d) = dist p (fv b * d) → fv b = fv (mag p d) ∨ mag p d % 2 = 0) := by
  rw [mag_parity p hd h, fv_mag p hd h]
  have hu : 0 < 2 ^ ulp p d := Nat.two_pow_pos _
  have hU : 0 < d * 2 ^ ulp p d := Nat.mul_pos hd hu
  rw [show rdiv p (d * 2 ^ ulp p d) * 2 ^ ulp p d * d = rdiv p (d * 2 ^ ulp p d) * (d * 2 ^ ulp p d) by grind]
  obtain ⟨y, t, e, k1, k2, k3, _⟩ := fv_norm b
  rcases Nat.lt_or_ge t (ulp p d) with hl | hl
  · -- b lies below the binade of p
    have h0 : 0 < p / d := by
      rcases Nat.eq_zero_or_pos (p / d) with hz | hz
      · unfold ulp at hl; rw [hz, blen_zero] at hl; omega
      · exact hz
    have hlow : B52 * 2 ^ ulp p d * d ≤ p := by
      have h1 := blen_self h0
      have h2 : B52 * 2 ^ ulp p d = 2 ^ (blen (p / d) - 1) := by
        rw [B52_pow, ← Nat.pow_add]; congr 1; unfold ulp at *; omega
      rw [h2]
      exact Nat.le_trans (Nat.mul_le_mul_right _ h1) (Nat.div_mul_le_self p d)
    have hy : fv b < B52 * 2 ^ ulp p d := by
      rw [e]
      have h1 : y * 2 ^ t < 2 * B52 * 2 ^ t := Nat.mul_lt_mul_of_pos_right k1 (Nat.two_pow_pos t)
      have h2 : 2 * B52 * 2 ^ t = B52 * 2 ^ (t + 1) := by rw [Nat.pow_succ]; grind
      have h3 : B52 * 2 ^ (t + 1) ≤ B52 * 2 ^ ulp p d := Nat.mul_le_mul_left _ (Nat.pow_le_pow_right (by omega) hl)
      omega
    have hy2 : fv b * d < B52 * 2 ^ ulp p d * d := Nat.mul_lt_mul_of_pos_right hy hd
    obtain ⟨n1, _⟩ := rdiv_near p B52 hU
    rw [show B52 * (d * 2 ^ ulp p d) = B52 * 2 ^ ulp p d * d by grind] at n1
    have hlt : dist p (B52 * 2 ^ ulp p d * d) < dist p (fv b * d) := by
      generalize fv b * d = x at *
      generalize B52 * 2 ^ ulp p d * d = z at *
      unfold dist; omega
    exact ⟨by omega, fun h => by omega⟩
  · have hk : fv b = (y * 2 ^ (t - ulp p d)) * 2 ^ ulp p d := by
      rw [e, Nat.mul_assoc, ← Nat.pow_add]; congr 2; omega
    rw [hk, show y * 2 ^ (t - ulp p d) * 2 ^ ulp p d * d = y * 2 ^ (t - ulp p d) * (d * 2 ^ ulp p d) by grind]
    obtain ⟨n1, n2⟩ := rdiv_near p (y * 2 ^ (t - ulp p d)) hU
    refine ⟨n1, fun h => ?_⟩
    rcases n2 h with h | h
    · left; rw [h]
    · exact .inr h
theorem inf_alg1 (K c : Nat) (hc : 0 < c) : (2 * c - 1) * (2 ^ K * 2) + 2 ^ K ≤ 2 ^ (K + 2) * c := by
  have this : (2 * c - 1) * (2 ^ K * 2) + 2 ^ K * 2 = 2 * c * (2 ^ K * 2) := by
    obtain ⟨b, hb⟩ : ∃ b, 2 * c = b + 1 := ⟨2 * c - 1, by omega⟩
    rw [hb, Nat.add_sub_cancel]; grind
  have e' : 2 * c * (2 ^ K * 2) = 2 ^ (K + 2) * c := by rw [Nat.pow_add]; grind
  omega
theorem inf_alg2 (K c d : Nat) (hc : 0 < c) : 2 * (2 * c) * (d * 2 ^ (K + 1)) = 2 * ((2 * c - 1) * (2 ^ K * 2) * d) + 4 * (2 ^ K * d) ∧ d * 2 ^ (K + 1) = 2 * (2 ^ K * d) ∧ ((2 * c - 1) * (2 ^ K * 2) + 2 ^ K) * d = (2 * c - 1) * (2 ^ K * 2) * d + 2 ^ K * d := by
  obtain ⟨b, hb⟩ : ∃ b, 2 * c = b + 1 := ⟨2 * c - 1, by omega⟩
  rw [hb, Nat.add_sub_cancel, Nat.pow_succ]
  refine ⟨by grind, by grind, by grind⟩
/-- where there is no finite double, the number is at least the greatest one and half of its unit -/
theorem mag_inf {p d : Nat} (hd : 0 < d) (h : mag p d = INF) : (fv (INF - 1) + fv 8975674057349398528) * d ≤ p := by
  have e1 : fv (INF - 1) = (2 * B52 - 1) * 2 ^ (2044 + 1) := by
    unfold fv
    rw [if_neg (by decide +kernel)]
    rw [show (INF - 1) % B52 + B52 = 2 * B52 - 1 by decide +kernel, show (INF - 1) / B52 - 1 = 2044 + 1 by decide +kernel]
  have e2 : fv 8975674057349398528 = B52 * 2 ^ (2044 - 52) := by
    unfold fv
    rw [if_neg (by decide +kernel)]
    rw [show 8975674057349398528 % B52 + B52 = B52 by decide +kernel, show 8975674057349398528 / B52 - 1 = 2044 - 52 by decide +kernel]
  have hk : ∃ K : Nat, K = 2044 := ⟨_, rfl⟩
  obtain ⟨K, hK⟩ := hk
  rw [e1, e2, ← hK]
  have e3 : B52 * 2 ^ (K - 52) = 2 ^ K := by rw [B52_pow, ← Nat.pow_add]; congr 1; omega
  rw [e3, Nat.pow_succ]
  have hz : 0 < 2 ^ K := Nat.two_pow_pos K
  have hu := units_le p hd
  have hm : INF ≤ ulp p d * B52 + rdiv p (d * 2 ^ ulp p d) := by unfold mag at h; omega
  rw [INF_eq] at hm
  have hs : K + 1 ≤ ulp p d := by
    rcases Nat.lt_or_ge (ulp p d) (K + 1) with hl | hl
    · have : ulp p d * B52 ≤ K * B52 := Nat.mul_le_mul_right _ (by omega)
      rw [hK] at this
      have := B52_pos
      omega
    · exact hl
  rcases Nat.lt_or_ge (K + 1) (ulp p d) with hl | hl
  · have h0 : 0 < p / d := by
      rcases Nat.eq_zero_or_pos (p / d) with hz | hz
      · unfold ulp at hl; rw [hz, blen_zero] at hl; omega
      · exact hz
    have h1 := blen_self h0
    have h2 : 2 ^ (K + 2) * B52 ≤ 2 ^ (blen (p / d) - 1) := by
      rw [B52_pow, ← Nat.pow_add]; exact Nat.pow_le_pow_right (by omega) (by unfold ulp at *; omega)
    have h3 := inf_alg1 K B52 B52_pos
    exact Nat.le_trans (Nat.mul_le_mul_right _ (Nat.le_trans h3 (Nat.le_trans h2 h1))) (Nat.div_mul_le_self p d)
  · have hu2 : ulp p d = K + 1 := by omega
    rw [hu2] at hm hu
    have hr : rdiv p (d * 2 ^ (K + 1)) = 2 * B52 := by
      have hq : (K + 1) * B52 = 2045 * B52 := by rw [hK]
      omega
    have hU : 0 < d * 2 ^ (K + 1) := Nat.mul_pos hd (Nat.two_pow_pos _)
    obtain ⟨_, a2, _, _⟩ := rdiv_spec p hU
    rw [hr] at a2
    obtain ⟨e4, e5, e6⟩ := inf_alg2 K B52 d B52_pos
    rw [e6]
    omega

end Go.Proofs.YtmoahgiklgicgaaDoor
