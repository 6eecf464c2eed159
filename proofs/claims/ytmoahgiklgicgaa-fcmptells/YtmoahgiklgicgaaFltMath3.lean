/-
  Plain mathematics of doubles: differences of near doubles, squares and roots. No Go in sight. Conditions: those that each theorem names. (Laid ahead for sums, products and roots of doubles.)
-/
import Derived.Test.YtmoahgiklgicgaaFltMath2
namespace Go.Proofs.Ytmoahgiklgicgaa
set_option maxRecDepth 100000
set_option linter.unusedVariables false
set_option linter.unusedSimpArgs false

/-- what has at most 53 bits is a double -/
theorem ex_any {x s : Nat} (hx : x < 2 * B52) (hs : s ≤ 2045) : Ex (x * 2 ^ s) 1 := by
  rcases Nat.eq_zero_or_pos x with rfl | h0
  · unfold Ex ulp
    rw [Nat.zero_mul, Nat.zero_div, Nat.zero_mod, blen_zero]
    exact ⟨rfl, rfl, by omega⟩
  · have hb := blen_le (n := x) (k := 53) (by rw [B52_pow] at hx; omega)
    have hl : blen (x * 2 ^ s) = blen x + s := blen_mul_pow h0 s
    unfold Ex ulp
    rw [Nat.mod_one, Nat.div_one, hl]
    exact ⟨rfl, dvd_pow_pow (by omega), by omega⟩
/-- a number that is a double, and its word -/
theorem ex_val {p : Nat} (h : Ex p 1) : fv (mag p 1) = p ∧ mag p 1 < INF := by
  obtain ⟨_, h2, h3⟩ := h
  rw [Nat.div_one] at h2 h3
  have hu : ulp p 1 ≤ 2045 := by unfold ulp; rw [Nat.div_one]; omega
  have hp : 0 < 2 ^ ulp p 1 := Nat.two_pow_pos _
  have hd : p / 2 ^ ulp p 1 * 2 ^ ulp p 1 = p := by have := Nat.div_add_mod' p (2 ^ ulp p 1); omega
  have hr : rdiv p (1 * 2 ^ ulp p 1) = p / 2 ^ ulp p 1 := by
    rw [Nat.one_mul]
    have := rdiv_exact (p / 2 ^ ulp p 1) hp
    rwa [hd] at this
  have hl : p / 2 ^ ulp p 1 < 2 * B52 := by
    rw [Nat.div_lt_iff_lt_mul hp]
    refine Nat.lt_of_lt_of_le (blen_lt p) ?_
    rw [B52_pow, ← Nat.pow_succ', ← Nat.pow_add]
    exact Nat.pow_le_pow_right (by omega) (by unfold ulp; rw [Nat.div_one]; omega)
  have h6 : mag p 1 ≤ ulp p 1 * B52 + rdiv p (1 * 2 ^ ulp p 1) := by unfold mag; exact Nat.min_le_left _ _
  have h4 : ulp p 1 * B52 ≤ 2045 * B52 := Nat.mul_le_mul_right _ hu
  have hm : mag p 1 < INF := by
    rw [INF_eq]
    rw [hr] at h6
    generalize ulp p 1 * B52 = a at *
    generalize p / 2 ^ ulp p 1 = b at *
    generalize mag p 1 = c at *
    generalize B52 = d at *
    omega
  refine ⟨?_, hm⟩
  rw [fv_mag p (by omega) hm, hr, hd]
theorem dist_comm (a b : Nat) : dist a b = dist b a := by unfold dist; omega
/-- the difference of two doubles, the greater one at most twice the other, is a double -/
theorem near_exact1 {a b : Nat} (ha : a < INF) (hb : b < INF) (h1 : fv b ≤ fv a) (h2 : fv a ≤ 2 * fv b) : Ex (dist (fv a) (fv b)) 1 := by
  obtain ⟨X, s, ea, x1, x2, x3, x4⟩ := fv_norm a
  obtain ⟨Y, t, eb, y1, y2, y3, y4⟩ := fv_norm b
  have hba : b ≤ a := by
    rcases Nat.lt_or_ge a b with hl | hl
    · have := fv_lt ha hb hl; omega
    · exact hl
  have hts : t ≤ s := by
    rcases Nat.lt_or_ge s t with hl | hl
    · exfalso
      have : (s + 1) * B52 ≤ t * B52 := Nat.mul_le_mul_right _ hl
      rw [Nat.add_mul, Nat.one_mul] at this
      rcases y2 with y2 | y2
      · omega
      · omega
    · exact hl
  have e : dist (fv a) (fv b) = (X * 2 ^ (s - t) - Y) * 2 ^ t := by
    have e1 : X * 2 ^ s = X * 2 ^ (s - t) * 2 ^ t := by rw [Nat.mul_assoc, ← Nat.pow_add]; congr 2; omega
    rw [Nat.sub_mul, ← e1, ← ea, ← eb]
    unfold dist; omega
  have hD : X * 2 ^ (s - t) - Y < 2 * B52 := by
    have hp : 0 < 2 ^ t := Nat.two_pow_pos t
    have h3 : (X * 2 ^ (s - t) - Y) * 2 ^ t ≤ Y * 2 ^ t := by
      rw [← e, ← eb]; unfold dist; omega
    have := Nat.le_of_mul_le_mul_right h3 hp
    omega
  rw [e]
  exact ex_any hD (y4 hb)
theorem near_exact {a b : Nat} (ha : a < INF) (hb : b < INF) (h1 : fv a ≤ 2 * fv b) (h2 : fv b ≤ 2 * fv a) : Ex (dist (fv a) (fv b)) 1 := by
  rcases Nat.le_total (fv b) (fv a) with h | h
  · exact near_exact1 ha hb h h1
  · rw [dist_comm]; exact near_exact1 hb ha h h2

/-- less than half a unit off -/
theorem rdiv_close {p d X : Nat} (hd : 0 < d) (h1 : 2 * X * d < 2 * p + d) (h2 : 2 * p < 2 * X * d + d) : rdiv p d = X := by
  obtain ⟨a1, a2, _, _⟩ := rdiv_spec p hd
  generalize rdiv p d = R at *
  have e1 : (2 * R + 1) * d = 2 * (R * d) + d := by grind
  have e2 : 2 * R * d = 2 * (R * d) := by grind
  have e3 : 2 * X * d = 2 * (X * d) := by grind
  rw [e1] at a1
  rw [e2] at a2
  rw [e3] at h1 h2
  rcases Nat.lt_trichotomy R X with hl | hl | hl
  · exfalso
    have : (R + 1) * d ≤ X * d := Nat.mul_le_mul_right _ hl
    rw [Nat.add_mul, Nat.one_mul] at this
    omega
  · exact hl
  · exfalso
    have : (X + 1) * d ≤ R * d := Nat.mul_le_mul_right _ hl
    rw [Nat.add_mul, Nat.one_mul] at this
    omega
/-- a number p / q that is less than half of 2^h off from X * 2^h, X of 53 bits -/
theorem magR_close {p q X h : Nat} {e : Int} (hq : 0 < q) (hX1 : B52 ≤ X) (hX2 : X < 2 * B52) (hb : blen (p / q) = 53 + h) (he : -1074 ≤ e + h)
    (h1 : 2 * X * (q * 2 ^ h) < 2 * p + q * 2 ^ h) (h2 : 2 * p < 2 * X * (q * 2 ^ h) + q * 2 ^ h) : magR p q e = magR X 1 (e + h) := by
  have h0 : 0 < p / q := by
    rcases Nat.eq_zero_or_pos (p / q) with h | h
    · rw [h, blen_zero] at hb; omega
    · exact h
  have hu := ulpR e h0
  rw [hb] at hu
  obtain ⟨u, eu⟩ : ∃ u : Nat, e + h + 1074 = u := ⟨(e + h + 1074).toNat, by omega⟩
  have hu2 : ulp (p * 2 ^ up e) (q * 2 ^ dn e) = u := by omega
  have hd := up_dn e
  rw [(magR_at (m := X) (e := e + h) (s := u) eu).1, mag_norm hX2 (.inl hX1)]
  unfold magR mag
  rw [hu2]
  have e1 : q * 2 ^ dn e * 2 ^ u = q * 2 ^ h * 2 ^ up e := by
    rw [Nat.mul_assoc, ← Nat.pow_add, Nat.mul_assoc, ← Nat.pow_add]; congr 2; omega
  rw [e1, rdiv_scale _ _ (Nat.two_pow_pos _), rdiv_close (Nat.mul_pos hq (Nat.two_pow_pos h)) h1 h2]
/-- the rounded square of a significand: less than X off, and of the same size -/
theorem square_close {X k R : Nat} (hX1 : B52 ≤ X) (hX2 : X < 2 * B52) (hk : k = blen (X * X) - 53) (hR : R = rdiv (X * X) (2 ^ k)) :
    X * X + 1 ≤ R * 2 ^ k + X ∧ R * 2 ^ k ≤ X * X + X ∧ B52 * B52 ≤ R * 2 ^ k ∧ R * 2 ^ k < 4 * (B52 * B52) := by
  have hsq1 : B52 * B52 ≤ X * X := Nat.mul_le_mul hX1 hX1
  have hsq2 : X * X ≤ (2 * B52 - 1) * (2 * B52 - 1) := Nat.mul_le_mul (by omega) (by omega)
  have hBB : B52 * B52 = 2 ^ 104 := by rw [B52_pow, ← Nat.pow_add]
  have hb1 : 105 ≤ blen (X * X) := blen_ge (k := 104) (by omega)
  have e9 : (2 * B52 - 1) * (2 * B52 - 1) + 4 * B52 = 4 * (B52 * B52) + 1 := by
    obtain ⟨c, hc⟩ : ∃ c, B52 = c + 1 := ⟨B52 - 1, by have := B52_pos; omega⟩
    rw [hc, show 2 * (c + 1) - 1 = 2 * c + 1 by omega]; grind
  have hB := B52_pos
  have hb2 : blen (X * X) ≤ 106 := blen_le (by rw [show (2 : Nat) ^ 106 = 4 * 2 ^ 104 by decide, ← hBB]; omega)
  have hp : 0 < 2 ^ k := Nat.two_pow_pos k
  obtain ⟨a1, a2, _, _⟩ := rdiv_spec (X * X) hp
  rw [← hR] at a1 a2
  have e1 : (2 * R + 1) * 2 ^ k = 2 * (R * 2 ^ k) + 2 ^ k := by grind
  have e2 : 2 * R * 2 ^ k = 2 * (R * 2 ^ k) := by grind
  rw [e1] at a1
  rw [e2] at a2
  -- half a unit is at most X - 1
  have hhalf : 2 ^ k ≤ 2 * (X - 1) ∨ R * 2 ^ k = X * X := by
    rcases (show k = 52 ∨ k = 53 by omega) with h | h
    · left
      rw [h, show (2 : Nat) ^ 52 = B52 from B52_pow.symm]
      have : 2 ≤ B52 := by rw [B52_eq]; omega
      omega
    · rcases Nat.lt_or_ge B52 X with hl | hl
      · left
        rw [h, show (2 : Nat) ^ 53 = 2 * B52 by rw [B52_eq]]
        omega
      · exfalso
        have : X = B52 := by omega
        subst this
        rw [hBB, show blen (2 ^ 104) = 105 from blen_unique (by decide) (Nat.le_refl _)] at hk
        omega
  have hlow : B52 * B52 ≤ R * 2 ^ k := by
    have hm := rdiv_mono1 (d := 2 ^ k) hp hsq1
    have hdv : ∃ j, B52 * B52 = j * 2 ^ k := ⟨2 ^ (104 - k), by rw [hBB, ← Nat.pow_add]; congr 1; omega⟩
    obtain ⟨j, hj⟩ := hdv
    rw [hj, rdiv_exact j hp, ← hR] at hm
    rw [hj]
    exact Nat.mul_le_mul_right _ hm
  have hk2 : 2 ^ k ≤ 2 * B52 := by
    have : 2 ^ k ≤ 2 ^ 53 := Nat.pow_le_pow_right (by omega) (by omega)
    rw [show (2 : Nat) ^ 53 = 2 * B52 by rw [B52_eq]] at this
    exact this
  generalize R * 2 ^ k = S at *
  generalize 2 ^ k = K at *
  generalize X * X = Q at *
  generalize B52 * B52 = C at *
  refine ⟨?_, ?_, hlow, ?_⟩
  · rcases hhalf with h | h <;> omega
  · rcases hhalf with h | h <;> omega
  · omega
/-- the root r of S * 4^h, S less than X off from X * X -/
theorem root_close {X S h r : Nat} {e : Int} (hX1 : B52 ≤ X) (hX2 : X < 2 * B52) (hS1 : X * X + 1 ≤ S + X) (hS2 : S ≤ X * X + X) (hS3 : B52 * B52 ≤ S) (hS4 : S < 4 * (B52 * B52))
    (hh : 1 ≤ h) (hr1 : r * r ≤ S * 2 ^ (2 * h)) (hr2 : S * 2 ^ (2 * h) < (r + 1) * (r + 1)) (he : -1074 ≤ e + h) :
    (r * r = S * 2 ^ (2 * h) → magR r 1 e = magR X 1 (e + h)) ∧ (r * r ≠ S * 2 ^ (2 * h) → magR (2 * r + 1) 1 (e - 1) = magR X 1 (e + h)) := by
  obtain ⟨g, rfl⟩ : ∃ g, h = g + 1 := ⟨h - 1, by omega⟩
  have hp : 0 < 2 ^ g := Nat.two_pow_pos g
  have e1 : S * 2 ^ (2 * (g + 1)) = 4 * S * (2 ^ g * 2 ^ g) := by
    rw [show 2 * (g + 1) = g + g + 2 by omega, Nat.pow_add, Nat.pow_add]; grind
  have hB := B52_pos
  rw [e1] at hr1 hr2
  -- 4 S lies strictly between the squares of 2 X - 1 and 2 X + 1
  have c1 : (2 * X - 1) * (2 * X - 1) < 4 * S := by
    obtain ⟨c, hc⟩ : ∃ c, X = c + 1 := ⟨X - 1, by omega⟩
    subst hc
    have : (2 * (c + 1) - 1) * (2 * (c + 1) - 1) + 4 * (c + 1) = 4 * ((c + 1) * (c + 1)) + 1 := by
      rw [show 2 * (c + 1) - 1 = 2 * c + 1 by omega]; grind
    omega
  have c2 : 4 * S < (2 * X + 1) * (2 * X + 1) := by
    have : (2 * X + 1) * (2 * X + 1) = 4 * (X * X) + 4 * X + 1 := by grind
    omega
  -- so r does between (2 X - 1) 2^g and (2 X + 1) 2^g
  have r1 : (2 * X - 1) * 2 ^ g ≤ r := by
    rcases Nat.lt_or_ge r ((2 * X - 1) * 2 ^ g) with hl | hl
    · exfalso
      have : (r + 1) * (r + 1) ≤ (2 * X - 1) * 2 ^ g * ((2 * X - 1) * 2 ^ g) := Nat.mul_le_mul hl hl
      have e2 : (2 * X - 1) * 2 ^ g * ((2 * X - 1) * 2 ^ g) = (2 * X - 1) * (2 * X - 1) * (2 ^ g * 2 ^ g) := by grind
      have e3 : (2 * X - 1) * (2 * X - 1) * (2 ^ g * 2 ^ g) ≤ 4 * S * (2 ^ g * 2 ^ g) := Nat.mul_le_mul_right _ (by omega)
      omega
    · exact hl
  have r2 : r < (2 * X + 1) * 2 ^ g := by
    rcases Nat.lt_or_ge r ((2 * X + 1) * 2 ^ g) with hl | hl
    · exact hl
    · exfalso
      have : (2 * X + 1) * 2 ^ g * ((2 * X + 1) * 2 ^ g) ≤ r * r := Nat.mul_le_mul hl hl
      have e2 : (2 * X + 1) * 2 ^ g * ((2 * X + 1) * 2 ^ g) = (2 * X + 1) * (2 * X + 1) * (2 ^ g * 2 ^ g) := by grind
      have e3 : 4 * S * (2 ^ g * 2 ^ g) < (2 * X + 1) * (2 * X + 1) * (2 ^ g * 2 ^ g) := Nat.mul_lt_mul_of_pos_right c2 (Nat.mul_pos hp hp)
      omega
  have r3 : r * r = 4 * S * (2 ^ g * 2 ^ g) → (2 * X - 1) * 2 ^ g < r := by
    intro hx
    rcases Nat.lt_or_eq_of_le r1 with hl | hl
    · exact hl
    · exfalso
      rw [← hl] at hx
      have e2 : (2 * X - 1) * 2 ^ g * ((2 * X - 1) * 2 ^ g) = (2 * X - 1) * (2 * X - 1) * (2 ^ g * 2 ^ g) := by grind
      have e3 : (2 * X - 1) * (2 * X - 1) * (2 ^ g * 2 ^ g) < 4 * S * (2 ^ g * 2 ^ g) := Nat.mul_lt_mul_of_pos_right c1 (Nat.mul_pos hp hp)
      omega
  -- the bits of r
  have b1 : B52 * 2 ^ (g + 1) ≤ r := by
    rcases Nat.lt_or_ge r (B52 * 2 ^ (g + 1)) with hl | hl
    · exfalso
      have : (r + 1) * (r + 1) ≤ B52 * 2 ^ (g + 1) * (B52 * 2 ^ (g + 1)) := Nat.mul_le_mul hl hl
      have e2 : B52 * 2 ^ (g + 1) * (B52 * 2 ^ (g + 1)) = 4 * (B52 * B52) * (2 ^ g * 2 ^ g) := by rw [Nat.pow_succ]; grind
      have e3 : 4 * (B52 * B52) * (2 ^ g * 2 ^ g) ≤ 4 * S * (2 ^ g * 2 ^ g) := Nat.mul_le_mul_right _ (by omega)
      omega
    · exact hl
  have b2 : r < 2 * B52 * 2 ^ (g + 1) := by
    rcases Nat.lt_or_ge r (2 * B52 * 2 ^ (g + 1)) with hl | hl
    · exact hl
    · exfalso
      have : 2 * B52 * 2 ^ (g + 1) * (2 * B52 * 2 ^ (g + 1)) ≤ r * r := Nat.mul_le_mul hl hl
      have e2 : 2 * B52 * 2 ^ (g + 1) * (2 * B52 * 2 ^ (g + 1)) = 4 * (4 * (B52 * B52)) * (2 ^ g * 2 ^ g) := by rw [Nat.pow_succ]; grind
      have e3 : 4 * S * (2 ^ g * 2 ^ g) < 4 * (4 * (B52 * B52)) * (2 ^ g * 2 ^ g) := Nat.mul_lt_mul_of_pos_right (by omega) (Nat.mul_pos hp hp)
      omega
  have hb : blen r = 53 + (g + 1) := by
    rw [show 53 + (g + 1) = (52 + (g + 1)) + 1 by omega]
    apply blen_unique
    · rw [show 52 + (g + 1) + 1 = 53 + (g + 1) by omega, Nat.pow_add, show (2 : Nat) ^ 53 = 2 * B52 by rw [B52_eq]]; exact b2
    · rw [Nat.pow_add, show (2 : Nat) ^ 52 = B52 from B52_pow.symm]; exact b1
  have e5 : (2 * X - 1) * 2 ^ g + 2 ^ g = 2 * (X * 2 ^ g) := by
    obtain ⟨c, hc⟩ : ∃ c, X = c + 1 := ⟨X - 1, by omega⟩
    rw [hc, show 2 * (c + 1) - 1 = 2 * c + 1 by omega]; grind
  have e6 : (2 * X + 1) * 2 ^ g = 2 * (X * 2 ^ g) + 2 ^ g := by grind
  have e7 : 2 * X * (1 * 2 ^ (g + 1)) = 4 * (X * 2 ^ g) := by rw [Nat.pow_succ]; grind
  have e8 : 2 * X * (2 * 2 ^ (g + 1)) = 8 * (X * 2 ^ g) := by rw [Nat.pow_succ]; grind
  have e9 : 2 ^ (g + 1) = 2 * 2 ^ g := by rw [Nat.pow_succ]; omega
  rw [e1]
  refine ⟨fun hx => ?_, fun hx => ?_⟩
  · have h3 := r3 hx
    refine magR_close (p := r) (q := 1) (by omega) hX1 hX2 (by rw [Nat.div_one]; exact hb) he ?_ ?_
    · rw [e7, e9]; omega
    · rw [e7, e9]; omega
  · rw [← magR_two]
    refine magR_close (p := 2 * r + 1) (q := 2) (by omega) hX1 hX2 (by rw [show (2 * r + 1) / 2 = r by omega]; exact hb) he ?_ ?_
    · rw [e8, e9]; omega
    · rw [e8, e9]; omega

end Go.Proofs.Ytmoahgiklgicgaa
