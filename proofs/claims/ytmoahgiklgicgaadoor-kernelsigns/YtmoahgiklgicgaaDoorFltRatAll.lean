/-
  Plain mathematics of doubles: differences of near doubles, squares and roots. No Go in sight. Conditions: those that each theorem names. (Laid ahead for sums, products and roots of doubles.)
-/
import Derived.Test.YtmoahgiklgicgaaDoorProdMathAll
import Derived.Test.YtmoahgiklgicgaaDoorFbRunOne
import Derived.Test.YtmoahgiklgicgaaDoorFltMath2All
namespace Go.Proofs.YtmoahgiklgicgaaDoor
set_option maxRecDepth 100000
set_option linter.unusedVariables false
set_option linter.unusedSimpArgs false

@[irreducible] def K74 : Nat := 1074
theorem K74_eq : K74 = 1074 := by unfold K74; rfl
def mant (b : Nat) : Nat := b % 9223372036854775808
/-- the exact value of a double -/
def dq (b : Nat) : Rat := rq (ng b) (fv (mant b)) (2 ^ K74)
/-- the double nearest to an exact number -/
def fromQ (X : Rat) : Nat := sg (neg_ X) (magR X.num.natAbs X.den 0)

theorem mk_den {n : Int} {d : Nat} (hd : d ≠ 0) : (mkRat n d).num * (d : Int) = n * ((mkRat n d).den : Int) := by
  have h := Rat.mkRat_self (mkRat n d)
  exact (Rat.mkRat_eq_iff (den_ne _) hd).1 h
theorem mk_lt {n m : Int} {d e : Nat} (hd : d ≠ 0) (he : e ≠ 0) : mkRat n d < mkRat m e ↔ n * e < m * d := by
  rw [Rat.lt_iff]
  have h1 := mk_den (n := n) hd
  have h2 := mk_den (n := m) he
  have p1 : 0 < ((mkRat n d).den : Int) := by have := den_ne (mkRat n d); omega
  have p2 : 0 < ((mkRat m e).den : Int) := by have := den_ne (mkRat m e); omega
  have p3 : 0 < (d : Int) := by omega
  have p4 : 0 < (e : Int) := by omega
  generalize (mkRat n d).num = a at *
  generalize (mkRat m e).num = b at *
  generalize ((mkRat n d).den : Int) = x at *
  generalize ((mkRat m e).den : Int) = y at *
  have q1 : 0 < (d : Int) * e := Int.mul_pos p3 p4
  have q2 : 0 < x * y := Int.mul_pos p1 p2
  have e1 : a * y * (d * e) = n * e * (x * y) := by
    have : a * y * (d * e) = (a * d) * (y * e) := by grind
    rw [this, h1]; grind
  have e2 : b * x * (d * e) = m * d * (x * y) := by
    have : b * x * (d * e) = (b * e) * (x * d) := by grind
    rw [this, h2]; grind
  constructor
  · intro h
    have := Int.mul_lt_mul_of_pos_right h q1
    rw [e1, e2] at this
    exact Int.lt_of_mul_lt_mul_right this (by omega)
  · intro h
    have := Int.mul_lt_mul_of_pos_right h q2
    rw [← e1, ← e2] at this
    exact Int.lt_of_mul_lt_mul_right this (by omega)
theorem mk_cmp {n m : Int} {d e : Nat} (hd : d ≠ 0) (he : e ≠ 0) : cmpQ (mkRat n d) (mkRat m e) = if n * e < m * d then -1 else if m * d < n * e then 1 else 0 := by
  unfold cmpQ
  simp only [mk_lt hd he, mk_lt he hd]
theorem rq_eq {s : Bool} {a b c d : Nat} (hb : b ≠ 0) (hd : d ≠ 0) (h : a * d = c * b) : rq s a b = rq s c d := by
  unfold rq
  rw [Rat.mkRat_eq_iff hb hd, ← sI_mul_nat, ← sI_mul_nat, h]
theorem magR_rq (s : Bool) {p q : Nat} (hq : q ≠ 0) (e : Int) : magR (rq s p q).num.natAbs (rq s p q).den e = magR p q e := by
  obtain ⟨h1, h2, _⟩ := rq_num s p q hq
  have hg : 0 < Nat.gcd p q := Nat.pos_of_ne_zero fun e => hq (Nat.eq_zero_of_gcd_eq_zero_right e)
  have h3 : p / Nat.gcd p q * Nat.gcd p q = p := Nat.div_mul_cancel (Nat.gcd_dvd_left p q)
  have h4 : q / Nat.gcd p q * Nat.gcd p q = q := Nat.div_mul_cancel (Nat.gcd_dvd_right p q)
  have hq2 : 0 < q / Nat.gcd p q := by
    rcases Nat.eq_zero_or_pos (q / Nat.gcd p q) with h | h
    · rw [h, Nat.zero_mul] at h4; omega
    · exact h
  rw [h1, h2]
  refine magR_eq (a := 0) (b := 0) hq2 (by omega) ?_ (by omega)
  generalize p / Nat.gcd p q = a at *
  generalize q / Nat.gcd p q = b at *
  generalize Nat.gcd p q = g at *
  rw [← h3, ← h4]
  grind
theorem mant_lt {b : Nat} (h : fld b < 2047) : mant b < INF := by
  rw [INF_lit]; unfold mant; unfold fld at h; omega
theorem mant_fld (b : Nat) : mant b / B52 = fld b ∧ mant b % B52 = rst b := by
  rw [B52_eq]; unfold mant fld rst; omega
theorem sg_mant (b : Nat) (hb : b < 18446744073709551616) : sg (ng b) (mant b) = b := by
  unfold sg ng mant
  by_cases h : 9223372036854775808 ≤ b
  · rw [decide_eq_true h]; simp; omega
  · rw [decide_eq_false h]; simp; omega
/-- the value, by significand and exponent -/
theorem fv_mant (b : Nat) : fv (mant b) = sig b * 2 ^ (xpo b + 1074).toNat := by
  obtain ⟨h1, h2⟩ := mant_fld b
  unfold fv
  rw [h1, h2]
  unfold sig xpo
  by_cases h : fld b = 0
  · rw [if_pos h, if_pos h, if_pos h]
    have : mant b = rst b := by
      have := Nat.div_add_mod (mant b) B52
      rw [h1, h2, h] at this
      omega
    rw [this]; simp
  · rw [if_neg h, if_neg h, if_neg h, B52_eq]
    congr 2
    omega
theorem xpo_range {b : Nat} (h : fld b < 2047) : -1074 ≤ xpo b ∧ xpo b ≤ 971 := by unfold xpo; split <;> omega
theorem sig_lt (b : Nat) : sig b < 9007199254740992 := by have := rst_lt b; unfold sig; split <;> omega
theorem dq_eq {b : Nat} (h : fld b < 2047) : rq (ng b) (sig b * 2 ^ clampS (xpo b)) (2 ^ clampS (-(xpo b))) = dq b := by
  obtain ⟨h1, h2⟩ := xpo_range h
  unfold dq
  have hK := K74_eq
  refine rq_eq (by have := Nat.two_pow_pos (clampS (-(xpo b))); omega) (by have := Nat.two_pow_pos K74; omega) ?_
  rw [fv_mant, Nat.mul_assoc, Nat.mul_assoc, ← Nat.pow_add, ← Nat.pow_add]
  congr 2
  rcases Int.lt_or_le (xpo b) 0 with hl | hl
  · rw [clampS_neg hl, clampS_mid (by omega) (by omega)]; omega
  · rw [clampS_mid hl (by omega)]
    rcases Int.lt_or_le (-(xpo b)) 0 with hg | hg
    · rw [clampS_neg hg]; omega
    · rw [clampS_mid hg (by omega)]; omega
theorem dq_sz {b : Nat} (h : fld b < 2047) : Sz (dq b) 18 := by
  obtain ⟨h1, h2⟩ := xpo_range h
  rw [← dq_eq h]
  have hs := sig_lt b
  have hp : ∀ k : Nat, 0 < 2 ^ k := Nat.two_pow_pos
  refine rq_sz (by have := hp (clampS (-(xpo b))); omega) ?_ ?_
  · have hc : clampS (xpo b) ≤ 64 * 17 := by
      rcases Int.lt_or_le (xpo b) 0 with hl | hl
      · rw [clampS_neg hl]; omega
      · rw [clampS_mid hl (by omega)]; omega
    exact mul_lt_pow (a := sig b) (k := 1) (l := 17) (by rw [Nat.pow_one]; unfold W; omega) hc
  · have hc : clampS (-(xpo b)) ≤ 64 * 17 := by
      rcases Int.lt_or_le (-(xpo b)) 0 with hl | hl
      · rw [clampS_neg hl]; omega
      · rw [clampS_mid hl (by omega)]; omega
    have := mul_lt_pow (a := 1) (k := 1) (l := 17) (by rw [Nat.pow_one]; unfold W; omega) hc
    rwa [Nat.one_mul] at this
theorem magR_dq (b : Nat) : magR (fv (mant b)) (2 ^ K74) 0 = mag (fv (mant b)) 1 := by
  have hK := K74_eq
  have h1 : magR (fv (mant b)) (2 ^ K74) 0 = magR (fv (mant b)) 1 (-1074) :=
    magR_eq (a := K74) (b := 0) (Nat.two_pow_pos _) (by omega) (by simp) (by omega)
  rw [h1, (magR_at (m := fv (mant b)) (e := -1074) (s := 0) (by omega)).1]
  simp
/-- the double nearest to what a double is -/
theorem fromQ_dq {b : Nat} (hb : b < 18446744073709551616) (h : fld b < 2047) : fromQ (dq b) = b ∨ (b = 9223372036854775808 ∧ fromQ (dq b) = 0) := by
  have hK : 2 ^ K74 ≠ 0 := by have := Nat.two_pow_pos K74; omega
  have hm := mant_lt h
  unfold fromQ
  obtain ⟨h1, h2, h3⟩ := rq_num (ng b) (fv (mant b)) (2 ^ K74) hK
  have hmag : magR (dq b).num.natAbs (dq b).den 0 = mant b := by
    unfold dq
    rw [magR_rq _ hK, magR_dq, mag_fv hm]
  rw [hmag]
  by_cases h0 : fv (mant b) = 0
  · have h4 : mant b = 0 := (fv_eq_zero hm).1 h0
    have h5 : neg_ (dq b) = false := by unfold dq; rw [h3, h0, Nat.zero_div]; simp
    rw [h5, h4]
    unfold mant at h4
    have h6 : b = 0 ∨ b = 9223372036854775808 := by omega
    rcases h6 with rfl | rfl
    · left; rfl
    · right; exact ⟨rfl, rfl⟩
  · left
    have h5 : neg_ (dq b) = ng b := by
      unfold dq; rw [h3]
      have : fv (mant b) / Nat.gcd (fv (mant b)) (2 ^ K74) ≠ 0 := by
        have hg := Nat.gcd_dvd_left (fv (mant b)) (2 ^ K74)
        have := Nat.div_pos (Nat.le_of_dvd (Nat.pos_of_ne_zero h0) hg) (Nat.pos_of_ne_zero fun e => h0 (Nat.eq_zero_of_gcd_eq_zero_left e))
        omega
      rw [decide_eq_true this, Bool.and_true]
    rw [h5]
    exact sg_mant b hb
/-- the order of doubles without a sign -/
theorem dq_cmp {b c : Nat} (hb : fld b < 2047) (hc : fld c < 2047) (nb : ng b = false) (nc : ng c = false) : (cmpQ (dq b) (dq c) < 0 ↔ b < c) ∧ (cmpQ (dq b) (dq c) = 0 ↔ b = c) := by
  have hK : 2 ^ K74 ≠ 0 := by have := Nat.two_pow_pos K74; omega
  have hKp : (0 : Int) < ((2 ^ K74 : Nat) : Int) := Int.natCast_pos.2 (Nat.two_pow_pos K74)
  have b1 : mant b = b := by unfold ng at nb; rw [decide_eq_false_iff_not] at nb; unfold mant; omega
  have c1 : mant c = c := by unfold ng at nc; rw [decide_eq_false_iff_not] at nc; unfold mant; omega
  have hb2 := mant_lt hb
  have hc2 := mant_lt hc
  unfold dq rq
  rw [nb, nc, mk_cmp hK hK, b1, c1]
  rw [b1] at hb2
  rw [c1] at hc2
  have i1 : ∀ x y : Nat, (sI false x * ((2 ^ K74 : Nat) : Int) < sI false y * ((2 ^ K74 : Nat) : Int)) ↔ x < y := by
    intro x y
    unfold sI
    rw [Int.mul_lt_mul_right hKp]
    simp
  simp only [i1]
  rcases Nat.lt_trichotomy b c with hl | hl | hl
  · have := fv_lt hb2 hc2 hl
    rw [if_pos this]; omega
  · subst hl
    rw [if_neg (by omega), if_neg (by omega)]; omega
  · have := fv_lt hc2 hb2 hl
    rw [if_neg (by omega), if_pos this]; omega

/-- the absolute value -/
def absQ (X : Rat) : Rat := rq false X.num.natAbs X.den
theorem absQ_mk (z : Int) {d : Nat} (hd : d ≠ 0) : absQ (mkRat z d) = mkRat (z.natAbs : Int) d := by
  unfold absQ rq sI
  rw [Rat.mkRat_eq_iff (den_ne _) hd]
  have h := mk_den (n := z) hd
  have h2 := congrArg Int.natAbs h
  rw [Int.natAbs_mul, Int.natAbs_mul, Int.natAbs_natCast, Int.natAbs_natCast] at h2
  simp only [if_neg (show ¬ (false = true) by decide)]
  exact_mod_cast h2
theorem sub_mk (n m : Int) {d e : Nat} (hd : d ≠ 0) (he : e ≠ 0) : mkRat n d - mkRat m e = mkRat (n * e - m * d) (d * e) := by
  rw [Rat.sub_eq_add_neg, Rat.neg_mkRat, Rat.mkRat_add_mkRat _ _ hd he, Int.neg_mul, Int.sub_eq_add_neg]
theorem sz_absQ {X : Rat} {N : Nat} (h : Sz X N) : Sz (absQ X) N := rq_sz (den_ne X) h.1 h.2
theorem abs_same (s : Bool) (a b : Nat) : (sI s a - sI s b).natAbs = dist a b := by
  unfold sI dist; cases s <;> simp <;> omega
theorem abs_other {s t : Bool} (h : s ≠ t) (a b : Nat) : (sI s a - sI t b).natAbs = a + b := by
  unfold sI; cases s <;> cases t <;> simp at h ⊢ <;> omega
/-- how far a number is from a double -/
theorem apart_dq (X : Rat) (b : Nat) : absQ (X - dq b) = mkRat (((sI (neg_ X) (X.num.natAbs * 2 ^ K74) - sI (ng b) (fv (mant b) * X.den)).natAbs : Nat) : Int) (X.den * 2 ^ K74) := by
  have hK : 2 ^ K74 ≠ 0 := by have := Nat.two_pow_pos K74; omega
  have hX : X = mkRat (sI (neg_ X) X.num.natAbs) X.den := by rw [sI_num, Rat.mkRat_self]
  have h1 : X - dq b = mkRat (sI (neg_ X) (X.num.natAbs * 2 ^ K74) - sI (ng b) (fv (mant b) * X.den)) (X.den * 2 ^ K74) := by
    rw [sI_mul_nat, sI_mul_nat]
    unfold dq rq
    rw [← sub_mk _ _ (den_ne X) hK, ← hX]
  rw [h1, absQ_mk _ (Nat.mul_ne_zero (den_ne X) hK)]
theorem cmp_mk_same {a b d : Nat} (hd : d ≠ 0) : cmpQ (mkRat (a : Int) d) (mkRat (b : Int) d) = if a < b then -1 else if b < a then 1 else 0 := by
  rw [mk_cmp hd hd]
  have hp : (0 : Int) < (d : Int) := by omega
  simp only [Int.mul_lt_mul_right hp, Int.ofNat_lt]
theorem magR_le' (p q : Nat) (e : Int) : magR p q e ≤ 9218868437227405312 := by have := mag_le (p * 2 ^ up e) (q * 2 ^ dn e); rw [INF_lit] at this; exact this
theorem magX (X : Rat) : magR X.num.natAbs X.den 0 = mag (X.num.natAbs * 2 ^ K74) X.den := by
  have hK := K74_eq
  unfold magR
  rw [dn_zero (by omega), show up 0 = K74 by unfold up; omega, Nat.pow_zero, Nat.mul_one]
theorem fromQ_parts (X : Rat) : ng (fromQ X) = neg_ X ∧ mant (fromQ X) = magR X.num.natAbs X.den 0 := by
  have := magR_le' X.num.natAbs X.den 0
  unfold fromQ sg ng mant
  cases neg_ X <;> simp <;> omega
/-- NO DOUBLE IS NEARER -/
theorem nearestQ (X : Rat) {z : Nat} (hy : fld (fromQ X) < 2047) (hz : fld z < 2047) :
    cmpQ (absQ (X - dq (fromQ X))) (absQ (X - dq z)) ≤ 0 ∧ (cmpQ (absQ (X - dq (fromQ X))) (absQ (X - dq z)) < 0 ∨ dq (fromQ X) = dq z ∨ fromQ X % 2 = 0) := by
  have hK : 2 ^ K74 ≠ 0 := by have := Nat.two_pow_pos K74; omega
  have hD : X.den * 2 ^ K74 ≠ 0 := Nat.mul_ne_zero (den_ne X) hK
  obtain ⟨p1, p2⟩ := fromQ_parts X
  have hd : 0 < X.den := Nat.pos_of_ne_zero (den_ne X)
  have hm1 := mant_lt hy
  have hm2 := mant_lt hz
  rw [apart_dq, apart_dq, cmp_mk_same hD, p1, abs_same]
  have par : fromQ X % 2 = mant (fromQ X) % 2 := by unfold mant; omega
  rw [par]
  rw [p2, magX] at hm1
  have hne := fun b hb => nearest (X.num.natAbs * 2 ^ K74) b hd hm1 hb
  rw [p2, magX]
  have hdq : fv (mant z) = fv (mag (X.num.natAbs * 2 ^ K74) X.den) → (ng z = neg_ X ∨ fv (mant z) = 0) → dq (fromQ X) = dq z := by
    intro h1 h2
    unfold dq
    rw [p1, p2, magX, ← h1]
    rcases h2 with h2 | h2
    · rw [h2]
    · rw [h2]
      unfold rq; rw [sI_zero, sI_zero]
  generalize X.num.natAbs * 2 ^ K74 = P at *
  generalize mag P X.den = m at *
  by_cases hs : neg_ X = ng z
  · rw [← hs, abs_same]
    obtain ⟨n1, n2⟩ := hne _ hm2
    by_cases hlt : dist P (fv m * X.den) < dist P (fv (mant z) * X.den)
    · rw [if_pos hlt]; exact ⟨by omega, .inl (by omega)⟩
    · have he : dist P (fv m * X.den) = dist P (fv (mant z) * X.den) := by omega
      rw [if_neg hlt, if_neg (by omega)]
      refine ⟨by omega, .inr ?_⟩
      rcases n2 he with h | h
      · exact .inl (hdq h (.inl hs.symm))
      · exact .inr h
  · rw [abs_other hs]
    obtain ⟨n1, n2⟩ := hne 0 (by rw [INF_lit]; omega)
    rw [fv_zero, Nat.zero_mul] at n1 n2
    have e0 : dist P 0 = P := by unfold dist; omega
    rw [e0] at n1 n2
    by_cases hlt : dist P (fv m * X.den) < P + fv (mant z) * X.den
    · rw [if_pos hlt]; exact ⟨by omega, .inl (by omega)⟩
    · have hz0 : fv (mant z) * X.den = 0 := by omega
      have he : dist P (fv m * X.den) = P := by omega
      have hz1 : fv (mant z) = 0 := by
        rcases Nat.mul_eq_zero.1 hz0 with h | h
        · exact h
        · omega
      rw [if_neg hlt, if_neg (by omega)]
      refine ⟨by omega, .inr ?_⟩
      rcases n2 he with h | h
      · exact .inl (hdq (by rw [hz1]; exact h) (.inr hz1))
      · exact .inr h
/-- where it is infinite -/
theorem infQ (X : Rat) (h : ¬ fld (fromQ X) < 2047) : 0 ≤ cmpQ (absQ X) (dq 9218868437227405311 + dq 8975674057349398528) := by
  have hK : 2 ^ K74 ≠ 0 := by have := Nat.two_pow_pos K74; omega
  obtain ⟨p1, p2⟩ := fromQ_parts X
  have hd : 0 < X.den := Nat.pos_of_ne_zero (den_ne X)
  have hle := mag_le (X.num.natAbs * 2 ^ K74) X.den
  have hm : mag (X.num.natAbs * 2 ^ K74) X.den = INF := by
    rw [← magX, ← p2]
    rw [← magX, ← p2] at hle
    have h2 := (mant_fld (fromQ X)).1
    have h3 := fld_lt (fromQ X)
    have h4 : mant (fromQ X) / B52 = 2047 := by omega
    have h5 := Nat.div_mul_le_self (mant (fromQ X)) B52
    rw [h4] at h5
    have h6 := INF_eq
    omega
  have hi := mag_inf hd hm
  have m1 : mant 9218868437227405311 = INF - 1 := by rw [INF_lit]; decide
  have m2 : mant 8975674057349398528 = 8975674057349398528 := by decide
  have s1 : ng 9218868437227405311 = false := by decide
  have s2 : ng 8975674057349398528 = false := by decide
  have hsum : dq 9218868437227405311 + dq 8975674057349398528 = mkRat ((fv (INF - 1) + fv 8975674057349398528 : Nat) : Int) (2 ^ K74) := by
    unfold dq rq
    rw [s1, s2, m1, m2, Rat.mkRat_add_mkRat _ _ hK hK]
    unfold sI
    rw [if_neg (by decide), if_neg (by decide), ← Int.add_mul, Rat.mkRat_mul_right hK]
    rw [Int.natCast_add]
  rw [hsum]
  generalize fv (INF - 1) + fv 8975674057349398528 = F at *
  unfold absQ rq sI
  rw [if_neg (by decide), mk_cmp (den_ne X) hK]
  have h9 : ¬ ((X.num.natAbs : Int) * ((2 ^ K74 : Nat) : Int) < (F : Int) * (X.den : Int)) := by
    have : (((F * X.den : Nat)) : Int) ≤ ((X.num.natAbs * 2 ^ K74 : Nat) : Int) := by omega
    rw [Int.natCast_mul, Int.natCast_mul] at this
    omega
  rw [if_neg h9]
  split <;> omega
/-- greater numbers have doubles that are not less -/
theorem magX_mono {X Y : Rat} (h : X.num.natAbs * Y.den ≤ Y.num.natAbs * X.den) : magR X.num.natAbs X.den 0 ≤ magR Y.num.natAbs Y.den 0 := by
  rw [magX, magX]
  refine mag_mono (Nat.pos_of_ne_zero (den_ne X)) (Nat.pos_of_ne_zero (den_ne Y)) ?_
  rw [Nat.mul_right_comm, Nat.mul_right_comm Y.num.natAbs]
  exact Nat.mul_le_mul_right _ h
theorem fromQ_mono {X Y : Rat} (h : X ≤ Y) : (neg_ X = true → neg_ Y = true → fromQ Y ≤ fromQ X) ∧ (neg_ X = false → neg_ Y = false ∧ fromQ X ≤ fromQ Y) := by
  rw [Rat.le_iff] at h
  have hx := den_ne X
  have hy := den_ne Y
  refine ⟨fun h1 h2 => ?_, fun h1 => ?_⟩
  · unfold neg_ at h1 h2
    rw [decide_eq_true_eq] at h1 h2
    have : magR Y.num.natAbs Y.den 0 ≤ magR X.num.natAbs X.den 0 := by
      apply magX_mono
      have e1 : X.num = -(X.num.natAbs : Int) := by omega
      have e2 : Y.num = -(Y.num.natAbs : Int) := by omega
      rw [e1, e2, Int.neg_mul, Int.neg_mul, ← Int.natCast_mul, ← Int.natCast_mul] at h
      omega
    unfold fromQ sg neg_
    rw [decide_eq_true h1, decide_eq_true h2]
    simp only [if_true]
    omega
  · unfold neg_ at h1
    rw [decide_eq_false_iff_not] at h1
    have e1 : X.num = (X.num.natAbs : Int) := by omega
    have h2 : 0 ≤ Y.num := by
      rcases Int.lt_or_le Y.num 0 with hl | hl
      · have a := Int.mul_neg_of_neg_of_pos hl (show 0 < (X.den : Int) by omega)
        have b := Int.mul_nonneg (show 0 ≤ X.num by omega) (show 0 ≤ (Y.den : Int) by omega)
        omega
      · exact hl
    have e2 : Y.num = (Y.num.natAbs : Int) := by omega
    have hn : neg_ Y = false := by unfold neg_; exact decide_eq_false (by omega)
    refine ⟨hn, ?_⟩
    have : magR X.num.natAbs X.den 0 ≤ magR Y.num.natAbs Y.den 0 := by
      apply magX_mono
      rw [e1, e2, ← Int.natCast_mul, ← Int.natCast_mul] at h
      omega
    have hnx : neg_ X = false := by unfold neg_; exact decide_eq_false h1
    unfold fromQ sg
    rw [hn, hnx]
    simp only [if_neg (show ¬ (false = true) by decide)]
    exact this

end Go.Proofs.YtmoahgiklgicgaaDoor

namespace Go.Proofs.YtmoahgiklgicgaaDoor
set_option maxRecDepth 100000
set_option linter.unusedVariables false
set_option linter.unusedSimpArgs false

/-- what has at most 53 bits is a double -/
theorem ex_any {x s : Nat} (hx : x < 2 * B52) (hs : s ≤ 2045) : Ex (x * 2 ^ s) 1 := by
  rcases Nat.eq_zero_or_pos x with rfl | h0
  · unfold Ex ulp
    rw [Nat.zero_mul, Nat.zero_div, Nat.zero_mod, blen_zero]
    exact ⟨rfl, rfl, by omega⟩
  · have hb := blen_le (n := x) (k := 53) (by rw [B52_pow] at hx; omega)
    have hl : blen (x * 2 ^ s) = blen x + s := blen_mul_pow h0 s
    unfold Ex ulp
    rw [Nat.mod_one, Nat.div_one, hl]
    exact ⟨rfl, dvd_pow_pow (by omega), by omega⟩
/-- a number that is a double, and its word -/
theorem ex_val {p : Nat} (h : Ex p 1) : fv (mag p 1) = p ∧ mag p 1 < INF := by
  obtain ⟨_, h2, h3⟩ := h
  rw [Nat.div_one] at h2 h3
  have hu : ulp p 1 ≤ 2045 := by unfold ulp; rw [Nat.div_one]; omega
  have hp : 0 < 2 ^ ulp p 1 := Nat.two_pow_pos _
  have hd : p / 2 ^ ulp p 1 * 2 ^ ulp p 1 = p := by have := Nat.div_add_mod' p (2 ^ ulp p 1); omega
  have hr : rdiv p (1 * 2 ^ ulp p 1) = p / 2 ^ ulp p 1 := by
    rw [Nat.one_mul]
    have := rdiv_exact (p / 2 ^ ulp p 1) hp
    rwa [hd] at this
  have hl : p / 2 ^ ulp p 1 < 2 * B52 := by
    rw [Nat.div_lt_iff_lt_mul hp]
    refine Nat.lt_of_lt_of_le (blen_lt p) ?_
    rw [B52_pow, ← Nat.pow_succ', ← Nat.pow_add]
    exact Nat.pow_le_pow_right (by omega) (by unfold ulp; rw [Nat.div_one]; omega)
  have h6 : mag p 1 ≤ ulp p 1 * B52 + rdiv p (1 * 2 ^ ulp p 1) := by unfold mag; exact Nat.min_le_left _ _
  have h4 : ulp p 1 * B52 ≤ 2045 * B52 := Nat.mul_le_mul_right _ hu
  have hm : mag p 1 < INF := by
    rw [INF_eq]
    rw [hr] at h6
    generalize ulp p 1 * B52 = a at *
    generalize p / 2 ^ ulp p 1 = b at *
    generalize mag p 1 = c at *
    generalize B52 = d at *
    omega
  refine ⟨?_, hm⟩
  rw [fv_mag p (by omega) hm, hr, hd]
theorem dist_comm (a b : Nat) : dist a b = dist b a := by unfold dist; omega
/-- the difference of two doubles, the greater one at most twice the other, is a double -/
theorem near_exact1 {a b : Nat} (ha : a < INF) (hb : b < INF) (h1 : fv b ≤ fv a) (h2 : fv a ≤ 2 * fv b) : Ex (dist (fv a) (fv b)) 1 := by
  obtain ⟨X, s, ea, x1, x2, x3, x4⟩ := fv_norm a
  obtain ⟨Y, t, eb, y1, y2, y3, y4⟩ := fv_norm b
  have hba : b ≤ a := by
    rcases Nat.lt_or_ge a b with hl | hl
    · have := fv_lt ha hb hl; omega
    · exact hl
  have hts : t ≤ s := by
    rcases Nat.lt_or_ge s t with hl | hl
    · exfalso
      have : (s + 1) * B52 ≤ t * B52 := Nat.mul_le_mul_right _ hl
      rw [Nat.add_mul, Nat.one_mul] at this
      rcases y2 with y2 | y2
      · omega
      · omega
    · exact hl
  have e : dist (fv a) (fv b) = (X * 2 ^ (s - t) - Y) * 2 ^ t := by
    have e1 : X * 2 ^ s = X * 2 ^ (s - t) * 2 ^ t := by rw [Nat.mul_assoc, ← Nat.pow_add]; congr 2; omega
    rw [Nat.sub_mul, ← e1, ← ea, ← eb]
    unfold dist; omega
  have hD : X * 2 ^ (s - t) - Y < 2 * B52 := by
    have hp : 0 < 2 ^ t := Nat.two_pow_pos t
    have h3 : (X * 2 ^ (s - t) - Y) * 2 ^ t ≤ Y * 2 ^ t := by
      rw [← e, ← eb]; unfold dist; omega
    have := Nat.le_of_mul_le_mul_right h3 hp
    omega
  rw [e]
  exact ex_any hD (y4 hb)
theorem near_exact {a b : Nat} (ha : a < INF) (hb : b < INF) (h1 : fv a ≤ 2 * fv b) (h2 : fv b ≤ 2 * fv a) : Ex (dist (fv a) (fv b)) 1 := by
  rcases Nat.le_total (fv b) (fv a) with h | h
  · exact near_exact1 ha hb h h1
  · rw [dist_comm]; exact near_exact1 hb ha h h2

/-- less than half a unit off -/
theorem rdiv_close {p d X : Nat} (hd : 0 < d) (h1 : 2 * X * d < 2 * p + d) (h2 : 2 * p < 2 * X * d + d) : rdiv p d = X := by
  obtain ⟨a1, a2, _, _⟩ := rdiv_spec p hd
  generalize rdiv p d = R at *
  have e1 : (2 * R + 1) * d = 2 * (R * d) + d := by grind
  have e2 : 2 * R * d = 2 * (R * d) := by grind
  have e3 : 2 * X * d = 2 * (X * d) := by grind
  rw [e1] at a1
  rw [e2] at a2
  rw [e3] at h1 h2
  rcases Nat.lt_trichotomy R X with hl | hl | hl
  · exfalso
    have : (R + 1) * d ≤ X * d := Nat.mul_le_mul_right _ hl
    rw [Nat.add_mul, Nat.one_mul] at this
    omega
  · exact hl
  · exfalso
    have : (X + 1) * d ≤ R * d := Nat.mul_le_mul_right _ hl
    rw [Nat.add_mul, Nat.one_mul] at this
    omega
/-- a number p / q that is less than half of 2^h off from X * 2^h, X of 53 bits -/
theorem magR_close {p q X h : Nat} {e : Int} (hq : 0 < q) (hX1 : B52 ≤ X) (hX2 : X < 2 * B52) (hb : blen (p / q) = 53 + h) (he : -1074 ≤ e + h)
    (h1 : 2 * X * (q * 2 ^ h) < 2 * p + q * 2 ^ h) (h2 : 2 * p < 2 * X * (q * 2 ^ h) + q * 2 ^ h) : magR p q e = magR X 1 (e + h) := by
  have h0 : 0 < p / q := by
    rcases Nat.eq_zero_or_pos (p / q) with h | h
    · rw [h, blen_zero] at hb; omega
    · exact h
  have hu := ulpR e h0
  rw [hb] at hu
  obtain ⟨u, eu⟩ : ∃ u : Nat, e + h + 1074 = u := ⟨(e + h + 1074).toNat, by omega⟩
  have hu2 : ulp (p * 2 ^ up e) (q * 2 ^ dn e) = u := by omega
  have hd := up_dn e
  rw [(magR_at (m := X) (e := e + h) (s := u) eu).1, mag_norm hX2 (.inl hX1)]
  unfold magR mag
  rw [hu2]
  have e1 : q * 2 ^ dn e * 2 ^ u = q * 2 ^ h * 2 ^ up e := by
    rw [Nat.mul_assoc, ← Nat.pow_add, Nat.mul_assoc, ← Nat.pow_add]; congr 2; omega
  rw [e1, rdiv_scale _ _ (Nat.two_pow_pos _), rdiv_close (Nat.mul_pos hq (Nat.two_pow_pos h)) h1 h2]
/-- the rounded square of a significand: less than X off, and of the same size -/
theorem square_close {X k R : Nat} (hX1 : B52 ≤ X) (hX2 : X < 2 * B52) (hk : k = blen (X * X) - 53) (hR : R = rdiv (X * X) (2 ^ k)) :
    X * X + 1 ≤ R * 2 ^ k + X ∧ R * 2 ^ k ≤ X * X + X ∧ B52 * B52 ≤ R * 2 ^ k ∧ R * 2 ^ k < 4 * (B52 * B52) := by
  have hsq1 : B52 * B52 ≤ X * X := Nat.mul_le_mul hX1 hX1
  have hsq2 : X * X ≤ (2 * B52 - 1) * (2 * B52 - 1) := Nat.mul_le_mul (by omega) (by omega)
  have hBB : B52 * B52 = 2 ^ 104 := by rw [B52_pow, ← Nat.pow_add]
  have hb1 : 105 ≤ blen (X * X) := blen_ge (k := 104) (by omega)
  have e9 : (2 * B52 - 1) * (2 * B52 - 1) + 4 * B52 = 4 * (B52 * B52) + 1 := by
    obtain ⟨c, hc⟩ : ∃ c, B52 = c + 1 := ⟨B52 - 1, by have := B52_pos; omega⟩
    rw [hc, show 2 * (c + 1) - 1 = 2 * c + 1 by omega]; grind
  have hB := B52_pos
  have hb2 : blen (X * X) ≤ 106 := blen_le (by rw [show (2 : Nat) ^ 106 = 4 * 2 ^ 104 by decide, ← hBB]; omega)
  have hp : 0 < 2 ^ k := Nat.two_pow_pos k
  obtain ⟨a1, a2, _, _⟩ := rdiv_spec (X * X) hp
  rw [← hR] at a1 a2
  have e1 : (2 * R + 1) * 2 ^ k = 2 * (R * 2 ^ k) + 2 ^ k := by grind
  have e2 : 2 * R * 2 ^ k = 2 * (R * 2 ^ k) := by grind
  rw [e1] at a1
  rw [e2] at a2
  -- half a unit is at most X - 1
  have hhalf : 2 ^ k ≤ 2 * (X - 1) ∨ R * 2 ^ k = X * X := by
    rcases (show k = 52 ∨ k = 53 by omega) with h | h
    · left
      rw [h, show (2 : Nat) ^ 52 = B52 from B52_pow.symm]
      have : 2 ≤ B52 := by rw [B52_eq]; omega
      omega
    · rcases Nat.lt_or_ge B52 X with hl | hl
      · left
        rw [h, show (2 : Nat) ^ 53 = 2 * B52 by rw [B52_eq]]
        omega
      · exfalso
        have : X = B52 := by omega
        subst this
        rw [hBB, show blen (2 ^ 104) = 105 from blen_unique (by decide) (Nat.le_refl _)] at hk
        omega
  have hlow : B52 * B52 ≤ R * 2 ^ k := by
    have hm := rdiv_mono1 (d := 2 ^ k) hp hsq1
    have hdv : ∃ j, B52 * B52 = j * 2 ^ k := ⟨2 ^ (104 - k), by rw [hBB, ← Nat.pow_add]; congr 1; omega⟩
    obtain ⟨j, hj⟩ := hdv
    rw [hj, rdiv_exact j hp, ← hR] at hm
    rw [hj]
    exact Nat.mul_le_mul_right _ hm
  have hk2 : 2 ^ k ≤ 2 * B52 := by
    have : 2 ^ k ≤ 2 ^ 53 := Nat.pow_le_pow_right (by omega) (by omega)
    rw [show (2 : Nat) ^ 53 = 2 * B52 by rw [B52_eq]] at this
    exact this
  generalize R * 2 ^ k = S at *
  generalize 2 ^ k = K at *
  generalize X * X = Q at *
  generalize B52 * B52 = C at *
  refine ⟨?_, ?_, hlow, ?_⟩
  · rcases hhalf with h | h <;> omega
  · rcases hhalf with h | h <;> omega
  · omega
/-- the root r of S * 4^h, S less than X off from X * X -/
theorem root_close {X S h r : Nat} {e : Int} (hX1 : B52 ≤ X) (hX2 : X < 2 * B52) (hS1 : X * X + 1 ≤ S + X) (hS2 : S ≤ X * X + X) (hS3 : B52 * B52 ≤ S) (hS4 : S < 4 * (B52 * B52))
    (hh : 1 ≤ h) (hr1 : r * r ≤ S * 2 ^ (2 * h)) (hr2 : S * 2 ^ (2 * h) < (r + 1) * (r + 1)) (he : -1074 ≤ e + h) :
    (r * r = S * 2 ^ (2 * h) → magR r 1 e = magR X 1 (e + h)) ∧ (r * r ≠ S * 2 ^ (2 * h) → magR (2 * r + 1) 1 (e - 1) = magR X 1 (e + h)) := by
  obtain ⟨g, rfl⟩ : ∃ g, h = g + 1 := ⟨h - 1, by omega⟩
  have hp : 0 < 2 ^ g := Nat.two_pow_pos g
  have e1 : S * 2 ^ (2 * (g + 1)) = 4 * S * (2 ^ g * 2 ^ g) := by
    rw [show 2 * (g + 1) = g + g + 2 by omega, Nat.pow_add, Nat.pow_add]; grind
  have hB := B52_pos
  rw [e1] at hr1 hr2
  -- 4 S lies strictly between the squares of 2 X - 1 and 2 X + 1
  have c1 : (2 * X - 1) * (2 * X - 1) < 4 * S := by
    obtain ⟨c, hc⟩ : ∃ c, X = c + 1 := ⟨X - 1, by omega⟩
    subst hc
    have : (2 * (c + 1) - 1) * (2 * (c + 1) - 1) + 4 * (c + 1) = 4 * ((c + 1) * (c + 1)) + 1 := by
      rw [show 2 * (c + 1) - 1 = 2 * c + 1 by omega]; grind
    omega
  have c2 : 4 * S < (2 * X + 1) * (2 * X + 1) := by
    have : (2 * X + 1) * (2 * X + 1) = 4 * (X * X) + 4 * X + 1 := by grind
    omega
  -- so r does between (2 X - 1) 2^g and (2 X + 1) 2^g
  have r1 : (2 * X - 1) * 2 ^ g ≤ r := by
    rcases Nat.lt_or_ge r ((2 * X - 1) * 2 ^ g) with hl | hl
    · exfalso
      have : (r + 1) * (r + 1) ≤ (2 * X - 1) * 2 ^ g * ((2 * X - 1) * 2 ^ g) := Nat.mul_le_mul hl hl
      have e2 : (2 * X - 1) * 2 ^ g * ((2 * X - 1) * 2 ^ g) = (2 * X - 1) * (2 * X - 1) * (2 ^ g * 2 ^ g) := by grind
      have e3 : (2 * X - 1) * (2 * X - 1) * (2 ^ g * 2 ^ g) ≤ 4 * S * (2 ^ g * 2 ^ g) := Nat.mul_le_mul_right _ (by omega)
      omega
    · exact hl
  have r2 : r < (2 * X + 1) * 2 ^ g := by
    rcases Nat.lt_or_ge r ((2 * X + 1) * 2 ^ g) with hl | hl
    · exact hl
    · exfalso
      have : (2 * X + 1) * 2 ^ g * ((2 * X + 1) * 2 ^ g) ≤ r * r := Nat.mul_le_mul hl hl
      have e2 : (2 * X + 1) * 2 ^ g * ((2 * X + 1) * 2 ^ g) = (2 * X + 1) * (2 * X + 1) * (2 ^ g * 2 ^ g) := by grind
      have e3 : 4 * S * (2 ^ g * 2 ^ g) < (2 * X + 1) * (2 * X + 1) * (2 ^ g * 2 ^ g) := Nat.mul_lt_mul_of_pos_right c2 (Nat.mul_pos hp hp)
      omega
  have r3 : r * r = 4 * S * (2 ^ g * 2 ^ g) → (2 * X - 1) * 2 ^ g < r := by
    intro hx
    rcases Nat.lt_or_eq_of_le r1 with hl | hl
    · exact hl
    · exfalso
      rw [← hl] at hx
      have e2 : (2 * X - 1) * 2 ^ g * ((2 * X - 1) * 2 ^ g) = (2 * X - 1) * (2 * X - 1) * (2 ^ g * 2 ^ g) := by grind
      have e3 : (2 * X - 1) * (2 * X - 1) * (2 ^ g * 2 ^ g) < 4 * S * (2 ^ g * 2 ^ g) := Nat.mul_lt_mul_of_pos_right c1 (Nat.mul_pos hp hp)
      omega
  -- the bits of r
  have b1 : B52 * 2 ^ (g + 1) ≤ r := by
    rcases Nat.lt_or_ge r (B52 * 2 ^ (g + 1)) with hl | hl
    · exfalso
      have : (r + 1) * (r + 1) ≤ B52 * 2 ^ (g + 1) * (B52 * 2 ^ (g + 1)) := Nat.mul_le_mul hl hl
      have e2 : B52 * 2 ^ (g + 1) * (B52 * 2 ^ (g + 1)) = 4 * (B52 * B52) * (2 ^ g * 2 ^ g) := by rw [Nat.pow_succ]; grind
      have e3 : 4 * (B52 * B52) * (2 ^ g * 2 ^ g) ≤ 4 * S * (2 ^ g * 2 ^ g) := Nat.mul_le_mul_right _ (by omega)
      omega
    · exact hl
  have b2 : r < 2 * B52 * 2 ^ (g + 1) := by
    rcases Nat.lt_or_ge r (2 * B52 * 2 ^ (g + 1)) with hl | hl
    · exact hl
    · exfalso
      have : 2 * B52 * 2 ^ (g + 1) * (2 * B52 * 2 ^ (g + 1)) ≤ r * r := Nat.mul_le_mul hl hl
      have e2 : 2 * B52 * 2 ^ (g + 1) * (2 * B52 * 2 ^ (g + 1)) = 4 * (4 * (B52 * B52)) * (2 ^ g * 2 ^ g) := by rw [Nat.pow_succ]; grind
      have e3 : 4 * S * (2 ^ g * 2 ^ g) < 4 * (4 * (B52 * B52)) * (2 ^ g * 2 ^ g) := Nat.mul_lt_mul_of_pos_right (by omega) (Nat.mul_pos hp hp)
      omega
  have hb : blen r = 53 + (g + 1) := by
    rw [show 53 + (g + 1) = (52 + (g + 1)) + 1 by omega]
    apply blen_unique
    · rw [show 52 + (g + 1) + 1 = 53 + (g + 1) by omega, Nat.pow_add, show (2 : Nat) ^ 53 = 2 * B52 by rw [B52_eq]]; exact b2
    · rw [Nat.pow_add, show (2 : Nat) ^ 52 = B52 from B52_pow.symm]; exact b1
  have e5 : (2 * X - 1) * 2 ^ g + 2 ^ g = 2 * (X * 2 ^ g) := by
    obtain ⟨c, hc⟩ : ∃ c, X = c + 1 := ⟨X - 1, by omega⟩
    rw [hc, show 2 * (c + 1) - 1 = 2 * c + 1 by omega]; grind
  have e6 : (2 * X + 1) * 2 ^ g = 2 * (X * 2 ^ g) + 2 ^ g := by grind
  have e7 : 2 * X * (1 * 2 ^ (g + 1)) = 4 * (X * 2 ^ g) := by rw [Nat.pow_succ]; grind
  have e8 : 2 * X * (2 * 2 ^ (g + 1)) = 8 * (X * 2 ^ g) := by rw [Nat.pow_succ]; grind
  have e9 : 2 ^ (g + 1) = 2 * 2 ^ g := by rw [Nat.pow_succ]; omega
  rw [e1]
  refine ⟨fun hx => ?_, fun hx => ?_⟩
  · have h3 := r3 hx
    refine magR_close (p := r) (q := 1) (by omega) hX1 hX2 (by rw [Nat.div_one]; exact hb) he ?_ ?_
    · rw [e7, e9]; omega
    · rw [e7, e9]; omega
  · rw [← magR_two]
    refine magR_close (p := 2 * r + 1) (q := 2) (by omega) hX1 hX2 (by rw [show (2 * r + 1) / 2 = r by omega]; exact hb) he ?_ ?_
    · rw [e8, e9]; omega
    · rw [e8, e9]; omega

end Go.Proofs.YtmoahgiklgicgaaDoor
