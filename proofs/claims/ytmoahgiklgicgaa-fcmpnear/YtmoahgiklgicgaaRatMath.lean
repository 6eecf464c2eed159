/-
  Plain mathematics of exact numbers: a sign and two naturals as a number of Lean's own Rat; sums, products, quotients, the order. No Go function in sight.
-/
import Derived.Test.YtmoahgiklgicgaaProdMath
import Derived.Test.YtmoahgiklgicgaaGcdMath
namespace Go.Proofs.Ytmoahgiklgicgaa
set_option maxRecDepth 100000
set_option linter.unusedVariables false
set_option linter.unusedSimpArgs false

/-- a natural with a sign -/
def sI (s : Bool) (p : Nat) : Int := if s then -(p : Int) else p
/-- the number of a sign and two naturals -/
def rq (s : Bool) (p q : Nat) : Rat := mkRat (sI s p) q
def neg_ (X : Rat) : Bool := decide (X.num < 0)

theorem sI_natAbs (s : Bool) (p : Nat) : (sI s p).natAbs = p := by unfold sI; cases s <;> simp
theorem sI_zero (s : Bool) : sI s 0 = 0 := by unfold sI; cases s <;> simp
theorem sI_neg (s : Bool) (p : Nat) : decide (sI s p < 0) = (s && decide (p ≠ 0)) := by
  unfold sI; cases s
  · simp
  · rw [Bool.eq_iff_iff]; simp only [if_true, decide_eq_true_eq, Bool.true_and]; omega
theorem sI_not (s : Bool) (p : Nat) : sI (!s) p = - sI s p := by unfold sI; cases s <;> simp
theorem sI_num (X : Rat) : sI (neg_ X) X.num.natAbs = X.num := by
  unfold sI neg_
  by_cases h : X.num < 0
  · simp [h]; omega
  · simp [h]; omega
theorem sI_mul (s t : Bool) (p q : Nat) : sI (s != t) (p * q) = sI s p * sI t q := by
  unfold sI; cases s <;> cases t <;> simp [Int.neg_mul, Int.mul_neg]
theorem sI_mul_nat (s : Bool) (p q : Nat) : sI s (p * q) = sI s p * q := by
  unfold sI; cases s <;> simp [Int.neg_mul]
theorem neg_zero_ (X : Rat) (h : X.num.natAbs = 0) : neg_ X = false := by unfold neg_; exact decide_eq_false (by omega)

/-- in lowest terms -/
theorem rq_cop {s : Bool} {p q : Nat} (h0 : q ≠ 0) (h : Nat.gcd p q = 1) : (rq s p q).num = sI s p ∧ (rq s p q).den = q := by
  unfold rq
  rw [Rat.num_mkRat, Rat.den_mkRat, if_neg h0, if_neg h0, sI_natAbs, Nat.gcd_comm, h]
  simp
theorem rq_red (s : Bool) (p q : Nat) (h0 : q ≠ 0) : rq s p q = rq s (p / Nat.gcd p q) (q / Nat.gcd p q) := by
  have hg : Nat.gcd p q ≠ 0 := fun e => h0 (Nat.eq_zero_of_gcd_eq_zero_right e)
  have h1 : p / Nat.gcd p q * Nat.gcd p q = p := Nat.div_mul_cancel (Nat.gcd_dvd_left p q)
  have h2 : q / Nat.gcd p q * Nat.gcd p q = q := Nat.div_mul_cancel (Nat.gcd_dvd_right p q)
  unfold rq
  have h3 := Rat.mkRat_mul_right (n := sI s (p / Nat.gcd p q)) (d := q / Nat.gcd p q) hg
  rw [← sI_mul_nat, h1, h2] at h3
  exact h3
theorem rq_num (s : Bool) (p q : Nat) (h0 : q ≠ 0) : (rq s p q).num.natAbs = p / Nat.gcd p q ∧ (rq s p q).den = q / Nat.gcd p q ∧ neg_ (rq s p q) = (s && decide (p / Nat.gcd p q ≠ 0)) := by
  have hg : 0 < Nat.gcd p q := Nat.pos_of_ne_zero fun e => h0 (Nat.eq_zero_of_gcd_eq_zero_right e)
  have hq : q / Nat.gcd p q ≠ 0 := by
    have := Nat.div_pos (Nat.le_of_dvd (Nat.pos_of_ne_zero h0) (Nat.gcd_dvd_right p q)) hg
    omega
  have hc : Nat.gcd (p / Nat.gcd p q) (q / Nat.gcd p q) = 1 := Nat.gcd_div_gcd_div_gcd_of_pos_right (Nat.pos_of_ne_zero h0)
  obtain ⟨h1, h2⟩ := rq_cop (s := s) hq hc
  rw [← rq_red s p q h0] at h1 h2
  refine ⟨by rw [h1, sI_natAbs], h2, ?_⟩
  unfold neg_
  rw [h1, sI_neg]
theorem rq_cop' {s : Bool} {p q : Nat} (h0 : q ≠ 0) (h : Nat.gcd p q = 1) : (rq s p q).num.natAbs = p ∧ (rq s p q).den = q ∧ neg_ (rq s p q) = (s && decide (p ≠ 0)) := by
  obtain ⟨h1, h2⟩ := rq_cop (s := s) h0 h
  refine ⟨by rw [h1, sI_natAbs], h2, ?_⟩
  unfold neg_; rw [h1, sI_neg]
theorem rq_self (X : Rat) : rq (neg_ X) X.num.natAbs X.den = X := by unfold rq; rw [sI_num, Rat.mkRat_self]
theorem den_ne (X : Rat) : X.den ≠ 0 := X.den_nz
theorem gcd_num_den (X : Rat) : Nat.gcd X.num.natAbs X.den = 1 := X.reduced
theorem rat_ext {X Y : Rat} (h1 : neg_ X = neg_ Y) (h2 : X.num.natAbs = Y.num.natAbs) (h3 : X.den = Y.den) : X = Y := by
  rw [← rq_self X, ← rq_self Y, h1, h2, h3]

/-- both numbers have at most N words -/
def Sz (X : Rat) (N : Nat) : Prop := X.num.natAbs < W ^ N ∧ X.den < W ^ N
theorem Sz.mono {X : Rat} {N M : Nat} (h : Sz X N) (hm : N ≤ M) : Sz X M :=
  ⟨Nat.lt_of_lt_of_le h.1 (Nat.pow_le_pow_right W_pos hm), Nat.lt_of_lt_of_le h.2 (Nat.pow_le_pow_right W_pos hm)⟩
theorem Sz.neg {X : Rat} {N : Nat} (h : Sz X N) : Sz (-X) N := by
  refine ⟨?_, h.2⟩
  rw [Rat.neg_num, Int.natAbs_neg]; exact h.1
theorem rq_sz {s : Bool} {p q N : Nat} (h0 : q ≠ 0) (hp : p < W ^ N) (hq : q < W ^ N) : Sz (rq s p q) N := by
  obtain ⟨h1, h2, _⟩ := rq_num s p q h0
  refine ⟨?_, ?_⟩
  · rw [h1]; exact Nat.lt_of_le_of_lt (Nat.div_le_self _ _) hp
  · rw [h2]; exact Nat.lt_of_le_of_lt (Nat.div_le_self _ _) hq
theorem two_pow_W (k : Nat) : 2 * W ^ k ≤ W ^ (k + 1) := by
  rw [Nat.pow_succ, Nat.mul_comm]; exact Nat.mul_le_mul_left _ (by unfold W; omega)
theorem mk_rq (z : Int) (q : Nat) : ∃ s, rq s z.natAbs q = mkRat z q := by
  refine ⟨decide (z < 0), ?_⟩
  unfold rq sI
  by_cases h : z < 0
  · simp [h]; congr 1; omega
  · simp [h]; congr 1; omega
theorem mk_sz {z : Int} {q N : Nat} (h0 : q ≠ 0) (hp : z.natAbs < W ^ N) (hq : q < W ^ N) : Sz (mkRat z q) N := by
  obtain ⟨s, h⟩ := mk_rq z q
  rw [← h]; exact rq_sz h0 hp hq
theorem Sz.add {X Y : Rat} {N M : Nat} (h : Sz X N) (k : Sz Y M) : Sz (X + Y) (N + M + 1) := by
  rw [Rat.add_def']
  have a1 := mul_lt_powW h.1 k.2
  have a2 := mul_lt_powW k.1 h.2
  have a3 := mul_lt_powW h.2 k.2
  have e : W ^ (M + N) = W ^ (N + M) := by rw [Nat.add_comm]
  rw [e] at a2
  have t := two_pow_W (N + M)
  refine mk_sz (Nat.mul_ne_zero (den_ne _) (den_ne _)) ?_ (by omega)
  have := Int.natAbs_add_le (X.num * Y.den) (Y.num * X.den)
  rw [Int.natAbs_mul, Int.natAbs_mul, Int.natAbs_natCast, Int.natAbs_natCast] at this
  omega
theorem Sz.mul {X Y : Rat} {N M : Nat} (h : Sz X N) (k : Sz Y M) : Sz (X * Y) (N + M) := by
  rw [Rat.mul_def']
  refine mk_sz (Nat.mul_ne_zero (den_ne _) (den_ne _)) ?_ (mul_lt_powW h.2 k.2)
  rw [Int.natAbs_mul]
  exact mul_lt_powW h.1 k.1
theorem Sz.sub {X Y : Rat} {N M : Nat} (h : Sz X N) (k : Sz Y M) : Sz (X - Y) (N + M + 1) := by
  rw [Rat.sub_eq_add_neg]; exact h.add k.neg
theorem Sz.pos {X : Rat} {N : Nat} (h : Sz X N) : 1 < W ^ N := by
  have := h.2; have := den_ne X; omega
theorem Sz.inv {X : Rat} {N : Nat} (h : Sz X N) : Sz X⁻¹ N := by
  refine ⟨?_, ?_⟩
  · rw [Rat.num_inv, Int.natAbs_mul, Int.natAbs_natCast]
    have h2 := h.2
    have : X.num.sign.natAbs ≤ 1 := by rw [Int.natAbs_sign]; split <;> omega
    exact Nat.lt_of_le_of_lt (Nat.mul_le_mul_right _ this) (by omega)
  · rw [Rat.den_inv]; split
    · exact h.pos
    · exact h.1

/-- the sum, over the common denominator -/
theorem add_rq (X Y : Rat) {s : Bool} {m : Nat} (h : sI s m = X.num * ((Y.den / Nat.gcd X.den Y.den : Nat) : Int) + Y.num * ((X.den / Nat.gcd X.den Y.den : Nat) : Int)) :
    rq s m (X.den * (Y.den / Nat.gcd X.den Y.den)) = X + Y := by
  have hg : Nat.gcd X.den Y.den ≠ 0 := fun e => den_ne X (Nat.eq_zero_of_gcd_eq_zero_left e)
  have h1 : X.den / Nat.gcd X.den Y.den * Nat.gcd X.den Y.den = X.den := Nat.div_mul_cancel (Nat.gcd_dvd_left _ _)
  have h2 : Y.den / Nat.gcd X.den Y.den * Nat.gcd X.den Y.den = Y.den := Nat.div_mul_cancel (Nat.gcd_dvd_right _ _)
  rw [Rat.add_def']
  unfold rq
  rw [h, ← Rat.mkRat_mul_right hg, Int.add_mul, Int.mul_assoc, Int.mul_assoc, ← Int.natCast_mul, ← Int.natCast_mul, h1, h2, Nat.mul_assoc, h2]
theorem add_den_ne (X Y : Rat) : X.den * (Y.den / Nat.gcd X.den Y.den) ≠ 0 := by
  have h2 : Y.den / Nat.gcd X.den Y.den * Nat.gcd X.den Y.den = Y.den := Nat.div_mul_cancel (Nat.gcd_dvd_right _ _)
  refine Nat.mul_ne_zero (den_ne X) fun e => ?_
  rw [e, Nat.zero_mul] at h2
  exact den_ne Y h2.symm
/-- the sum, over the product of the denominators -/
theorem add_rq' (X Y : Rat) {s : Bool} {m : Nat} (h : sI s m = X.num * Y.den + Y.num * X.den) : rq s m (X.den * Y.den) = X + Y := by
  rw [Rat.add_def']; unfold rq; rw [h]
/-- sums with signs -/
theorem sI_add_same (s : Bool) (a b : Nat) : sI s (a + b) = sI s a + sI s b := by unfold sI; cases s <;> simp; omega
theorem sI_add_left {s t : Bool} {a b : Nat} (h : s ≠ t) (hle : b ≤ a) : sI s (a - b) = sI s a + sI t b := by
  unfold sI; cases s <;> cases t <;> simp at h ⊢ <;> omega
theorem sI_add_right {s t : Bool} {a b : Nat} (h : s ≠ t) (hle : a ≤ b) : sI t (b - a) = sI s a + sI t b := by
  unfold sI; cases s <;> cases t <;> simp at h ⊢ <;> omega
theorem neg_rq (X : Rat) : rq (!(neg_ X)) X.num.natAbs X.den = -X := by
  unfold rq; rw [sI_not, sI_num, ← Rat.neg_mkRat, Rat.mkRat_self]

/-- the product, reduced crosswise -/
theorem mul_rq (X Y : Rat) (s : Bool) (hs : s = (neg_ X != neg_ Y)) (a b c d : Nat) (ha : a = X.num.natAbs / Nat.gcd X.num.natAbs Y.den) (hb : b = Y.den / Nat.gcd X.num.natAbs Y.den)
    (hc : c = Y.num.natAbs / Nat.gcd Y.num.natAbs X.den) (hd : d = X.den / Nat.gcd Y.num.natAbs X.den) :
    rq s (a * c) (d * b) = X * Y ∧ d * b ≠ 0 ∧ Nat.gcd (a * c) (d * b) = 1 := by
  have hg1 : Nat.gcd X.num.natAbs Y.den ≠ 0 := fun e => den_ne Y (Nat.eq_zero_of_gcd_eq_zero_right e)
  have hg2 : Nat.gcd Y.num.natAbs X.den ≠ 0 := fun e => den_ne X (Nat.eq_zero_of_gcd_eq_zero_right e)
  have h1 : a * Nat.gcd X.num.natAbs Y.den = X.num.natAbs := by rw [ha]; exact Nat.div_mul_cancel (Nat.gcd_dvd_left _ _)
  have h2 : b * Nat.gcd X.num.natAbs Y.den = Y.den := by rw [hb]; exact Nat.div_mul_cancel (Nat.gcd_dvd_right _ _)
  have h3 : c * Nat.gcd Y.num.natAbs X.den = Y.num.natAbs := by rw [hc]; exact Nat.div_mul_cancel (Nat.gcd_dvd_left _ _)
  have h4 : d * Nat.gcd Y.num.natAbs X.den = X.den := by rw [hd]; exact Nat.div_mul_cancel (Nat.gcd_dvd_right _ _)
  have c1 : Nat.Coprime a b := by
    rw [ha, hb]; exact Nat.gcd_div_gcd_div_gcd_of_pos_right (Nat.pos_of_ne_zero (den_ne Y))
  have c2 : Nat.Coprime c d := by
    rw [hc, hd]; exact Nat.gcd_div_gcd_div_gcd_of_pos_right (Nat.pos_of_ne_zero (den_ne X))
  have c3 : Nat.Coprime a d := Nat.Coprime.coprime_dvd_left ⟨_, h1.symm⟩ (Nat.Coprime.coprime_dvd_right ⟨_, h4.symm⟩ X.reduced)
  have c4 : Nat.Coprime c b := Nat.Coprime.coprime_dvd_left ⟨_, h3.symm⟩ (Nat.Coprime.coprime_dvd_right ⟨_, h2.symm⟩ Y.reduced)
  generalize Nat.gcd X.num.natAbs Y.den = g1 at *
  generalize Nat.gcd Y.num.natAbs X.den = g2 at *
  refine ⟨?_, ?_, ?_⟩
  · rw [Rat.mul_def']
    unfold rq
    have hg : g1 * g2 ≠ 0 := Nat.mul_ne_zero hg1 hg2
    rw [← Rat.mkRat_mul_right hg, hs, ← sI_mul_nat]
    have e1 : a * c * (g1 * g2) = X.num.natAbs * Y.num.natAbs := by rw [← h1, ← h3, Nat.mul_mul_mul_comm]
    have e2 : d * b * (g1 * g2) = X.den * Y.den := by
      rw [← h4, ← h2, Nat.mul_comm g1 g2, Nat.mul_mul_mul_comm]
    rw [e1, e2, sI_mul, sI_num, sI_num]
  · refine Nat.mul_ne_zero (fun e => ?_) (fun e => ?_)
    · rw [e, Nat.zero_mul] at h4; exact den_ne X h4.symm
    · rw [e, Nat.zero_mul] at h2; exact den_ne Y h2.symm
  · exact Nat.Coprime.mul_right (Nat.Coprime.mul_left c3 c2) (Nat.Coprime.mul_left c1 c4)
theorem mul_rq' (X Y : Rat) : rq (neg_ X != neg_ Y) (X.num.natAbs * Y.num.natAbs) (X.den * Y.den) = X * Y := by
  rw [Rat.mul_def']; unfold rq; rw [sI_mul, sI_num, sI_num]
theorem num_ne {X : Rat} (h : X ≠ 0) : X.num ≠ 0 := fun e => h (Rat.num_eq_zero.1 e)
theorem inv_rq (X : Rat) (h : X ≠ 0) : rq (neg_ X) X.den X.num.natAbs = X⁻¹ := by
  have h0 := num_ne h
  have hc : Nat.gcd X.den X.num.natAbs = 1 := by rw [Nat.gcd_comm]; exact X.reduced
  obtain ⟨h1, h2⟩ := rq_cop (s := neg_ X) (p := X.den) (q := X.num.natAbs) (by omega) hc
  refine Rat.ext ?_ ?_
  · rw [h1, Rat.num_inv]
    unfold sI neg_
    by_cases hn : X.num < 0
    · rw [Int.sign_eq_neg_one_of_neg hn]; simp [hn]
    · rw [Int.sign_eq_one_of_pos (by omega)]; simp [hn]
  · rw [h2, Rat.den_inv, if_neg h0]
theorem div_rq (X Y : Rat) (h : Y ≠ 0) : rq (neg_ X != neg_ Y) (X.num.natAbs * Y.den) (X.den * Y.num.natAbs) = X / Y := by
  rw [Rat.div_def, ← mul_rq', ← inv_rq Y h]
  have h0 := num_ne h
  have hc : Nat.gcd Y.den Y.num.natAbs = 1 := by rw [Nat.gcd_comm]; exact Y.reduced
  obtain ⟨h1, h2, h3⟩ := rq_cop' (s := neg_ Y) (p := Y.den) (q := Y.num.natAbs) (by omega) hc
  rw [h1, h2, h3, decide_eq_true (den_ne Y), Bool.and_true]
theorem rat_zero_iff (X : Rat) : X = 0 ↔ X.num.natAbs = 0 := by
  rw [← Rat.num_eq_zero]; omega

/-- -1, 0 or 1 -/
def sgnQ (X : Rat) : Int := if X.num < 0 then -1 else if 0 < X.num then 1 else 0
def cmpQ (X Y : Rat) : Int := if X < Y then -1 else if Y < X then 1 else 0
theorem sgnQ_sub (X Y : Rat) : sgnQ (X - Y) = cmpQ X Y := by
  have h : ∀ Z : Rat, sgnQ Z = cmpQ Z 0 := by
    intro Z
    unfold sgnQ cmpQ
    simp only [Rat.lt_iff]; simp
  rw [h]
  unfold cmpQ
  have h1 : X - Y < 0 ↔ X < Y := by rw [Rat.sub_lt_iff, Rat.zero_add]
  have h2 : 0 < X - Y ↔ Y < X := by rw [← Rat.lt_iff_sub_pos]
  simp only [h1, h2]
theorem cmpN_sign (a b : Nat) : cmpN a b = if (a : Int) < b then -1 else if (b : Int) < a then 1 else 0 := by unfold cmpN; simp
theorem cmpQ_same (X Y : Rat) (h : sgnQ X = sgnQ Y) : sgnQ X * cmpN (X.num.natAbs * Y.den) (Y.num.natAbs * X.den) = cmpQ X Y := by
  rw [cmpN_sign, Int.natCast_mul, Int.natCast_mul]
  unfold cmpQ
  simp only [Rat.lt_iff]
  unfold sgnQ at h ⊢
  by_cases h1 : X.num < 0
  · rw [if_pos h1] at h ⊢
    have h2 : Y.num < 0 := by by_cases h2 : Y.num < 0; exact h2; rw [if_neg h2] at h; split at h <;> omega
    have e1 : ((X.num.natAbs : Nat) : Int) = - X.num := by omega
    have e2 : ((Y.num.natAbs : Nat) : Int) = - Y.num := by omega
    rw [e1, e2, Int.neg_mul X.num, Int.neg_mul Y.num]
    generalize X.num * Y.den = a
    generalize Y.num * X.den = b
    split <;> split <;> (try split) <;> (try split) <;> omega
  · rw [if_neg h1] at h ⊢
    by_cases h3 : 0 < X.num
    · rw [if_pos h3] at h ⊢
      have h2 : 0 < Y.num := by
        by_cases h2 : 0 < Y.num; exact h2
        rw [if_neg h2] at h; split at h <;> omega
      have e1 : ((X.num.natAbs : Nat) : Int) = X.num := by omega
      have e2 : ((Y.num.natAbs : Nat) : Int) = Y.num := by omega
      rw [e1, e2]; simp
    · rw [if_neg h3] at h ⊢
      have h2 : Y.num = 0 := by split at h; omega; split at h <;> omega
      have h4 : X.num = 0 := by omega
      rw [h2, h4]; simp
theorem cmpQ_less {X Y : Rat} (h : sgnQ X < sgnQ Y) : cmpQ X Y = -1 := by
  unfold cmpQ
  rw [if_pos]
  rw [Rat.lt_iff]
  have hx : 0 < (X.den : Int) := by have := den_ne X; omega
  have hy : 0 < (Y.den : Int) := by have := den_ne Y; omega
  unfold sgnQ at h
  by_cases h1 : X.num < 0
  · have a : X.num * Y.den < 0 := Int.mul_neg_of_neg_of_pos h1 hy
    have h2 : 0 ≤ Y.num := by
      by_cases h2 : Y.num < 0
      · rw [if_pos h1, if_pos h2] at h; omega
      · omega
    have b : 0 ≤ Y.num * X.den := Int.mul_nonneg h2 (by omega)
    omega
  · rw [if_neg h1] at h
    by_cases h3 : 0 < X.num
    · rw [if_pos h3] at h; split at h; omega; split at h <;> omega
    · have h4 : X.num = 0 := by omega
      have h2 : 0 < Y.num := by
        rw [if_neg h3] at h
        by_cases h2 : 0 < Y.num; exact h2
        rw [if_neg h2] at h; split at h <;> omega
      rw [h4, Int.zero_mul]
      exact Int.mul_pos h2 hx
theorem cmpQ_flip (X Y : Rat) : cmpQ Y X = - cmpQ X Y := by
  unfold cmpQ
  by_cases h : X < Y
  · have : ¬ Y < X := fun k => absurd (Rat.le_of_lt k) (Rat.not_le.2 h)
    simp [h, this]
  · by_cases k : Y < X <;> simp [h, k]
theorem cmpQ_more {X Y : Rat} (h : sgnQ Y < sgnQ X) : cmpQ X Y = 1 := by
  have := cmpQ_less h
  rw [cmpQ_flip] at this; omega
theorem cmpQ_zero (X Y : Rat) : cmpQ X Y = 0 ↔ X = Y := by
  unfold cmpQ
  by_cases h : X < Y
  · rw [if_pos h]
    exact ⟨fun e => absurd e (by omega), fun e => by subst e; exact absurd h Rat.lt_irrefl⟩
  · by_cases k : Y < X
    · rw [if_neg h, if_pos k]
      exact ⟨fun e => absurd e (by omega), fun e => by subst e; exact absurd k Rat.lt_irrefl⟩
    · rw [if_neg h, if_neg k]
      exact ⟨fun _ => Rat.le_antisymm (Rat.not_lt.1 k) (Rat.not_lt.1 h), fun _ => rfl⟩
theorem cmpQ_le (X Y : Rat) : cmpQ X Y ≤ 0 ↔ X ≤ Y := by
  unfold cmpQ
  by_cases h : X < Y
  · rw [if_pos h]; exact ⟨fun _ => Rat.le_of_lt h, fun _ => by omega⟩
  · by_cases k : Y < X
    · rw [if_neg h, if_pos k]; exact ⟨fun e => absurd e (by omega), fun e => absurd e (Rat.not_le.2 k)⟩
    · rw [if_neg h, if_neg k]; exact ⟨fun _ => Rat.not_lt.1 k, fun _ => by omega⟩
theorem cmpQ_range (X Y : Rat) : -1 ≤ cmpQ X Y ∧ cmpQ X Y ≤ 1 := by unfold cmpQ; split <;> (try split) <;> omega
theorem sgnQ_range (X : Rat) : -1 ≤ sgnQ X ∧ sgnQ X ≤ 1 := by unfold sgnQ; split <;> (try split) <;> omega
theorem sgnQ_zero (X : Rat) : sgnQ X = 0 ↔ X = 0 := by
  rw [← Rat.num_eq_zero]; unfold sgnQ; split <;> (try split) <;> omega
theorem sgnQ_pos (X : Rat) : 0 < sgnQ X ↔ 0 < X := by
  have : (0 : Rat) < X ↔ 0 < X.num := by rw [Rat.lt_iff]; simp
  rw [this]; unfold sgnQ; split <;> (try split) <;> omega
theorem cmpQ_add (X Y Z : Rat) : cmpQ (X + Z) (Y + Z) = cmpQ X Y := by unfold cmpQ; simp only [Rat.add_lt_add_right]
theorem cmpQ_mul (X Y Z : Rat) (h : 0 < Z) : cmpQ (X * Z) (Y * Z) = cmpQ X Y := by unfold cmpQ; simp only [Rat.mul_lt_mul_right h]
theorem cmpQ_trans {X Y Z : Rat} (h : cmpQ X Y ≤ 0) (k : cmpQ Y Z ≤ 0) : cmpQ X Z ≤ 0 :=
  (cmpQ_le _ _).2 (Rat.le_trans ((cmpQ_le _ _).1 h) ((cmpQ_le _ _).1 k))

end Go.Proofs.Ytmoahgiklgicgaa
