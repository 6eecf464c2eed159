/-
  What rat.addSigned, rat.Add and rat.Sub do, told by Lean's own Rat. Conditions: both numbers of at most N words, N at most 1000.
-/
import Derived.Test.YtnheefhbchkbdaaDoorProdMath
import Derived.Test.YtnheefhbchkbdaaDoorGcdMath
import Derived.Test.YtnheefhbchkbdaaDoorRefGcd
import Derived.Test.YtnheefhbchkbdaaDoorGcdLaws
import Derived.Deep.RegionHeld3
namespace Go.Proofs.YtnheefhbchkbdaaDoor
set_option maxRecDepth 100000
set_option linter.unusedVariables false
set_option linter.unusedSimpArgs false

/-- a natural with a sign -/
def sI (s : Bool) (p : Nat) : Int := if s then -(p : Int) else p
/-- the number of a sign and two naturals -/
def rq (s : Bool) (p q : Nat) : Rat := mkRat (sI s p) q
def neg_ (X : Rat) : Bool := decide (X.num < 0)

theorem sI_natAbs (s : Bool) (p : Nat) : (sI s p).natAbs = p := by unfold sI; cases s <;> simp
theorem sI_zero (s : Bool) : sI s 0 = 0 := by unfold sI; cases s <;> simp
theorem sI_neg (s : Bool) (p : Nat) : decide (sI s p < 0) = (s && decide (p ≠ 0)) := by
  unfold sI; cases s
  · simp
  · rw [Bool.eq_iff_iff]; simp only [if_true, decide_eq_true_eq, Bool.true_and]; omega
theorem sI_not (s : Bool) (p : Nat) : sI (!s) p = - sI s p := by unfold sI; cases s <;> simp
theorem sI_num (X : Rat) : sI (neg_ X) X.num.natAbs = X.num := by
  unfold sI neg_
  by_cases h : X.num < 0
  · simp [h]; omega
  · simp [h]; omega
theorem sI_mul (s t : Bool) (p q : Nat) : sI (s != t) (p * q) = sI s p * sI t q := by
  unfold sI; cases s <;> cases t <;> simp [Int.neg_mul, Int.mul_neg]
theorem sI_mul_nat (s : Bool) (p q : Nat) : sI s (p * q) = sI s p * q := by
  unfold sI; cases s <;> simp [Int.neg_mul]
theorem neg_zero_ (X : Rat) (h : X.num.natAbs = 0) : neg_ X = false := by unfold neg_; exact decide_eq_false (by omega)

/-- in lowest terms -/
theorem rq_cop {s : Bool} {p q : Nat} (h0 : q ≠ 0) (h : Nat.gcd p q = 1) : (rq s p q).num = sI s p ∧ (rq s p q).den = q := by
  unfold rq
  rw [Rat.num_mkRat, Rat.den_mkRat, if_neg h0, if_neg h0, sI_natAbs, Nat.gcd_comm, h]
  simp
theorem rq_red (s : Bool) (p q : Nat) (h0 : q ≠ 0) : rq s p q = rq s (p / Nat.gcd p q) (q / Nat.gcd p q) := by
  have hg : Nat.gcd p q ≠ 0 := fun e => h0 (Nat.eq_zero_of_gcd_eq_zero_right e)
  have h1 : p / Nat.gcd p q * Nat.gcd p q = p := Nat.div_mul_cancel (Nat.gcd_dvd_left p q)
  have h2 : q / Nat.gcd p q * Nat.gcd p q = q := Nat.div_mul_cancel (Nat.gcd_dvd_right p q)
  unfold rq
  have h3 := Rat.mkRat_mul_right (n := sI s (p / Nat.gcd p q)) (d := q / Nat.gcd p q) hg
  rw [← sI_mul_nat, h1, h2] at h3
  exact h3
theorem rq_num (s : Bool) (p q : Nat) (h0 : q ≠ 0) : (rq s p q).num.natAbs = p / Nat.gcd p q ∧ (rq s p q).den = q / Nat.gcd p q ∧ neg_ (rq s p q) = (s && decide (p / Nat.gcd p q ≠ 0)) := by
  have hg : 0 < Nat.gcd p q := Nat.pos_of_ne_zero fun e => h0 (Nat.eq_zero_of_gcd_eq_zero_right e)
  have hq : q / Nat.gcd p q ≠ 0 := by
    have := Nat.div_pos (Nat.le_of_dvd (Nat.pos_of_ne_zero h0) (Nat.gcd_dvd_right p q)) hg
    omega
  have hc : Nat.gcd (p / Nat.gcd p q) (q / Nat.gcd p q) = 1 := Nat.gcd_div_gcd_div_gcd_of_pos_right (Nat.pos_of_ne_zero h0)
  obtain ⟨h1, h2⟩ := rq_cop (s := s) hq hc
  rw [← rq_red s p q h0] at h1 h2
  refine ⟨by rw [h1, sI_natAbs], h2, ?_⟩
  unfold neg_
  rw [h1, sI_neg]
theorem rq_cop' {s : Bool} {p q : Nat} (h0 : q ≠ 0) (h : Nat.gcd p q = 1) : (rq s p q).num.natAbs = p ∧ (rq s p q).den = q ∧ neg_ (rq s p q) = (s && decide (p ≠ 0)) := by
  obtain ⟨h1, h2⟩ := rq_cop (s := s) h0 h
  refine ⟨by rw [h1, sI_natAbs], h2, ?_⟩
  unfold neg_; rw [h1, sI_neg]
theorem rq_self (X : Rat) : rq (neg_ X) X.num.natAbs X.den = X := by unfold rq; rw [sI_num, Rat.mkRat_self]
theorem den_ne (X : Rat) : X.den ≠ 0 := X.den_nz
theorem gcd_num_den (X : Rat) : Nat.gcd X.num.natAbs X.den = 1 := X.reduced
theorem rat_ext {X Y : Rat} (h1 : neg_ X = neg_ Y) (h2 : X.num.natAbs = Y.num.natAbs) (h3 : X.den = Y.den) : X = Y := by
  rw [← rq_self X, ← rq_self Y, h1, h2, h3]

/-- both numbers have at most N words -/
def Sz (X : Rat) (N : Nat) : Prop := X.num.natAbs < W ^ N ∧ X.den < W ^ N
theorem Sz.mono {X : Rat} {N M : Nat} (h : Sz X N) (hm : N ≤ M) : Sz X M :=
  ⟨Nat.lt_of_lt_of_le h.1 (Nat.pow_le_pow_right W_pos hm), Nat.lt_of_lt_of_le h.2 (Nat.pow_le_pow_right W_pos hm)⟩
theorem Sz.neg {X : Rat} {N : Nat} (h : Sz X N) : Sz (-X) N := by
  refine ⟨?_, h.2⟩
  rw [Rat.neg_num, Int.natAbs_neg]; exact h.1
theorem rq_sz {s : Bool} {p q N : Nat} (h0 : q ≠ 0) (hp : p < W ^ N) (hq : q < W ^ N) : Sz (rq s p q) N := by
  obtain ⟨h1, h2, _⟩ := rq_num s p q h0
  refine ⟨?_, ?_⟩
  · rw [h1]; exact Nat.lt_of_le_of_lt (Nat.div_le_self _ _) hp
  · rw [h2]; exact Nat.lt_of_le_of_lt (Nat.div_le_self _ _) hq
theorem two_pow_W (k : Nat) : 2 * W ^ k ≤ W ^ (k + 1) := by
  rw [Nat.pow_succ, Nat.mul_comm]; exact Nat.mul_le_mul_left _ (by unfold W; omega)
theorem mk_rq (z : Int) (q : Nat) : ∃ s, rq s z.natAbs q = mkRat z q := by
  refine ⟨decide (z < 0), ?_⟩
  unfold rq sI
  by_cases h : z < 0
  · simp [h]; congr 1; omega
  · simp [h]; congr 1; omega
theorem mk_sz {z : Int} {q N : Nat} (h0 : q ≠ 0) (hp : z.natAbs < W ^ N) (hq : q < W ^ N) : Sz (mkRat z q) N := by
  obtain ⟨s, h⟩ := mk_rq z q
  rw [← h]; exact rq_sz h0 hp hq
theorem Sz.add {X Y : Rat} {N M : Nat} (h : Sz X N) (k : Sz Y M) : Sz (X + Y) (N + M + 1) := by
  rw [Rat.add_def']
  have a1 := mul_lt_powW h.1 k.2
  have a2 := mul_lt_powW k.1 h.2
  have a3 := mul_lt_powW h.2 k.2
  have e : W ^ (M + N) = W ^ (N + M) := by rw [Nat.add_comm]
  rw [e] at a2
  have t := two_pow_W (N + M)
  refine mk_sz (Nat.mul_ne_zero (den_ne _) (den_ne _)) ?_ (by omega)
  have := Int.natAbs_add_le (X.num * Y.den) (Y.num * X.den)
  rw [Int.natAbs_mul, Int.natAbs_mul, Int.natAbs_natCast, Int.natAbs_natCast] at this
  omega
theorem Sz.mul {X Y : Rat} {N M : Nat} (h : Sz X N) (k : Sz Y M) : Sz (X * Y) (N + M) := by
  rw [Rat.mul_def']
  refine mk_sz (Nat.mul_ne_zero (den_ne _) (den_ne _)) ?_ (mul_lt_powW h.2 k.2)
  rw [Int.natAbs_mul]
  exact mul_lt_powW h.1 k.1
theorem Sz.sub {X Y : Rat} {N M : Nat} (h : Sz X N) (k : Sz Y M) : Sz (X - Y) (N + M + 1) := by
  rw [Rat.sub_eq_add_neg]; exact h.add k.neg
theorem Sz.pos {X : Rat} {N : Nat} (h : Sz X N) : 1 < W ^ N := by
  have := h.2; have := den_ne X; omega
theorem Sz.inv {X : Rat} {N : Nat} (h : Sz X N) : Sz X⁻¹ N := by
  refine ⟨?_, ?_⟩
  · rw [Rat.num_inv, Int.natAbs_mul, Int.natAbs_natCast]
    have h2 := h.2
    have : X.num.sign.natAbs ≤ 1 := by rw [Int.natAbs_sign]; split <;> omega
    exact Nat.lt_of_le_of_lt (Nat.mul_le_mul_right _ this) (by omega)
  · rw [Rat.den_inv]; split
    · exact h.pos
    · exact h.1

/-- the sum, over the common denominator -/
theorem add_rq (X Y : Rat) {s : Bool} {m : Nat} (h : sI s m = X.num * ((Y.den / Nat.gcd X.den Y.den : Nat) : Int) + Y.num * ((X.den / Nat.gcd X.den Y.den : Nat) : Int)) :
    rq s m (X.den * (Y.den / Nat.gcd X.den Y.den)) = X + Y := by
  have hg : Nat.gcd X.den Y.den ≠ 0 := fun e => den_ne X (Nat.eq_zero_of_gcd_eq_zero_left e)
  have h1 : X.den / Nat.gcd X.den Y.den * Nat.gcd X.den Y.den = X.den := Nat.div_mul_cancel (Nat.gcd_dvd_left _ _)
  have h2 : Y.den / Nat.gcd X.den Y.den * Nat.gcd X.den Y.den = Y.den := Nat.div_mul_cancel (Nat.gcd_dvd_right _ _)
  rw [Rat.add_def']
  unfold rq
  rw [h, ← Rat.mkRat_mul_right hg, Int.add_mul, Int.mul_assoc, Int.mul_assoc, ← Int.natCast_mul, ← Int.natCast_mul, h1, h2, Nat.mul_assoc, h2]
theorem add_den_ne (X Y : Rat) : X.den * (Y.den / Nat.gcd X.den Y.den) ≠ 0 := by
  have h2 : Y.den / Nat.gcd X.den Y.den * Nat.gcd X.den Y.den = Y.den := Nat.div_mul_cancel (Nat.gcd_dvd_right _ _)
  refine Nat.mul_ne_zero (den_ne X) fun e => ?_
  rw [e, Nat.zero_mul] at h2
  exact den_ne Y h2.symm
/-- the sum, over the product of the denominators -/
theorem add_rq' (X Y : Rat) {s : Bool} {m : Nat} (h : sI s m = X.num * Y.den + Y.num * X.den) : rq s m (X.den * Y.den) = X + Y := by
  rw [Rat.add_def']; unfold rq; rw [h]
/-- sums with signs -/
theorem sI_add_same (s : Bool) (a b : Nat) : sI s (a + b) = sI s a + sI s b := by unfold sI; cases s <;> simp; omega
theorem sI_add_left {s t : Bool} {a b : Nat} (h : s ≠ t) (hle : b ≤ a) : sI s (a - b) = sI s a + sI t b := by
  unfold sI; cases s <;> cases t <;> simp at h ⊢ <;> omega
theorem sI_add_right {s t : Bool} {a b : Nat} (h : s ≠ t) (hle : a ≤ b) : sI t (b - a) = sI s a + sI t b := by
  unfold sI; cases s <;> cases t <;> simp at h ⊢ <;> omega
theorem neg_rq (X : Rat) : rq (!(neg_ X)) X.num.natAbs X.den = -X := by
  unfold rq; rw [sI_not, sI_num, ← Rat.neg_mkRat, Rat.mkRat_self]

/-- the product, reduced crosswise -/
theorem mul_rq (X Y : Rat) (s : Bool) (hs : s = (neg_ X != neg_ Y)) (a b c d : Nat) (ha : a = X.num.natAbs / Nat.gcd X.num.natAbs Y.den) (hb : b = Y.den / Nat.gcd X.num.natAbs Y.den)
    (hc : c = Y.num.natAbs / Nat.gcd Y.num.natAbs X.den) (hd : d = X.den / Nat.gcd Y.num.natAbs X.den) :
    rq s (a * c) (d * b) = X * Y ∧ d * b ≠ 0 ∧ Nat.gcd (a * c) (d * b) = 1 := by
  have hg1 : Nat.gcd X.num.natAbs Y.den ≠ 0 := fun e => den_ne Y (Nat.eq_zero_of_gcd_eq_zero_right e)
  have hg2 : Nat.gcd Y.num.natAbs X.den ≠ 0 := fun e => den_ne X (Nat.eq_zero_of_gcd_eq_zero_right e)
  have h1 : a * Nat.gcd X.num.natAbs Y.den = X.num.natAbs := by rw [ha]; exact Nat.div_mul_cancel (Nat.gcd_dvd_left _ _)
  have h2 : b * Nat.gcd X.num.natAbs Y.den = Y.den := by rw [hb]; exact Nat.div_mul_cancel (Nat.gcd_dvd_right _ _)
  have h3 : c * Nat.gcd Y.num.natAbs X.den = Y.num.natAbs := by rw [hc]; exact Nat.div_mul_cancel (Nat.gcd_dvd_left _ _)
  have h4 : d * Nat.gcd Y.num.natAbs X.den = X.den := by rw [hd]; exact Nat.div_mul_cancel (Nat.gcd_dvd_right _ _)
  have c1 : Nat.Coprime a b := by
    rw [ha, hb]; exact Nat.gcd_div_gcd_div_gcd_of_pos_right (Nat.pos_of_ne_zero (den_ne Y))
  have c2 : Nat.Coprime c d := by
    rw [hc, hd]; exact Nat.gcd_div_gcd_div_gcd_of_pos_right (Nat.pos_of_ne_zero (den_ne X))
  have c3 : Nat.Coprime a d := Nat.Coprime.coprime_dvd_left ⟨_, h1.symm⟩ (Nat.Coprime.coprime_dvd_right ⟨_, h4.symm⟩ X.reduced)
  have c4 : Nat.Coprime c b := Nat.Coprime.coprime_dvd_left ⟨_, h3.symm⟩ (Nat.Coprime.coprime_dvd_right ⟨_, h2.symm⟩ Y.reduced)
  generalize Nat.gcd X.num.natAbs Y.den = g1 at *
  generalize Nat.gcd Y.num.natAbs X.den = g2 at *
  refine ⟨?_, ?_, ?_⟩
  · rw [Rat.mul_def']
    unfold rq
    have hg : g1 * g2 ≠ 0 := Nat.mul_ne_zero hg1 hg2
    rw [← Rat.mkRat_mul_right hg, hs, ← sI_mul_nat]
    have e1 : a * c * (g1 * g2) = X.num.natAbs * Y.num.natAbs := by rw [← h1, ← h3, Nat.mul_mul_mul_comm]
    have e2 : d * b * (g1 * g2) = X.den * Y.den := by
      rw [← h4, ← h2, Nat.mul_comm g1 g2, Nat.mul_mul_mul_comm]
    rw [e1, e2, sI_mul, sI_num, sI_num]
  · refine Nat.mul_ne_zero (fun e => ?_) (fun e => ?_)
    · rw [e, Nat.zero_mul] at h4; exact den_ne X h4.symm
    · rw [e, Nat.zero_mul] at h2; exact den_ne Y h2.symm
  · exact Nat.Coprime.mul_right (Nat.Coprime.mul_left c3 c2) (Nat.Coprime.mul_left c1 c4)
theorem mul_rq' (X Y : Rat) : rq (neg_ X != neg_ Y) (X.num.natAbs * Y.num.natAbs) (X.den * Y.den) = X * Y := by
  rw [Rat.mul_def']; unfold rq; rw [sI_mul, sI_num, sI_num]
theorem num_ne {X : Rat} (h : X ≠ 0) : X.num ≠ 0 := fun e => h (Rat.num_eq_zero.1 e)
theorem inv_rq (X : Rat) (h : X ≠ 0) : rq (neg_ X) X.den X.num.natAbs = X⁻¹ := by
  have h0 := num_ne h
  have hc : Nat.gcd X.den X.num.natAbs = 1 := by rw [Nat.gcd_comm]; exact X.reduced
  obtain ⟨h1, h2⟩ := rq_cop (s := neg_ X) (p := X.den) (q := X.num.natAbs) (by omega) hc
  refine Rat.ext ?_ ?_
  · rw [h1, Rat.num_inv]
    unfold sI neg_
    by_cases hn : X.num < 0
    · rw [Int.sign_eq_neg_one_of_neg hn]; simp [hn]
    · rw [Int.sign_eq_one_of_pos (by omega)]; simp [hn]
  · rw [h2, Rat.den_inv, if_neg h0]
theorem div_rq (X Y : Rat) (h : Y ≠ 0) : rq (neg_ X != neg_ Y) (X.num.natAbs * Y.den) (X.den * Y.num.natAbs) = X / Y := by
  rw [Rat.div_def, ← mul_rq', ← inv_rq Y h]
  have h0 := num_ne h
  have hc : Nat.gcd Y.den Y.num.natAbs = 1 := by rw [Nat.gcd_comm]; exact Y.reduced
  obtain ⟨h1, h2, h3⟩ := rq_cop' (s := neg_ Y) (p := Y.den) (q := Y.num.natAbs) (by omega) hc
  rw [h1, h2, h3, decide_eq_true (den_ne Y), Bool.and_true]
theorem rat_zero_iff (X : Rat) : X = 0 ↔ X.num.natAbs = 0 := by
  rw [← Rat.num_eq_zero]; omega

/-- -1, 0 or 1 -/
def sgnQ (X : Rat) : Int := if X.num < 0 then -1 else if 0 < X.num then 1 else 0
def cmpQ (X Y : Rat) : Int := if X < Y then -1 else if Y < X then 1 else 0
theorem sgnQ_sub (X Y : Rat) : sgnQ (X - Y) = cmpQ X Y := by
  have h : ∀ Z : Rat, sgnQ Z = cmpQ Z 0 := by
    intro Z
    unfold sgnQ cmpQ
    simp only [Rat.lt_iff]; simp
  rw [h]
  unfold cmpQ
  have h1 : X - Y < 0 ↔ X < Y := by rw [Rat.sub_lt_iff, Rat.zero_add]
  have h2 : 0 < X - Y ↔ Y < X := by rw [← Rat.lt_iff_sub_pos]
  simp only [h1, h2]
theorem cmpN_sign (a b : Nat) : cmpN a b = if (a : Int) < b then -1 else if (b : Int) < a then 1 else 0 := by unfold cmpN; simp
theorem cmpQ_same (X Y : Rat) (h : sgnQ X = sgnQ Y) : sgnQ X * cmpN (X.num.natAbs * Y.den) (Y.num.natAbs * X.den) = cmpQ X Y := by
  rw [cmpN_sign, Int.natCast_mul, Int.natCast_mul]
  unfold cmpQ
  simp only [Rat.lt_iff]
  unfold sgnQ at h ⊢
  by_cases h1 : X.num < 0
  · rw [if_pos h1] at h ⊢
    have h2 : Y.num < 0 := by by_cases h2 : Y.num < 0; exact h2; rw [if_neg h2] at h; split at h <;> omega
    have e1 : ((X.num.natAbs : Nat) : Int) = - X.num := by omega
    have e2 : ((Y.num.natAbs : Nat) : Int) = - Y.num := by omega
    rw [e1, e2, Int.neg_mul X.num, Int.neg_mul Y.num]
    generalize X.num * Y.den = a
    generalize Y.num * X.den = b
    split <;> split <;> (try split) <;> (try split) <;> omega
  · rw [if_neg h1] at h ⊢
    by_cases h3 : 0 < X.num
    · rw [if_pos h3] at h ⊢
      have h2 : 0 < Y.num := by
        by_cases h2 : 0 < Y.num; exact h2
        rw [if_neg h2] at h; split at h <;> omega
      have e1 : ((X.num.natAbs : Nat) : Int) = X.num := by omega
      have e2 : ((Y.num.natAbs : Nat) : Int) = Y.num := by omega
      rw [e1, e2]; simp
    · rw [if_neg h3] at h ⊢
      have h2 : Y.num = 0 := by split at h; omega; split at h <;> omega
      have h4 : X.num = 0 := by omega
      rw [h2, h4]; simp
theorem cmpQ_less {X Y : Rat} (h : sgnQ X < sgnQ Y) : cmpQ X Y = -1 := by
  unfold cmpQ
  rw [if_pos]
  rw [Rat.lt_iff]
  have hx : 0 < (X.den : Int) := by have := den_ne X; omega
  have hy : 0 < (Y.den : Int) := by have := den_ne Y; omega
  unfold sgnQ at h
  by_cases h1 : X.num < 0
  · have a : X.num * Y.den < 0 := Int.mul_neg_of_neg_of_pos h1 hy
    have h2 : 0 ≤ Y.num := by
      by_cases h2 : Y.num < 0
      · rw [if_pos h1, if_pos h2] at h; omega
      · omega
    have b : 0 ≤ Y.num * X.den := Int.mul_nonneg h2 (by omega)
    omega
  · rw [if_neg h1] at h
    by_cases h3 : 0 < X.num
    · rw [if_pos h3] at h; split at h; omega; split at h <;> omega
    · have h4 : X.num = 0 := by omega
      have h2 : 0 < Y.num := by
        rw [if_neg h3] at h
        by_cases h2 : 0 < Y.num; exact h2
        rw [if_neg h2] at h; split at h <;> omega
      rw [h4, Int.zero_mul]
      exact Int.mul_pos h2 hx
theorem cmpQ_flip (X Y : Rat) : cmpQ Y X = - cmpQ X Y := by
  unfold cmpQ
  by_cases h : X < Y
  · have : ¬ Y < X := fun k => absurd (Rat.le_of_lt k) (Rat.not_le.2 h)
    simp [h, this]
  · by_cases k : Y < X <;> simp [h, k]
theorem cmpQ_more {X Y : Rat} (h : sgnQ Y < sgnQ X) : cmpQ X Y = 1 := by
  have := cmpQ_less h
  rw [cmpQ_flip] at this; omega
theorem cmpQ_zero (X Y : Rat) : cmpQ X Y = 0 ↔ X = Y := by
  unfold cmpQ
  by_cases h : X < Y
  · rw [if_pos h]
    exact ⟨fun e => absurd e (by omega), fun e => by subst e; exact absurd h Rat.lt_irrefl⟩
  · by_cases k : Y < X
    · rw [if_neg h, if_pos k]
      exact ⟨fun e => absurd e (by omega), fun e => by subst e; exact absurd k Rat.lt_irrefl⟩
    · rw [if_neg h, if_neg k]
      exact ⟨fun _ => Rat.le_antisymm (Rat.not_lt.1 k) (Rat.not_lt.1 h), fun _ => rfl⟩
theorem cmpQ_le (X Y : Rat) : cmpQ X Y ≤ 0 ↔ X ≤ Y := by
  unfold cmpQ
  by_cases h : X < Y
  · rw [if_pos h]; exact ⟨fun _ => Rat.le_of_lt h, fun _ => by omega⟩
  · by_cases k : Y < X
    · rw [if_neg h, if_pos k]; exact ⟨fun e => absurd e (by omega), fun e => absurd e (Rat.not_le.2 k)⟩
    · rw [if_neg h, if_neg k]; exact ⟨fun _ => Rat.not_lt.1 k, fun _ => by omega⟩
theorem cmpQ_range (X Y : Rat) : -1 ≤ cmpQ X Y ∧ cmpQ X Y ≤ 1 := by unfold cmpQ; split <;> (try split) <;> omega
theorem sgnQ_range (X : Rat) : -1 ≤ sgnQ X ∧ sgnQ X ≤ 1 := by unfold sgnQ; split <;> (try split) <;> omega
theorem sgnQ_zero (X : Rat) : sgnQ X = 0 ↔ X = 0 := by
  rw [← Rat.num_eq_zero]; unfold sgnQ; split <;> (try split) <;> omega
theorem sgnQ_pos (X : Rat) : 0 < sgnQ X ↔ 0 < X := by
  have : (0 : Rat) < X ↔ 0 < X.num := by rw [Rat.lt_iff]; simp
  rw [this]; unfold sgnQ; split <;> (try split) <;> omega
theorem cmpQ_add (X Y Z : Rat) : cmpQ (X + Z) (Y + Z) = cmpQ X Y := by unfold cmpQ; simp only [Rat.add_lt_add_right]
theorem cmpQ_mul (X Y Z : Rat) (h : 0 < Z) : cmpQ (X * Z) (Y * Z) = cmpQ X Y := by unfold cmpQ; simp only [Rat.mul_lt_mul_right h]
theorem cmpQ_trans {X Y Z : Rat} (h : cmpQ X Y ≤ 0) (k : cmpQ Y Z ≤ 0) : cmpQ X Z ≤ 0 :=
  (cmpQ_le _ _).2 (Rat.le_trans ((cmpQ_le _ _).1 h) ((cmpQ_le _ _).1 k))

end Go.Proofs.YtnheefhbchkbdaaDoor

namespace Go.Proofs.YtnheefhbchkbdaaDoor
set_option maxRecDepth 100000
open Go.RowKit
set_option linter.unusedVariables false
set_option linter.unusedSimpArgs false

/-- the struct of the sign s and the slices (A n c), (A' n' c') reads, in w, as X -/
def Q (w : World) (s : Bool) (A : Option Addr) (n c : Nat) (A' : Option Addr) (n' c' : Nat) (X : Rat) : Prop :=
  s = neg_ X ∧ Sl w A n c (words X.num.natAbs) ∧ Sl w A' n' c' (words X.den)
theorem Q.below {w w' : World} {s : Bool} {A A' : Option Addr} {n c n' c' : Nat} {X : Rat} (h : Q w s A n c A' n' c' X) (hb : Below w.heap.size w w') : Q w' s A n c A' n' c' X :=
  ⟨h.1, h.2.1.below hb, h.2.2.below hb⟩
theorem Q.drewN {w : World} {s : Bool} {A A' : Option Addr} {n c n' c' : Nat} {X : Rat} (h : Q w s A n c A' n' c' X) (k : Nat) : Q (w.drewN k) s A n c A' n' c' X := h
/-- a call that returns a number, and turns nothing that was there -/
def RetQ (X : Rat) (w : World) (e : Ending) (w' : World) : Prop :=
  ∃ s A n c A' n' c', e = .returned (.agg #[.bool s, .slice A n c, .slice A' n' c']) ∧ Q w' s A n c A' n' c' X ∧ Below w.heap.size w w'
/-- .. and an error's number -/
def RetQE (X : Rat) (k : Int) (w : World) (e : Ending) (w' : World) : Prop :=
  ∃ s A n c A' n' c', e = .returned (.tuple #[.agg #[.bool s, .slice A n c, .slice A' n' c'], .int .i64 k]) ∧ Q w' s A n c A' n' c' X ∧ Below w.heap.size w w'
/-- .. no number, and an error's number -/
def RetNo (k : Int) (w : World) (e : Ending) (w' : World) : Prop :=
  e = .returned (.tuple #[.agg #[.bool false, .slice none 0 0, .slice none 0 0], .int .i64 k]) ∧ Below w.heap.size w w'

/-- block g of w is just the cells vs, none frozen -/
def Box (t : TypeId) (w : World) (g : Nat) (vs : Array Value) : Prop := w.heap[g]? = some (.cells vs t (0, 0))
section
variable {t : TypeId} {w w' : World} {g : Nat} {vs : Array Value}
theorem Box.new (w : World) (t : TypeId) (vs : Array Value) : Box t (w.alloc (.cells vs t)) w.heap.size vs := heap_alloc_new w _
theorem Box.lt (h : Box t w g vs) : g < w.heap.size := by
  rcases Nat.lt_or_ge g w.heap.size with hlt | hge
  · exact hlt
  · unfold Box at h; rw [Array.getElem?_eq_none hge] at h; cases h
theorem Box.below {B : Nat} (h : Box t w g vs) (hb : Below B w w') (hg : g < B) : Box t w' g vs := (hb.block g hg).trans h
theorem Box.below' (h : Box t w g vs) (hb : Below w.heap.size w w') : Box t w' g vs := h.below hb h.lt
theorem Box.alloc (h : Box t w g vs) (o : Obj) : Box t (w.alloc o) g vs := h.below (below_alloc w o) h.lt
theorem Box.cell (h : Box t w g vs) (i : Nat) : w.cell? ⟨g, i, none⟩ = vs[i]? := by
  rw [cell_of_row w g i _ t (0, 0) h]
theorem Box.free (h : Box t w g vs) (i : Nat) : w.frozen? ⟨g, i, none⟩ = false := by
  unfold Box at h
  simp [World.frozen?, h]
/-- the three cells of a box of a number -/
theorem Box.three {v0 v1 v2 : Value} (h : Box t w g #[v0, v1, v2]) :
    (w.cell? ⟨g, 0, none⟩ = some v0 ∧ w.cell? ⟨g, 1, none⟩ = some v1 ∧ w.cell? ⟨g, 2, none⟩ = some v2) ∧
    (w.frozen? ⟨g, 0, none⟩ = false ∧ w.frozen? ⟨g, 1, none⟩ = false ∧ w.frozen? ⟨g, 2, none⟩ = false) :=
  ⟨⟨h.cell 0, h.cell 1, h.cell 2⟩, h.free 0, h.free 1, h.free 2⟩
end
/-- a number is stored into block g -/
def put3 (w : World) (g : Nat) (x0 x1 x2 : Value) : World := ((w.setCell ⟨g, 0, none⟩ x0).setCell ⟨g, 1, none⟩ x1).setCell ⟨g, 2, none⟩ x2
/-- a box of a number (none of its cells is an integer) -/
def IsBox (t : TypeId) (w : World) (g : Nat) : Prop := ∃ s A n c A' n' c', Box t w g #[.bool s, .slice A n c, .slice A' n' c']
theorem IsBox.below {t : TypeId} {w w' : World} {g : Nat} (h : IsBox t w g) (hb : Below w.heap.size w w') : IsBox t w' g := by
  obtain ⟨s, A, n, c, A', n', c', h⟩ := h
  exact ⟨s, A, n, c, A', n', c', h.below' hb⟩
theorem Sl.apartBox {t : TypeId} {w : World} {g : Nat} {A : Option Addr} {n c : Nat} {xs : List Int} (hB : IsBox t w g) (h : Sl w A n c xs) : SlN g w A n c xs := by
  refine ⟨h, fun h0 => ?_⟩
  obtain ⟨b, off, e, hlt, hc⟩ := h.2 h0
  refine ⟨b, off, e, fun e2 => ?_⟩
  subst e2
  obtain ⟨s, B, m, d, B', m', d', hb⟩ := hB
  have k := hc 0 h0
  rw [hb.cell] at k
  match off, k with
  | 0, k => simp at k
  | 1, k => simp at k
  | 2, k => simp at k
  | off + 3, k => simp at k
theorem keep_put3 (w : World) (g : Nat) (x0 x1 x2 : Value) : Keep g w (put3 w g x0 x1 x2) := (((Keep.refl g w).setCell 0 x0).setCell 1 x1).setCell 2 x2
theorem Sl.put3 {t : TypeId} {w : World} {g : Nat} {A : Option Addr} {n c : Nat} {xs : List Int} {x0 x1 x2 : Value} (hB : IsBox t w g) (h : Sl w A n c xs) : Sl (put3 w g x0 x1 x2) A n c xs :=
  ((h.apartBox hB).keep (keep_put3 w g x0 x1 x2)).sl
theorem Q.put3 {t : TypeId} {w : World} {g : Nat} {s : Bool} {A A' : Option Addr} {n c n' c' : Nat} {X : Rat} {x0 x1 x2 : Value} (hB : IsBox t w g) (h : Q w s A n c A' n' c' X) : Q (put3 w g x0 x1 x2) s A n c A' n' c' X :=
  ⟨h.1, h.2.1.put3 hB, h.2.2.put3 hB⟩
theorem below_put3 {B g : Nat} {a w : World} (h : Below B a w) (hg : B ≤ g) (hB : B ≤ a.heap.size) (x0 x1 x2 : Value) : Below B a (put3 w g x0 x1 x2) := Below.keep h (keep_put3 w g x0 x1 x2) hg hB

theorem Box.put3 {t : TypeId} {w : World} {g g' : Nat} {vs : Array Value} (h : Box t w g vs) (hne : g ≠ g') (x0 x1 x2 : Value) : Box t (put3 w g' x0 x1 x2) g vs := ((keep_put3 w g' x0 x1 x2).block g h.lt hne).trans h
theorem bb {a b c : World} (h : Below a.heap.size a b) (k : Below b.heap.size b c) : Below a.heap.size a c := h.trans (k.mono h.size)
/-- a call that returns a natural with a sign -/
def RetSB (z : Int) (w : World) (e : Ending) (w' : World) : Prop :=
  ∃ s A n c, e = .returned (.tuple #[.bool s, .slice A n c]) ∧ sI s z.natAbs = z ∧ Sl w' A n c (words z.natAbs) ∧ Below w.heap.size w w'
/-- a call that returns an integer, a bool, and turns nothing that was there -/
def RetI (z : Int) (w : World) (e : Ending) (w' : World) : Prop := e = .returned (.int .i64 z) ∧ Below w.heap.size w w'
def RetBl (b : Bool) (w : World) (e : Ending) (w' : World) : Prop := e = .returned (.bool b) ∧ Below w.heap.size w w'
/-- the world behind the boxes of a number and of a result -/
theorem boxes1 (t : TypeId) (w : World) (vs us : Array Value) : ∃ W, (w.alloc (.cells vs t)).alloc (.cells us t) = W ∧ Box t W w.heap.size vs ∧ Box t W (w.heap.size + 1) us ∧ Below w.heap.size w W := by
  refine ⟨_, rfl, (Box.new w t vs).alloc _, ?_, (below_alloc _ _).alloc (by simp) _⟩
  have := Box.new (w.alloc (.cells vs t)) t us
  rw [show (w.alloc (.cells vs t)).heap.size = w.heap.size + 1 from by simp] at this
  exact this
theorem boxes2 (t : TypeId) (w : World) (vs us xs : Array Value) : ∃ W, ((w.alloc (.cells vs t)).alloc (.cells us t)).alloc (.cells xs t) = W ∧ Box t W w.heap.size vs ∧ Box t W (w.heap.size + 1) us ∧ Box t W (w.heap.size + 1 + 1) xs ∧ Below w.heap.size w W := by
  obtain ⟨W, h, h1, h2, h3⟩ := boxes1 t w vs us
  have hs : W.heap.size = w.heap.size + 2 := by rw [← h]; simp
  refine ⟨_, rfl, ?_, ?_, ?_, ?_⟩
  · rw [h]; exact h1.alloc _
  · rw [h]; exact h2.alloc _
  · rw [h, ← hs]; exact Box.new W t xs
  · rw [h]; exact h3.alloc h3.size _

end Go.Proofs.YtnheefhbchkbdaaDoor

namespace Go.Proofs.YtnheefhbchkbdaaDoor
set_option maxRecDepth 100000
open Go.RowKit
set_option linter.unusedVariables false
set_option linter.unusedSimpArgs false

set_option maxHeartbeats 1000000 in
theorem rat_isZero {w : World} {A : Option Addr} {n c : Nat} {xs : List Int} (h : Sl w A n c xs) (hn : n ≤ 1000000) :
    Calls Tryd.prog 39 #[.slice A n c] w fun e w' => e = .returned (.bool (decide (val xs = 0))) ∧ w = w' := by
  have NB := nat_bits h (by omega)
  have ez : (((blen (val xs) : Nat) : Int) == 0) = decide (val xs = 0) := by
    rw [Bool.eq_iff_iff]
    simp only [beq_iff_eq, decide_eq_true_eq]
    constructor
    · intro e
      by_cases hv : val xs = 0
      · exact hv
      · have := blen_pos (Nat.pos_of_ne_zero hv); omega
    · intro e; rw [e]; rfl
  generalize ((blen (val xs) : Nat) : Int) = bl at *
  obtain ⟨b, hb⟩ : ∃ b, decide (val xs = 0) = b := ⟨_, rfl⟩
  rw [hb] at ez ⊢
  have HN := Lib.hid NB
  clear NB hb
  go_enter Tryd.func39, Tryd.ntmps39
  go_wp2_with fail
  refine HN.out.mono ?_
  rintro e w' ⟨rfl, rfl⟩
  go_wp2_with fail
  go_ret
  exact ⟨rfl, rfl⟩

set_option maxHeartbeats 1000000 in
theorem rat_signed {w : World} {A A' : Option Addr} {n n' c c' : Nat} {p q : Nat} (s : Bool) (h : Sl w A n c (words p)) (h' : Sl w A' n' c' (words q)) (hn : n ≤ 1000000) (h0 : q ≠ 0) (hg : Nat.gcd p q = 1) :
    Calls Tryd.prog 26 #[.bool s, .slice A n c, .slice A' n' c'] w (RetQ (rq s p q) w) := by
  have Z := fun w1 (hb : Below w.heap.size w w1) => rat_isZero (h.below hb) hn
  rw [val_words] at Z
  obtain ⟨h1, h2, h3⟩ := rq_cop' (s := s) h0 hg
  have hq : ∀ w' : World, Sl w' A n c (words p) → Sl w' A' n' c' (words q) → Q w' (neg_ (rq s p q)) A n c A' n' c' (rq s p q) := fun w' a b => ⟨rfl, by rw [h1]; exact a, by rw [h2]; exact b⟩
  generalize rq s p q = X at *
  have HQ := Lib.hid hq
  have HZ := Lib.hid Z
  have HH := Lib.hid h
  have HH' := Lib.hid h'
  have H3 := Lib.hid h3
  clear hq Z h h' h1 h2 h3
  cases s
  · go_enter Tryd.func26, Tryd.ntmps26
    go_wp2_with fail
    have hs := H3.out
    rw [Bool.false_and] at hs
    refine bodyPost_ret (v := .agg #[.bool false, .slice A n c, .slice A' n' c']) (by simp [results, Tryd.results26, go_sem]) rfl ?_
    refine ⟨false, A, n, c, A', n', c', rfl, ?_, below_alloc _ _⟩
    rw [← hs]
    exact HQ.out _ (HH.out.below (below_alloc _ _)) (HH'.out.below (below_alloc _ _))
  · go_enter Tryd.func26, Tryd.ntmps26
    go_wp2_with fail
    refine (HZ.out _ ?_).mono ?_
    · exact below_alloc _ _
    rintro e w' ⟨rfl, rfl⟩
    go_wp2_with fail
    have hs := H3.out
    rw [Bool.true_and] at hs
    have hs2 : (!decide (p = 0)) = neg_ X := by rw [hs]; simp
    refine bodyPost_ret (v := .agg #[.bool (!decide (p = 0)), .slice A n c, .slice A' n' c']) (by simp [results, Tryd.results26, go_sem]) rfl ?_
    refine ⟨_, A, n, c, A', n', c', rfl, ?_, below_alloc _ _⟩
    rw [hs2]
    exact HQ.out _ (HH.out.below (below_alloc _ _)) (HH'.out.below (below_alloc _ _))

set_option maxHeartbeats 1000000 in
theorem rat_make_zero {w : World} {A A' : Option Addr} {n n' c c' : Nat} {xs ys : List Int} (s : Bool) (h' : Sl w A' n' c' ys) (hn' : n' ≤ 1000000) (h0 : val ys = 0) :
    Calls Tryd.prog 31 #[.bool s, .slice A n c, .slice A' n' c'] w (RetNo 4 w) := by
  have Z := fun w1 (hb : Below w.heap.size w w1) => rat_isZero (h'.below hb) hn'
  rw [decide_eq_true h0] at Z
  have HZ := Lib.hid Z
  clear Z h0
  go_enter Tryd.func31, Tryd.ntmps31
  go_wp2_with fail
  refine (HZ.out _ (below_alloc _ _)).mono ?_
  rintro e w' ⟨rfl, rfl⟩
  go_wp2_with fail
  exact bodyPost_ret (v := .tuple #[.agg #[.bool false, .slice none 0 0, .slice none 0 0], .int .i64 4]) (by simp [results, Tryd.results31, go_sem]) rfl ⟨rfl, below_alloc _ _⟩

set_option maxHeartbeats 1000000 in
theorem rat_make {w : World} {A A' : Option Addr} {n n' c c' : Nat} {xs ys : List Int} (s : Bool) (h : Sl w A n c xs) (h' : Sl w A' n' c' ys) (hn : n ≤ 100000) (hn' : n' ≤ 100000) (h0 : val ys ≠ 0) :
    Calls Tryd.prog 31 #[.bool s, .slice A n c, .slice A' n' c'] w (RetQE (rq s (val xs) (val ys)) 0 w) := by
  have Z := fun w1 (hb : Below w.heap.size w w1) => rat_isZero (h'.below hb) (by omega)
  rw [decide_eq_false h0] at Z
  have RD := fun w1 (hb : Below w.heap.size w w1) => gcd_reduce (N := 100000) (h.below hb) (h'.below hb) (by omega) (by omega) (by omega)
  have hred := rq_red s (val xs) (val ys) h0
  rw [hred]
  have hp : val xs < W ^ n := val_lt_pow h.us (by have := h.len; omega)
  have hps := Nat.lt_of_le_of_lt (Nat.div_le_self (val xs) (Nat.gcd (val xs) (val ys))) hp
  have hc : Nat.gcd (val xs / Nat.gcd (val xs) (val ys)) (val ys / Nat.gcd (val xs) (val ys)) = 1 := Nat.gcd_div_gcd_div_gcd_of_pos_right (Nat.pos_of_ne_zero h0)
  have hq : val ys / Nat.gcd (val xs) (val ys) ≠ 0 := by
    have hg : 0 < Nat.gcd (val xs) (val ys) := Nat.pos_of_ne_zero fun e => h0 (Nat.eq_zero_of_gcd_eq_zero_right e)
    have := Nat.div_pos (Nat.le_of_dvd (Nat.pos_of_ne_zero h0) (Nat.gcd_dvd_right (val xs) (val ys))) hg
    omega
  generalize val xs / Nat.gcd (val xs) (val ys) = p at *
  generalize val ys / Nat.gcd (val xs) (val ys) = q at *
  have HZ := Lib.hid Z
  have HR := Lib.hid RD
  have HC := Lib.hid hc
  have HP := Lib.hid hps
  clear Z RD h0 hred hc hps hp
  go_enter Tryd.func31, Tryd.ntmps31
  go_wp2_with fail
  refine (HZ.out _ (below_alloc _ _)).mono ?_
  rintro e w' ⟨rfl, rfl⟩
  go_wp2_with fail
  refine (HR.out _ (below_alloc _ _)).mono ?_
  rintro e w1 ⟨A1, n1, c1, A2, n2, c2, rfl, s1, s2, b1⟩
  have l1 : n1 ≤ n := s1.small HP.out
  go_wp2_with fail
  refine (rat_signed s s1 s2 (by omega) hq HC.out).mono ?_
  rintro e w2 ⟨s', A3, n3, c3, A4, n4, c4, rfl, q3, b2⟩
  have B2 := ((Box.new w 24 _).below' b1).below' b2
  obtain ⟨⟨k0, k1, k2⟩, f0, f1, f2⟩ := B2.three
  go_wp2_with fail
  refine bodyPost_ret (v := .tuple #[.agg #[.bool s', .slice A3 n3 c3, .slice A4 n4 c4], .int .i64 0]) (by simp [results, Tryd.results31, go_sem, k0, k1, k2]) rfl ?_
  exact ⟨_, _, _, _, _, _, _, rfl, q3.put3 ⟨_, _, _, _, _, _, _, B2⟩, below_put3 ((below_alloc w _).trans ((b1.trans (b2.mono b1.size)).mono (by simp))) (Nat.le_refl _) (Nat.le_refl _) _ _ _⟩

set_option maxHeartbeats 1000000 in
theorem rat_sign {w : World} {s : Bool} {A A' : Option Addr} {n n' c c' : Nat} {X : Rat} (h : Q w s A n c A' n' c' X) (hn : n ≤ 1000000) :
    Calls Tryd.prog 17 #[.agg #[.bool s, .slice A n c, .slice A' n' c']] w (RetI (sgnQ X) w) := by
  have Z := fun w1 (hb : Below w.heap.size w w1) => rat_isZero (h.2.1.below hb) hn
  rw [val_words] at Z
  have hs := h.1
  unfold neg_ at hs
  by_cases h0 : X.num = 0
  · have e : sgnQ X = 0 := by unfold sgnQ; rw [if_neg (by omega), if_neg (by omega)]
    rw [decide_eq_true (by omega)] at Z
    rw [e]
    have HZ := Lib.hid Z
    clear Z e h0 hs
    go_enter Tryd.func17, Tryd.ntmps17
    go_wp2_with fail
    refine (HZ.out _ (below_alloc _ _)).mono ?_
    rintro e w' ⟨rfl, rfl⟩
    go_wp2_with fail
    go_ret
    exact ⟨rfl, below_alloc _ _⟩
  · rw [decide_eq_false (by omega)] at Z
    have HZ := Lib.hid Z
    by_cases h1 : X.num < 0
    · have e : sgnQ X = -1 := by unfold sgnQ; rw [if_pos h1]
      rw [decide_eq_true h1] at hs
      subst hs
      rw [e]
      clear Z e h0 h1 h
      go_enter Tryd.func17, Tryd.ntmps17
      go_wp2_with fail
      refine (HZ.out _ (below_alloc _ _)).mono ?_
      rintro e w' ⟨rfl, rfl⟩
      go_wp2_with fail
      go_ret
      exact ⟨rfl, below_alloc _ _⟩
    · have e : sgnQ X = 1 := by unfold sgnQ; rw [if_neg h1, if_pos (by omega)]
      rw [decide_eq_false h1] at hs
      subst hs
      rw [e]
      clear Z e h0 h1 h
      go_enter Tryd.func17, Tryd.ntmps17
      go_wp2_with fail
      refine (HZ.out _ (below_alloc _ _)).mono ?_
      rintro e w' ⟨rfl, rfl⟩
      go_wp2_with fail
      go_ret
      exact ⟨rfl, below_alloc _ _⟩

theorem of_rq (z : Int) : rq (decide (z < 0)) z.natAbs 1 = (z : Rat) := by
  unfold rq
  have e : sI (decide (z < 0)) z.natAbs = z := by unfold sI; by_cases h : z < 0 <;> simp [h] <;> omega
  rw [e]
  have := Rat.mkRat_self (z : Rat)
  simpa using this
set_option maxHeartbeats 1000000 in
theorem rat_of (z : Int) (hz1 : -9223372036854775808 ≤ z) (hz2 : z ≤ 9223372036854775807) (w : World) :
    Calls Tryd.prog 16 #[.int .i64 z] w (RetQ (z : Rat) w) := by
  have O := fun w1 => nat_of (z.natAbs : Int) (by unfold U; omega) w1
  have O1 := fun w1 => nat_of 1 (by unfold U; omega) w1
  rw [Int.toNat_natCast] at O
  rw [show (1 : Int).toNat = 1 from rfl] at O1
  have hp : z.natAbs < W ^ 1 := by rw [Nat.pow_one]; unfold W; omega
  have SG := fun (w1 : World) (A A' : Option Addr) (n n' c c' : Nat) (a : Sl w1 A n c (words z.natAbs)) (b : Sl w1 A' n' c' (words 1)) => rat_signed (decide (z < 0)) a b (by have := a.small hp; omega) (by omega) (Nat.gcd_one_right _)
  rw [of_rq] at SG
  have B1 := Box.new w 24 #[.bool false, .slice none 0 0, .slice none 0 0]
  have hb1 := below_alloc w (.cells #[.bool false, .slice none 0 0, .slice none 0 0] 24)
  generalize (z : Rat) = X at *
  by_cases hz : z < 0
  · have e : IntKind.u64.wrap (-(IntKind.u64.wrap z)) = (z.natAbs : Int) := by rw [wrapU, wrapU]; omega
    rw [decide_eq_true hz] at SG
    generalize ((z.natAbs : Nat) : Int) = m at *
    have HO := Lib.hid O
    have HO1 := Lib.hid O1
    have HSG := Lib.hid SG
    have HB1 := Lib.hid B1
    clear O O1 SG hp B1
    go_enter Tryd.func16, Tryd.ntmps16
    go_wp2_with fail
    refine (HO.out _).mono ?_
    rintro _ w1 ⟨A1, n1, c1, rfl, t1, b1⟩
    go_wp2_with fail
    refine (HO1.out _).mono ?_
    rintro _ w2 ⟨A2, n2, c2, rfl, t2, b2⟩
    go_wp2_with fail
    refine (HSG.out _ _ _ _ _ _ _ (t1.below b2) t2).mono ?_
    rintro _ w3 ⟨s3, A3, n3, c3, A4, n4, c4, rfl, q3, b3⟩
    have x3 := bb b1 (bb b2 b3)
    have B3 := HB1.out.below' x3
    obtain ⟨⟨r0, r1, r2⟩, f0, f1, f2⟩ := B3.three
    go_wp2_with fail
    refine bodyPost_ret (v := .agg #[.bool s3, .slice A3 n3 c3, .slice A4 n4 c4]) (by simp [results, Tryd.results16, go_sem, r0, r1, r2]) rfl ?_
    exact ⟨_, _, _, _, _, _, _, rfl, q3.put3 ⟨_, _, _, _, _, _, _, B3⟩, below_put3 (bb hb1 x3) (by omega) (Nat.le_refl _) _ _ _⟩
  · have e : IntKind.u64.wrap z = (z.natAbs : Int) := by rw [wrapU]; omega
    have hzz : ((z.natAbs : Nat) : Int) = z := by omega
    rw [hzz] at O e
    rw [decide_eq_false hz] at SG
    have HO := Lib.hid O
    have HO1 := Lib.hid O1
    have HSG := Lib.hid SG
    have HB1 := Lib.hid B1
    clear O O1 SG hp B1 hzz
    go_enter Tryd.func16, Tryd.ntmps16
    go_wp2_with fail
    refine (HO.out _).mono ?_
    rintro _ w1 ⟨A1, n1, c1, rfl, t1, b1⟩
    go_wp2_with fail
    refine (HO1.out _).mono ?_
    rintro _ w2 ⟨A2, n2, c2, rfl, t2, b2⟩
    go_wp2_with fail
    refine (HSG.out _ _ _ _ _ _ _ (t1.below b2) t2).mono ?_
    rintro _ w3 ⟨s3, A3, n3, c3, A4, n4, c4, rfl, q3, b3⟩
    have x3 := bb b1 (bb b2 b3)
    have B3 := HB1.out.below' x3
    obtain ⟨⟨r0, r1, r2⟩, f0, f1, f2⟩ := B3.three
    go_wp2_with fail
    refine bodyPost_ret (v := .agg #[.bool s3, .slice A3 n3 c3, .slice A4 n4 c4]) (by simp [results, Tryd.results16, go_sem, r0, r1, r2]) rfl ?_
    exact ⟨_, _, _, _, _, _, _, rfl, q3.put3 ⟨_, _, _, _, _, _, _, B3⟩, below_put3 (bb hb1 x3) (by omega) (Nat.le_refl _) _ _ _⟩

end Go.Proofs.YtnheefhbchkbdaaDoor

namespace Go.Proofs.YtnheefhbchkbdaaDoor
set_option maxRecDepth 100000
open Go.RowKit
set_option linter.unusedVariables false
set_option linter.unusedSimpArgs false

theorem sI_abs (s : Bool) (p : Nat) (z : Int) (h : sI s p = z) : sI s z.natAbs = z ∧ z.natAbs = p := by
  have : z.natAbs = p := by rw [← h, sI_natAbs]
  exact ⟨by rw [this]; exact h, this⟩

set_option maxHeartbeats 1000000 in
theorem rat_addSigned {w : World} {A A' : Option Addr} {n n' c c' p q : Nat} (s t : Bool) (h : Sl w A n c (words p)) (h' : Sl w A' n' c' (words q)) (hn : n ≤ 100000) (hn' : n' ≤ 100000) :
    Calls Tryd.prog 38 #[.bool s, .slice A n c, .bool t, .slice A' n' c'] w (RetSB (sI s p + sI t q) w) := by
  by_cases hst : s = t
  · subst hst
    have N := nat_add h h' (by omega) (by omega)
    rw [val_words, val_words] at N
    obtain ⟨e1, e2⟩ := sI_abs s (p + q) _ (sI_add_same s p q)
    generalize sI s p + sI s q = z at *
    rw [← e2] at N
    have HN := Lib.hid N
    have H1 := Lib.hid e1
    clear N e1 e2
    go_enter Tryd.func38, Tryd.ntmps38
    go_wp2_with fail
    refine HN.out.mono ?_
    rintro _ w1 ⟨A1, n1, c1, rfl, t1, b1⟩
    go_wp2_with fail
    go_ret2
    exact ⟨_, _, _, _, rfl, H1.out, t1, b1⟩
  · have hne : (s == t) = false := by simpa using hst
    by_cases hle : q ≤ p
    · have N := nat_sub_yes h h' (by omega) (by omega) (by rw [val_words, val_words]; exact hle)
      rw [val_words, val_words] at N
      obtain ⟨e1, e2⟩ := sI_abs s (p - q) _ (sI_add_left hst hle)
      generalize sI s p + sI t q = z at *
      rw [← e2] at N
      have HN := Lib.hid N
      have H1 := Lib.hid e1
      clear N e1 e2 hst hle
      go_enter Tryd.func38, Tryd.ntmps38
      go_wp2_with fail
      refine HN.out.mono ?_
      rintro _ w1 ⟨A1, n1, c1, rfl, t1, b1⟩
      go_wp2_with fail
      go_ret2
      exact ⟨_, _, _, _, rfl, H1.out, t1, b1⟩
    · have N1 := nat_sub_no h h' (by omega) (by omega) (by rw [val_words, val_words]; omega)
      have N := fun w1 (hb : Below w.heap.size w w1) => nat_sub_yes (h'.below hb) (h.below hb) (by omega) (by omega) (by rw [val_words, val_words]; omega)
      rw [val_words, val_words] at N
      obtain ⟨e1, e2⟩ := sI_abs t (q - p) _ (sI_add_right hst (by omega : p ≤ q))
      generalize sI s p + sI t q = z at *
      rw [← e2] at N
      have HN := Lib.hid N
      have HN1 := Lib.hid N1
      have H1 := Lib.hid e1
      clear N N1 e1 e2 hst hle
      go_enter Tryd.func38, Tryd.ntmps38
      go_wp2_with fail
      refine HN1.out.mono ?_
      rintro _ w1 ⟨A1, n1, c1, rfl, t1, b1⟩
      go_wp2_with fail
      refine (HN.out _ b1).mono ?_
      rintro _ w2 ⟨A2, n2, c2, rfl, t2, b2⟩
      go_wp2_with fail
      go_ret2
      exact ⟨_, _, _, _, rfl, H1.out, t2, bb b1 b2⟩

set_option maxRecDepth 100000 in
set_option maxHeartbeats 4000000 in
theorem rat_add {w : World} {s t : Bool} {A A' B B' : Option Addr} {n n' c c' m m' d d' N : Nat} {X Y : Rat} (h : Q w s A n c A' n' c' X) (k : Q w t B m d B' m' d' Y) (hX : Sz X N) (hY : Sz Y N) (hN : N ≤ 1000) :
    Calls Tryd.prog 15 #[.agg #[.bool s, .slice A n c, .slice A' n' c'], .agg #[.bool t, .slice B m d, .slice B' m' d']] w (RetQ (X + Y) w) := by
  obtain ⟨V, hW, Ba, Bb, Br, hb0⟩ := boxes2 24 w #[.bool s, .slice A n c, .slice A' n' c'] #[.bool t, .slice B m d, .slice B' m' d'] #[.bool false, .slice none 0 0, .slice none 0 0]
  have l1 : n ≤ N := h.2.1.small hX.1
  have l2 : n' ≤ N := h.2.2.small hX.2
  have l3 : m ≤ N := k.2.1.small hY.1
  have l4 : m' ≤ N := k.2.2.small hY.2
  have RD := fun w1 (hb : Below V.heap.size V w1) => gcd_reduce (N := N) (h.2.2.below (bb hb0 hb)) (k.2.2.below (bb hb0 hb)) (by omega) (by omega) (by omega)
  rw [val_words, val_words] at RD
  have M1 := fun w1 (hb : Below V.heap.size V w1) (C : Option Addr) (nc cc v : Nat) (a : Sl w1 C nc cc (words v)) (hl : nc ≤ N) => prod_mul (h.2.1.below (bb hb0 hb)) a (by omega)
  have M2 := fun w1 (hb : Below V.heap.size V w1) (C : Option Addr) (nc cc v : Nat) (a : Sl w1 C nc cc (words v)) (hl : nc ≤ N) => prod_mul (k.2.1.below (bb hb0 hb)) a (by omega)
  have M3 := fun w1 (hb : Below V.heap.size V w1) (C : Option Addr) (nc cc v : Nat) (a : Sl w1 C nc cc (words v)) (hl : nc ≤ N) => prod_mul (h.2.2.below (bb hb0 hb)) a (by omega)
  simp only [val_words] at M1 M2 M3
  have hden := add_den_ne X Y
  have hadd := fun (z : Int) (sz : Bool) (e : sI sz z.natAbs = z) (e2 : z = sI s (X.num.natAbs * (Y.den / Nat.gcd X.den Y.den)) + sI t (Y.num.natAbs * (X.den / Nat.gcd X.den Y.den))) => add_rq X Y (s := sz) (m := z.natAbs) (by rw [e, e2, sI_mul_nat, sI_mul_nat, h.1, k.1, sI_num, sI_num])
  have hu : X.den / Nat.gcd X.den Y.den < W ^ N := Nat.lt_of_le_of_lt (Nat.div_le_self _ _) hX.2
  have hv : Y.den / Nat.gcd X.den Y.den < W ^ N := Nat.lt_of_le_of_lt (Nat.div_le_self _ _) hY.2
  generalize X.den / Nat.gcd X.den Y.den = u at *
  generalize Y.den / Nat.gcd X.den Y.den = v at *
  have z1 := mul_lt_powW hX.1 hv
  have z2 := mul_lt_powW hY.1 hu
  have z3 := mul_lt_powW hX.2 hv
  have z4 : (sI s (X.num.natAbs * v) + sI t (Y.num.natAbs * u)).natAbs < W ^ (N + N + 1) := by
    have := two_pow_W (N + N)
    have := Int.natAbs_add_le (sI s (X.num.natAbs * v)) (sI t (Y.num.natAbs * u))
    rw [sI_natAbs, sI_natAbs] at this
    omega
  have hS : ∀ w', Below V.heap.size V w' → (w'.cell? ⟨w.heap.size, 0, none⟩ = some (.bool s) ∧ w'.cell? ⟨w.heap.size, 1, none⟩ = some (.slice A n c) ∧ w'.cell? ⟨w.heap.size, 2, none⟩ = some (.slice A' n' c')) ∧ (w'.cell? ⟨w.heap.size + 1, 0, none⟩ = some (.bool t) ∧ w'.cell? ⟨w.heap.size + 1, 1, none⟩ = some (.slice B m d) ∧ w'.cell? ⟨w.heap.size + 1, 2, none⟩ = some (.slice B' m' d')) := fun w' hb => ⟨(Ba.below' hb).three.1, (Bb.below' hb).three.1⟩
  generalize X + Y = Z at *
  generalize X.num.natAbs = p at *
  generalize Y.num.natAbs = q at *
  generalize X.den = p' at *
  have HRD := Lib.hid RD
  have HM1 := Lib.hid M1
  have HM2 := Lib.hid M2
  have HM3 := Lib.hid M3
  have HS := Lib.hid hS
  have HBr := Lib.hid Br
  have HW := Lib.hid hW
  have HA := Lib.hid hadd
  have Hu := Lib.hid hu
  have Hv := Lib.hid hv
  have Hz1 := Lib.hid z1
  have Hz2 := Lib.hid z2
  have Hz3 := Lib.hid z3
  have Hz4 := Lib.hid z4
  have HD := Lib.hid hden
  clear RD M1 M2 M3 hS Ba Bb Br hW hadd hu hv z1 z2 z3 z4 h k hX hY hden
  go_enter Tryd.func15, Tryd.ntmps15
  go_wp2_with fail
  refine (HRD.out _ (by rw [HW.out]; exact Below.refl _ _)).mono ?_
  rintro _ w1 ⟨A1, n1, c1, A2, n2, c2, rfl, t1, t2, b1⟩
  rw [HW.out] at b1
  have l5 : n1 ≤ N := t1.small Hu.out
  have l6 : n2 ≤ N := t2.small Hv.out
  obtain ⟨⟨k0, k1, k2⟩, j0, j1, j2⟩ := HS.out _ b1
  clear HRD HW
  go_wp2_with fail
  go_region_held3 (fun w' => (w'.cell? ⟨w.heap.size, 0, none⟩ = some (.bool s) ∧ w'.cell? ⟨w.heap.size, 1, none⟩ = some (.slice A n c) ∧ w'.cell? ⟨w.heap.size, 2, none⟩ = some (.slice A' n' c')) ∧ (w'.cell? ⟨w.heap.size + 1, 0, none⟩ = some (.bool t) ∧ w'.cell? ⟨w.heap.size + 1, 1, none⟩ = some (.slice B m d) ∧ w'.cell? ⟨w.heap.size + 1, 2, none⟩ = some (.slice B' m' d'))) (first | exact HS.out _ b1.drew | exact HS.out _ x4 | exact HS.out _ x3 | exact HS.out _ x2 | fail)
    (first
      | (go_at_call 27; (with_reducible refine (HM1.out _ ?hb1 _ _ _ v ?hc1 l6).mono ?_); (case hb1 => exact b1.drew); (case hc1 => exact t2); rintro _ w2 ⟨A3, n3, c3, rfl, t3, b2⟩; have x2 : Below V.heap.size V w2 := bb b1 (Below.undrew b2))
      | (go_at_call 27; (with_reducible refine (HM2.out _ ?hb2 _ _ _ u ?hc2 l5).mono ?_); (case hb2 => exact x2); (case hc2 => exact t1.below (Below.undrew b2)); rintro _ w3 ⟨A4, n4, c4, rfl, t4, b3⟩; have x3 : Below V.heap.size V w3 := bb x2 b3)
      | (go_at_call 38; (with_reducible refine (rat_addSigned s t (t3.below b3) t4 (by have := t3.small Hz1.out; omega) (by have := t4.small Hz2.out; omega)).mono ?_); rintro _ w4 ⟨s5, A5, n5, c5, rfl, e5, t5, b4⟩; have x4 : Below V.heap.size V w4 := bb x3 b4; have t24 := ((t2.below (Below.undrew b2)).below b3).below b4; have HE5 := Lib.hid e5; clear e5))
  all_goals
    obtain ⟨⟨k0, k1, k2⟩, j0, j1, j2⟩ := HS.out _ x4
    go_wp2_with fail
    refine (HM3.out _ x4 _ _ _ v t24 l6).mono ?_
    rintro _ w5 ⟨A6, n6, c6, rfl, t6, b5⟩
    have MK := rat_make s5 (t5.below b5) t6 (by have := t5.small Hz4.out; omega) (by have := t6.small Hz3.out; omega) (by rw [val_words]; exact HD.out)
    rw [val_words, val_words, HA.out _ s5 HE5.out rfl] at MK
    have HMK := Lib.hid MK
    clear MK
    go_wp2_with fail
    refine HMK.out.mono ?_
    rintro _ w6 ⟨s7, A7, n7, c7, A8, n8, c8, rfl, q7, b6⟩
    have x6 := bb x4 (bb b5 b6)
    have B6 := HBr.out.below' x6
    have hz6 : w.heap.size + 1 + 1 < w6.heap.size := B6.lt
    have hne6 : ¬ (w.heap.size + 1 + 1 = w6.heap.size) := by omega
    obtain ⟨⟨r0, r1, r2⟩, f0, f1, f2⟩ := B6.three
    go_wp2_with fail
    refine bodyPost_ret (v := .agg #[.bool s7, .slice A7 n7 c7, .slice A8 n8 c8]) (by simp [results, Tryd.results15, go_sem, r0, r1, r2, hz6, hne6]) rfl ?_
    have y6 := below_put3 (bb hb0 x6) (show w.heap.size ≤ w.heap.size + 1 + 1 by omega) (Nat.le_refl _) (.bool s7) (.slice A7 n7 c7) (.slice A8 n8 c8)
    exact ⟨_, _, _, _, _, _, _, rfl, (q7.put3 ⟨_, _, _, _, _, _, _, B6⟩).below (below_alloc _ _), y6.alloc y6.size _⟩

end Go.Proofs.YtnheefhbchkbdaaDoor
