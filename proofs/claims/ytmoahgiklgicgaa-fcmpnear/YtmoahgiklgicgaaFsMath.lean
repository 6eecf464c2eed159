/-
  Sums, products, quotients and roots of doubles, plainly: a number whose lowest bit stands for what was lost rounds like the exact one; what the sum and the difference of two doubles is. Conditions: as each lemma says.
-/
import Derived.Test.YtmoahgiklgicgaaFltRat
import Derived.Test.YtmoahgiklgicgaaFltMath3
namespace Go.Proofs.Ytmoahgiklgicgaa
set_option maxRecDepth 100000
open Go.RowKit
set_option linter.unusedVariables false
set_option linter.unusedSimpArgs false

/-- the lowest bit stands for what is lost -/
theorem mark_sticky {P Q : Nat} (e : Int) (hQ : 0 < Q) (hr : P % Q ≠ 0) (hb : 55 ≤ blen (P / Q)) : magR (2 * (P / Q / 2) + 1) 1 e = magR P Q e := by
  have h1 : P / (Q * 2) = P / Q / 2 := (Nat.div_div_eq_div_mul _ _ _).symm
  have h2 : P % (Q * 2) ≠ 0 := by
    intro h
    apply hr
    have := Nat.mod_mul_right_mod P Q 2
    rw [h, Nat.zero_mod] at this
    exact this.symm
  have h3 : 54 ≤ blen (P / (Q * 2)) := by
    rw [h1]
    have h4 : 0 < P / Q := by
      rcases Nat.eq_zero_or_pos (P / Q) with h | h
      · rw [h, blen_zero] at hb; omega
      · exact h
    have := blen_half h4
    omega
  have h5 := magR_sticky (p := P) (q := Q * 2) (e + 1) (by omega) h2 h3
  have h6 := magR_down P Q 1 hQ e
  rw [show Q * 2 ^ 1 = Q * 2 by rw [Nat.pow_one]] at h6
  have h7 := magR_two (2 * (P / (Q * 2)) + 1) (e + 1)
  rw [show e + 1 - 1 = e by omega] at h7
  rw [← h1, ← h7, ← h5]
  exact h6
theorem mark_exact {P Q : Nat} (e : Int) (hQ : 0 < Q) (hr : P % Q = 0) : magR (P / Q) 1 e = magR P Q e :=
  magR_eq (a := 0) (b := 0) (by omega) hQ (by rw [Nat.pow_zero, Nat.mul_one, Nat.mul_one, Nat.div_mul_cancel (Nat.dvd_of_mod_eq_zero hr)]; omega) (by omega)
/-- a number with its lowest bit set where something is left -/
def mkd (m : Nat) (more : Bool) : Nat := if more then 2 * (m / 2) + 1 else m
theorem mkd_yes (m : Nat) : mkd m true = 2 * (m / 2) + 1 := by unfold mkd; rw [if_pos rfl]
theorem mkd_no (m : Nat) : mkd m false = m := by unfold mkd; rw [if_neg (by decide)]
theorem mkd_round {P Q : Nat} (e : Int) (hQ : 0 < Q) (hb : P % Q ≠ 0 → 55 ≤ blen (P / Q)) : magR (mkd (P / Q) (decide (P % Q ≠ 0))) 1 e = magR P Q e := by
  by_cases h : P % Q = 0
  · rw [decide_eq_false (by omega), mkd_no]; exact mark_exact e hQ h
  · rw [decide_eq_true h, mkd_yes]; exact mark_sticky e hQ h (hb h)

/-! ### sums -/
theorem mag_low (V : Nat) : magR V 1 (-1074) = mag V 1 := by
  have := (magR_at (m := V) (e := -1074) (s := 0) (by omega)).1
  rw [this, Nat.pow_zero, Nat.mul_one]
/-- what a double's digits say, in units of the least double -/
def vl (b : Nat) : Nat := fv (mant b)
theorem vl_eq (b : Nat) : vl b = sig b * 2 ^ (xpo b + 1074).toNat := fv_mant b
/-- m / 2^n, with its lowest bit set where something is lost -/
def cutv (m n : Nat) : Nat := mkd (m / 2 ^ n) (decide (m % 2 ^ n ≠ 0))

theorem sum_at {am n : Nat} {ae be : Int} (hn : ae - be = n) (hbe : -1074 ≤ be) (z : Nat) (V : Nat) (hz : z = V * 1024) (hV : V * 2 ^ (be + 1074).toNat = am) : magR z (2 ^ n) (ae - 10) = mag am 1 := by
  have h1 : magR z (2 ^ n) (ae - 10) = magR V 1 be :=
    magR_eq (a := n) (b := 10) (Nat.two_pow_pos n) (by omega) (by subst hz; grind) (by omega)
  rw [h1, ← hV]
  exact (magR_at (m := V) (e := be) (s := (be + 1074).toNat) (by omega)).1
theorem cut_sum {am bm n : Nat} (hn : bm * 1024 % 2 ^ n ≠ 0 → B52 ≤ am) :
    am * 1024 + cutv (bm * 1024) n = mkd ((am * 1024 * 2 ^ n + bm * 1024) / 2 ^ n) (decide ((am * 1024 * 2 ^ n + bm * 1024) % 2 ^ n ≠ 0)) ∧
    ((am * 1024 * 2 ^ n + bm * 1024) % 2 ^ n ≠ 0 → 55 ≤ blen ((am * 1024 * 2 ^ n + bm * 1024) / 2 ^ n)) := by
  have hp := Nat.two_pow_pos n
  have e1 : (am * 1024 * 2 ^ n + bm * 1024) / 2 ^ n = am * 1024 + bm * 1024 / 2 ^ n := by rw [Nat.add_comm, Nat.add_mul_div_right _ _ hp, Nat.add_comm]
  have e2 : (am * 1024 * 2 ^ n + bm * 1024) % 2 ^ n = bm * 1024 % 2 ^ n := by rw [Nat.add_comm, Nat.add_mul_mod_self_right]
  rw [e1, e2]
  unfold cutv
  by_cases h : bm * 1024 % 2 ^ n = 0
  · rw [h, decide_eq_false (by omega), mkd_no, mkd_no]; exact ⟨rfl, fun h => absurd rfl h⟩
  · rw [decide_eq_true h, mkd_yes, mkd_yes]
    have := hn h
    rw [B52_eq] at this
    generalize bm * 1024 / 2 ^ n = k at *
    refine ⟨by omega, fun _ => ?_⟩
    exact blen_ge (k := 54) (by omega)
theorem cut_diff {am bm n : Nat} (hle : bm * 1024 ≤ am * 1024 * 2 ^ n) (hn : bm * 1024 % 2 ^ n ≠ 0 → B52 ≤ am ∧ bm * 1024 / 2 ^ n < B52) :
    am * 1024 - cutv (bm * 1024) n = mkd ((am * 1024 * 2 ^ n - bm * 1024) / 2 ^ n) (decide ((am * 1024 * 2 ^ n - bm * 1024) % 2 ^ n ≠ 0)) ∧
    ((am * 1024 * 2 ^ n - bm * 1024) % 2 ^ n ≠ 0 → 55 ≤ blen ((am * 1024 * 2 ^ n - bm * 1024) / 2 ^ n)) ∧
    cutv (bm * 1024) n ≤ am * 1024 ∧ (cutv (bm * 1024) n = am * 1024 ↔ bm = am * 2 ^ n) := by
  have hp := Nat.two_pow_pos n
  have hdm := Nat.div_add_mod' (bm * 1024) (2 ^ n)
  have hlt := Nat.mod_lt (bm * 1024) hp
  unfold cutv
  by_cases h : bm * 1024 % 2 ^ n = 0
  · rw [h] at hdm
    generalize bm * 1024 / 2 ^ n = k at *
    have hkle : k ≤ am * 1024 := by
      rcases Nat.lt_or_ge (am * 1024) k with hl | hl
      · have : (am * 1024 + 1) * 2 ^ n ≤ k * 2 ^ n := Nat.mul_le_mul_right _ hl
        rw [Nat.add_mul, Nat.one_mul] at this
        omega
      · exact hl
    have e1 : am * 1024 * 2 ^ n - bm * 1024 = (am * 1024 - k) * 2 ^ n := by rw [Nat.sub_mul]; omega
    rw [e1, Nat.mul_div_cancel _ hp, Nat.mul_mod_left, h, decide_eq_false (by omega), mkd_no, mkd_no]
    refine ⟨rfl, fun h => absurd rfl h, hkle, ?_⟩
    constructor
    · intro hk
      subst hk
      have : am * 1024 * 2 ^ n = am * 2 ^ n * 1024 := by grind
      omega
    · intro hk
      subst hk
      have e3 : am * 2 ^ n * 1024 = am * 1024 * 2 ^ n := by grind
      rw [e3] at hdm
      have : k * 2 ^ n = am * 1024 * 2 ^ n := by omega
      exact Nat.eq_of_mul_eq_mul_right hp this
  · obtain ⟨h1, h2⟩ := hn h
    rw [B52_eq] at h1 h2
    generalize bm * 1024 / 2 ^ n = k at *
    generalize hr : bm * 1024 % 2 ^ n = r at *
    have e1 : am * 1024 * 2 ^ n - bm * 1024 = (2 ^ n - r) + (am * 1024 - k - 1) * 2 ^ n := by
      obtain ⟨c, hc⟩ : ∃ c, am * 1024 = c + k + 1 := ⟨am * 1024 - k - 1, by omega⟩
      rw [hc, show c + k + 1 - k - 1 = c by omega]
      have : (c + k + 1) * 2 ^ n = c * 2 ^ n + k * 2 ^ n + 2 ^ n := by grind
      omega
    have e2 : (am * 1024 * 2 ^ n - bm * 1024) / 2 ^ n = am * 1024 - k - 1 := by
      rw [e1, Nat.add_mul_div_right _ _ hp, Nat.div_eq_of_lt (by omega)]; omega
    have e3 : (am * 1024 * 2 ^ n - bm * 1024) % 2 ^ n = 2 ^ n - r := by
      rw [e1, Nat.add_mul_mod_self_right, Nat.mod_eq_of_lt (by omega)]
    rw [e2, e3, decide_eq_true h, decide_eq_true (show 2 ^ n - r ≠ 0 by omega), mkd_yes, mkd_yes]
    refine ⟨by omega, fun _ => blen_ge (k := 54) (by omega), by omega, ?_⟩
    constructor
    · intro hx; omega
    · intro hx
      exfalso
      subst hx
      rw [show am * 2 ^ n * 1024 = am * 1024 * 2 ^ n by grind, Nat.mul_mod_left] at hr
      omega

theorem xpo_mono {a b : Nat} (h : mant b ≤ mant a) : xpo b ≤ xpo a := by
  have h1 := mant_fld a
  have h2 := mant_fld b
  have h3 : mant b / B52 ≤ mant a / B52 := Nat.div_le_div_right h
  unfold xpo
  split <;> split <;> omega
theorem vl_mono {a b : Nat} (ha : fld a < 2047) (hb : fld b < 2047) : (vl b ≤ vl a ↔ mant b ≤ mant a) ∧ (vl a = vl b ↔ mant a = mant b) := by
  unfold vl
  have h1 := mant_lt ha
  have h2 := mant_lt hb
  rcases Nat.lt_trichotomy (mant a) (mant b) with h | h | h
  · have := fv_lt h1 h2 h; omega
  · rw [h]; omega
  · have := fv_lt h2 h1 h; omega
/-- the exponents' difference counts only above a full significand -/
theorem sig_full {a b : Nat} (h : xpo b < xpo a) : B52 ≤ sig a := by
  rw [B52_eq]
  by_cases h1 : fld a = 0
  · exfalso
    unfold xpo at h
    rw [if_pos h1] at h
    split at h <;> omega
  · unfold sig
    rw [if_neg h1]; omega
theorem cut_cond {a b n : Nat} (hn : xpo a - xpo b = n) (h : sig b * 1024 % 2 ^ n ≠ 0) : B52 ≤ sig a ∧ sig b * 1024 / 2 ^ n < B52 := by
  have h1 : 11 ≤ n := by
    rcases Nat.lt_or_ge n 11 with hl | hl
    · exfalso
      apply h
      have : (1024 : Nat) = 2 ^ (10 - n) * 2 ^ n := by rw [← Nat.pow_add, show 10 - n + n = 10 by omega]
      rw [this, ← Nat.mul_assoc, Nat.mul_mod_left]
    · exact hl
  refine ⟨sig_full (b := b) (by omega), ?_⟩
  have h2 := sig_lt b
  rw [B52_eq]
  refine Nat.div_lt_of_lt_mul ?_
  have h3 : 2 ^ 11 ≤ 2 ^ n := Nat.pow_le_pow_right (by omega) h1
  have h4 : 2048 * 4503599627370496 ≤ 2 ^ n * 4503599627370496 := Nat.mul_le_mul_right _ (by omega)
  omega

/-- the sum of two doubles that have values -/
def fsumF (a b : Nat) : Nat :=
  if ng a = ng b then sg (ng a) (mag (vl a + vl b) 1) else if vl a = vl b then 0 else if vl b < vl a then sg (ng a) (mag (vl a - vl b) 1) else sg (ng b) (mag (vl b - vl a) 1)
theorem fsumF_comm (a b : Nat) : fsumF a b = fsumF b a := by
  unfold fsumF
  by_cases h : ng a = ng b
  · rw [if_pos h, if_pos h.symm, h, Nat.add_comm]
  · have h' : ¬ ng b = ng a := fun x => h x.symm
    rw [if_neg h, if_neg h']
    by_cases h2 : vl a = vl b
    · rw [if_pos h2, if_pos h2.symm]
    · have h2' : ¬ vl b = vl a := fun x => h2 x.symm
      rw [if_neg h2, if_neg h2']
      by_cases h3 : vl b < vl a
      · rw [if_pos h3, if_neg (by omega)]
      · rw [if_neg h3, if_pos (by omega)]
theorem vl_parts {a b n : Nat} (hb : fld b < 2047) (hn : xpo a - xpo b = n) : vl a = sig a * 2 ^ n * 2 ^ (xpo b + 1074).toNat ∧ vl b = sig b * 2 ^ (xpo b + 1074).toNat := by
  have h1 := (xpo_range hb).1
  refine ⟨?_, vl_eq b⟩
  rw [vl_eq a, Nat.mul_assoc, ← Nat.pow_add]
  congr 2
  omega
/-- what the program computes, the greater one first -/
theorem sum_same {a b n : Nat} (hb : fld b < 2047) (hn : xpo a - xpo b = n) : magR (sig a * 1024 + cutv (sig b * 1024) n) 1 (xpo a - 10) = mag (vl a + vl b) 1 := by
  obtain ⟨h1, h2⟩ := cut_sum (am := sig a) (bm := sig b) (n := n) (fun h => (cut_cond hn h).1)
  obtain ⟨v1, v2⟩ := vl_parts hb hn
  rw [h1, mkd_round _ (Nat.two_pow_pos n) h2]
  exact sum_at hn (xpo_range hb).1 _ (sig a * 2 ^ n + sig b) (by grind) (by rw [v1, v2, Nat.add_mul])
theorem sum_diff {a b n : Nat} (hb : fld b < 2047) (hn : xpo a - xpo b = n) (hle : vl b ≤ vl a) :
    magR (sig a * 1024 - cutv (sig b * 1024) n) 1 (xpo a - 10) = mag (vl a - vl b) 1 ∧ cutv (sig b * 1024) n ≤ sig a * 1024 ∧ (cutv (sig b * 1024) n = sig a * 1024 ↔ vl a = vl b) := by
  obtain ⟨v1, v2⟩ := vl_parts hb hn
  have hp := Nat.two_pow_pos (xpo b + 1074).toNat
  have hle2 : sig b ≤ sig a * 2 ^ n := by
    rw [v1, v2] at hle
    exact Nat.le_of_mul_le_mul_right hle hp
  obtain ⟨h1, h2, h3, h4⟩ := cut_diff (am := sig a) (bm := sig b) (n := n) (by
    have := Nat.mul_le_mul_right 1024 hle2
    rw [show sig a * 2 ^ n * 1024 = sig a * 1024 * 2 ^ n by grind] at this
    exact this) (fun h => cut_cond hn h)
  refine ⟨?_, h3, ?_⟩
  · rw [h1, mkd_round _ (Nat.two_pow_pos n) h2]
    exact sum_at hn (xpo_range hb).1 _ (sig a * 2 ^ n - sig b) (by rw [Nat.sub_mul]; congr 1; grind) (by rw [v1, v2, Nat.sub_mul])
  · rw [h4, v1, v2]
    constructor
    · intro h; rw [h]
    · intro h; exact (Nat.eq_of_mul_eq_mul_right hp h).symm
theorem cutv_lt {m n : Nat} (h : m < 9223372036854775808) : cutv m n < 9223372036854775808 := by
  have : m / 2 ^ n ≤ m := Nat.div_le_self _ _
  unfold cutv mkd
  split <;> omega

/-- the sum of two doubles of any kinds -/
def fadd (a b : Nat) : Nat :=
  if kd a = 4 ∨ kd b = 4 ∨ (kd a = 3 ∧ kd b = 3 ∧ a ≠ b) then NAN else if kd a = 3 then a else if kd b = 3 then b else fsumF a b
def fsub (a b : Nat) : Nat := fadd a (flc b)
theorem fadd_comm (a b : Nat) : fadd a b = fadd b a := by
  unfold fadd
  by_cases h1 : kd a = 4
  · rw [if_pos (.inl h1), if_pos (.inr (.inl h1))]
  · by_cases h2 : kd b = 4
    · rw [if_pos (.inr (.inl h2)), if_pos (.inl h2)]
    · by_cases h3 : kd a = 3
      · by_cases h4 : kd b = 3
        · by_cases h5 : a = b
          · subst h5; rfl
          · rw [if_pos (.inr (.inr ⟨h3, h4, h5⟩)), if_pos (.inr (.inr ⟨h4, h3, fun x => h5 x.symm⟩))]
        · rw [if_neg (by omega), if_pos h3, if_neg (by omega), if_neg h4, if_pos h3]
      · by_cases h4 : kd b = 3
        · rw [if_neg (by omega), if_neg h3, if_pos h4, if_neg (by omega), if_pos h4]
        · rw [if_neg (by omega), if_neg h3, if_neg h4, if_neg (by omega), if_neg h4, if_neg h3, fsumF_comm]
theorem kd_cases (b : Nat) : kd b ≤ 4 ∧ (kd b ≤ 2 ↔ fld b < 2047) := by
  have := fld_lt b
  unfold kd
  split
  · split <;> omega
  · split
    · split <;> omega
    · omega

end Go.Proofs.Ytmoahgiklgicgaa
