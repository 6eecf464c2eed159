/-
  What fround.halfEven, Word and FromInt return. Conditions: the words and ints fit their kinds; halfEven's count is at least 1.
-/
import Derived.Test.YtibgpeaplmcogaaGreatDoorFltMath2AllE
import Derived.Test.YtibgpeaplmcogaaGreatDoorU64AllE
import Derived.Deep.DeepCutAuto
namespace Go.Proofs.YtibgpeaplmcogaaGreatDoor
set_option maxRecDepth 100000
open Go.RowKit
set_option linter.unusedVariables false
set_option linter.unusedSimpArgs false

/-- the lowest bit stands for what is lost -/
theorem mark_sticky {P Q : Nat} (e : Int) (hQ : 0 < Q) (hr : P % Q ≠ 0) (hb : 55 ≤ blen (P / Q)) : magR (2 * (P / Q / 2) + 1) 1 e = magR P Q e := by
  have h1 : P / (Q * 2) = P / Q / 2 := (Nat.div_div_eq_div_mul _ _ _).symm
  have h2 : P % (Q * 2) ≠ 0 := by
    intro h
    apply hr
    have := Nat.mod_mul_right_mod P Q 2
    rw [h, Nat.zero_mod] at this
    exact this.symm
  have h3 : 54 ≤ blen (P / (Q * 2)) := by
    rw [h1]
    have h4 : 0 < P / Q := by
      rcases Nat.eq_zero_or_pos (P / Q) with h | h
      · rw [h, blen_zero] at hb; omega
      · exact h
    have := blen_half h4
    omega
  have h5 := magR_sticky (p := P) (q := Q * 2) (e + 1) (by omega) h2 h3
  have h6 := magR_down P Q 1 hQ e
  rw [show Q * 2 ^ 1 = Q * 2 by rw [Nat.pow_one]] at h6
  have h7 := magR_two (2 * (P / (Q * 2)) + 1) (e + 1)
  rw [show e + 1 - 1 = e by omega] at h7
  rw [← h1, ← h7, ← h5]
  exact h6
theorem mark_exact {P Q : Nat} (e : Int) (hQ : 0 < Q) (hr : P % Q = 0) : magR (P / Q) 1 e = magR P Q e :=
  magR_eq (a := 0) (b := 0) (by omega) hQ (by rw [Nat.pow_zero, Nat.mul_one, Nat.mul_one, Nat.div_mul_cancel (Nat.dvd_of_mod_eq_zero hr)]; omega) (by omega)
/-- a number with its lowest bit set where something is left -/
def mkd (m : Nat) (more : Bool) : Nat := if more then 2 * (m / 2) + 1 else m
theorem mkd_yes (m : Nat) : mkd m true = 2 * (m / 2) + 1 := by unfold mkd; rw [if_pos rfl]
theorem mkd_no (m : Nat) : mkd m false = m := by unfold mkd; rw [if_neg (by decide)]
theorem mkd_round {P Q : Nat} (e : Int) (hQ : 0 < Q) (hb : P % Q ≠ 0 → 55 ≤ blen (P / Q)) : magR (mkd (P / Q) (decide (P % Q ≠ 0))) 1 e = magR P Q e := by
  by_cases h : P % Q = 0
  · rw [decide_eq_false (by omega), mkd_no]; exact mark_exact e hQ h
  · rw [decide_eq_true h, mkd_yes]; exact mark_sticky e hQ h (hb h)

/-! ### sums -/
/-- what a double's digits say, in units of the least double -/
def vl (b : Nat) : Nat := fv (mant b)
theorem vl_eq (b : Nat) : vl b = sig b * 2 ^ (xpo b + 1074).toNat := fv_mant b
/-- m / 2^n, with its lowest bit set where something is lost -/
def cutv (m n : Nat) : Nat := mkd (m / 2 ^ n) (decide (m % 2 ^ n ≠ 0))

theorem sum_at {am n : Nat} {ae be : Int} (hn : ae - be = n) (hbe : -1074 ≤ be) (z : Nat) (V : Nat) (hz : z = V * 1024) (hV : V * 2 ^ (be + 1074).toNat = am) : magR z (2 ^ n) (ae - 10) = mag am 1 := by
  have h1 : magR z (2 ^ n) (ae - 10) = magR V 1 be :=
    magR_eq (a := n) (b := 10) (Nat.two_pow_pos n) (by omega) (by subst hz; grind) (by omega)
  rw [h1, ← hV]
  exact (magR_at (m := V) (e := be) (s := (be + 1074).toNat) (by omega)).1
theorem cut_sum {am bm n : Nat} (hn : bm * 1024 % 2 ^ n ≠ 0 → B52 ≤ am) :
    am * 1024 + cutv (bm * 1024) n = mkd ((am * 1024 * 2 ^ n + bm * 1024) / 2 ^ n) (decide ((am * 1024 * 2 ^ n + bm * 1024) % 2 ^ n ≠ 0)) ∧
    ((am * 1024 * 2 ^ n + bm * 1024) % 2 ^ n ≠ 0 → 55 ≤ blen ((am * 1024 * 2 ^ n + bm * 1024) / 2 ^ n)) := by
  have hp := Nat.two_pow_pos n
  have e1 : (am * 1024 * 2 ^ n + bm * 1024) / 2 ^ n = am * 1024 + bm * 1024 / 2 ^ n := by rw [Nat.add_comm, Nat.add_mul_div_right _ _ hp, Nat.add_comm]
  have e2 : (am * 1024 * 2 ^ n + bm * 1024) % 2 ^ n = bm * 1024 % 2 ^ n := by rw [Nat.add_comm, Nat.add_mul_mod_self_right]
  rw [e1, e2]
  unfold cutv
  by_cases h : bm * 1024 % 2 ^ n = 0
  · rw [h, decide_eq_false (by omega), mkd_no, mkd_no]; exact ⟨rfl, fun h => absurd rfl h⟩
  · rw [decide_eq_true h, mkd_yes, mkd_yes]
    have := hn h
    rw [B52_eq] at this
    generalize bm * 1024 / 2 ^ n = k at *
    refine ⟨by omega, fun _ => ?_⟩
    exact blen_ge (k := 54) (by omega)
theorem cut_diff {am bm n : Nat} (hle : bm * 1024 ≤ am * 1024 * 2 ^ n) (hn : bm * 1024 % 2 ^ n ≠ 0 → B52 ≤ am ∧ bm * 1024 / 2 ^ n < B52) :
    am * 1024 - cutv (bm * 1024) n = mkd ((am * 1024 * 2 ^ n - bm * 1024) / 2 ^ n) (decide ((am * 1024 * 2 ^ n - bm * 1024) % 2 ^ n ≠ 0)) ∧
    ((am * 1024 * 2 ^ n - bm * 1024) % 2 ^ n ≠ 0 → 55 ≤ blen ((am * 1024 * 2 ^ n - bm * 1024) / 2 ^ n)) ∧
    cutv (bm * 1024) n ≤ am * 1024 ∧ (cutv (bm * 1024) n = am * 1024 ↔ bm = am * 2 ^ n) := by
  have hp := Nat.two_pow_pos n
  have hdm := Nat.div_add_mod' (bm * 1024) (2 ^ n)
  have hlt := Nat.mod_lt (bm * 1024) hp
  unfold cutv
  by_cases h : bm * 1024 % 2 ^ n = 0
  · rw [h] at hdm
    generalize bm * 1024 / 2 ^ n = k at *
    have hkle : k ≤ am * 1024 := by
      rcases Nat.lt_or_ge (am * 1024) k with hl | hl
      · have : (am * 1024 + 1) * 2 ^ n ≤ k * 2 ^ n := Nat.mul_le_mul_right _ hl
        rw [Nat.add_mul, Nat.one_mul] at this
        omega
      · exact hl
    have e1 : am * 1024 * 2 ^ n - bm * 1024 = (am * 1024 - k) * 2 ^ n := by rw [Nat.sub_mul]; omega
    rw [e1, Nat.mul_div_cancel _ hp, Nat.mul_mod_left, h, decide_eq_false (by omega), mkd_no, mkd_no]
    refine ⟨rfl, fun h => absurd rfl h, hkle, ?_⟩
    constructor
    · intro hk
      subst hk
      have : am * 1024 * 2 ^ n = am * 2 ^ n * 1024 := by grind
      omega
    · intro hk
      subst hk
      have e3 : am * 2 ^ n * 1024 = am * 1024 * 2 ^ n := by grind
      rw [e3] at hdm
      have : k * 2 ^ n = am * 1024 * 2 ^ n := by omega
      exact Nat.eq_of_mul_eq_mul_right hp this
  · obtain ⟨h1, h2⟩ := hn h
    rw [B52_eq] at h1 h2
    generalize bm * 1024 / 2 ^ n = k at *
    generalize hr : bm * 1024 % 2 ^ n = r at *
    have e1 : am * 1024 * 2 ^ n - bm * 1024 = (2 ^ n - r) + (am * 1024 - k - 1) * 2 ^ n := by
      obtain ⟨c, hc⟩ : ∃ c, am * 1024 = c + k + 1 := ⟨am * 1024 - k - 1, by omega⟩
      rw [hc, show c + k + 1 - k - 1 = c by omega]
      have : (c + k + 1) * 2 ^ n = c * 2 ^ n + k * 2 ^ n + 2 ^ n := by grind
      omega
    have e2 : (am * 1024 * 2 ^ n - bm * 1024) / 2 ^ n = am * 1024 - k - 1 := by
      rw [e1, Nat.add_mul_div_right _ _ hp, Nat.div_eq_of_lt (by omega)]; omega
    have e3 : (am * 1024 * 2 ^ n - bm * 1024) % 2 ^ n = 2 ^ n - r := by
      rw [e1, Nat.add_mul_mod_self_right, Nat.mod_eq_of_lt (by omega)]
    rw [e2, e3, decide_eq_true h, decide_eq_true (show 2 ^ n - r ≠ 0 by omega), mkd_yes, mkd_yes]
    refine ⟨by omega, fun _ => blen_ge (k := 54) (by omega), by omega, ?_⟩
    constructor
    · intro hx; omega
    · intro hx
      exfalso
      subst hx
      rw [show am * 2 ^ n * 1024 = am * 1024 * 2 ^ n by grind, Nat.mul_mod_left] at hr
      omega

theorem xpo_mono {a b : Nat} (h : mant b ≤ mant a) : xpo b ≤ xpo a := by
  have h1 := mant_fld a
  have h2 := mant_fld b
  have h3 : mant b / B52 ≤ mant a / B52 := Nat.div_le_div_right h
  unfold xpo
  split <;> split <;> omega
theorem vl_mono {a b : Nat} (ha : fld a < 2047) (hb : fld b < 2047) : (vl b ≤ vl a ↔ mant b ≤ mant a) ∧ (vl a = vl b ↔ mant a = mant b) := by
  unfold vl
  have h1 := mant_lt ha
  have h2 := mant_lt hb
  rcases Nat.lt_trichotomy (mant a) (mant b) with h | h | h
  · have := fv_lt h1 h2 h; omega
  · rw [h]; omega
  · have := fv_lt h2 h1 h; omega
/-- the exponents' difference counts only above a full significand -/
theorem sig_full {a b : Nat} (h : xpo b < xpo a) : B52 ≤ sig a := by
  rw [B52_eq]
  by_cases h1 : fld a = 0
  · exfalso
    unfold xpo at h
    rw [if_pos h1] at h
    split at h <;> omega
  · unfold sig
    rw [if_neg h1]; omega
theorem cut_cond {a b n : Nat} (hn : xpo a - xpo b = n) (h : sig b * 1024 % 2 ^ n ≠ 0) : B52 ≤ sig a ∧ sig b * 1024 / 2 ^ n < B52 := by
  have h1 : 11 ≤ n := by
    rcases Nat.lt_or_ge n 11 with hl | hl
    · exfalso
      apply h
      have : (1024 : Nat) = 2 ^ (10 - n) * 2 ^ n := by rw [← Nat.pow_add, show 10 - n + n = 10 by omega]
      rw [this, ← Nat.mul_assoc, Nat.mul_mod_left]
    · exact hl
  refine ⟨sig_full (b := b) (by omega), ?_⟩
  have h2 := sig_lt b
  rw [B52_eq]
  refine Nat.div_lt_of_lt_mul ?_
  have h3 : 2 ^ 11 ≤ 2 ^ n := Nat.pow_le_pow_right (by omega) h1
  have h4 : 2048 * 4503599627370496 ≤ 2 ^ n * 4503599627370496 := Nat.mul_le_mul_right _ (by omega)
  omega

/-- the sum of two doubles that have values -/
def fsumF (a b : Nat) : Nat :=
  if ng a = ng b then sg (ng a) (mag (vl a + vl b) 1) else if vl a = vl b then 0 else if vl b < vl a then sg (ng a) (mag (vl a - vl b) 1) else sg (ng b) (mag (vl b - vl a) 1)
theorem fsumF_comm (a b : Nat) : fsumF a b = fsumF b a := by
  unfold fsumF
  by_cases h : ng a = ng b
  · rw [if_pos h, if_pos h.symm, h, Nat.add_comm]
  · have h' : ¬ ng b = ng a := fun x => h x.symm
    rw [if_neg h, if_neg h']
    by_cases h2 : vl a = vl b
    · rw [if_pos h2, if_pos h2.symm]
    · have h2' : ¬ vl b = vl a := fun x => h2 x.symm
      rw [if_neg h2, if_neg h2']
      by_cases h3 : vl b < vl a
      · rw [if_pos h3, if_neg (by omega)]
      · rw [if_neg h3, if_pos (by omega)]
theorem vl_parts {a b n : Nat} (hb : fld b < 2047) (hn : xpo a - xpo b = n) : vl a = sig a * 2 ^ n * 2 ^ (xpo b + 1074).toNat ∧ vl b = sig b * 2 ^ (xpo b + 1074).toNat := by
  have h1 := (xpo_range hb).1
  refine ⟨?_, vl_eq b⟩
  rw [vl_eq a, Nat.mul_assoc, ← Nat.pow_add]
  congr 2
  omega
/-- what the program computes, the greater one first -/
theorem sum_same {a b n : Nat} (hb : fld b < 2047) (hn : xpo a - xpo b = n) : magR (sig a * 1024 + cutv (sig b * 1024) n) 1 (xpo a - 10) = mag (vl a + vl b) 1 := by
  obtain ⟨h1, h2⟩ := cut_sum (am := sig a) (bm := sig b) (n := n) (fun h => (cut_cond hn h).1)
  obtain ⟨v1, v2⟩ := vl_parts hb hn
  rw [h1, mkd_round _ (Nat.two_pow_pos n) h2]
  exact sum_at hn (xpo_range hb).1 _ (sig a * 2 ^ n + sig b) (by grind) (by rw [v1, v2, Nat.add_mul])
theorem sum_diff {a b n : Nat} (hb : fld b < 2047) (hn : xpo a - xpo b = n) (hle : vl b ≤ vl a) :
    magR (sig a * 1024 - cutv (sig b * 1024) n) 1 (xpo a - 10) = mag (vl a - vl b) 1 ∧ cutv (sig b * 1024) n ≤ sig a * 1024 ∧ (cutv (sig b * 1024) n = sig a * 1024 ↔ vl a = vl b) := by
  obtain ⟨v1, v2⟩ := vl_parts hb hn
  have hp := Nat.two_pow_pos (xpo b + 1074).toNat
  have hle2 : sig b ≤ sig a * 2 ^ n := by
    rw [v1, v2] at hle
    exact Nat.le_of_mul_le_mul_right hle hp
  obtain ⟨h1, h2, h3, h4⟩ := cut_diff (am := sig a) (bm := sig b) (n := n) (by
    have := Nat.mul_le_mul_right 1024 hle2
    rw [show sig a * 2 ^ n * 1024 = sig a * 1024 * 2 ^ n by grind] at this
    exact this) (fun h => cut_cond hn h)
  refine ⟨?_, h3, ?_⟩
  · rw [h1, mkd_round _ (Nat.two_pow_pos n) h2]
    exact sum_at hn (xpo_range hb).1 _ (sig a * 2 ^ n - sig b) (by rw [Nat.sub_mul]; congr 1; grind) (by rw [v1, v2, Nat.sub_mul])
  · rw [h4, v1, v2]
    constructor
    · intro h; rw [h]
    · intro h; exact (Nat.eq_of_mul_eq_mul_right hp h).symm
theorem cutv_lt {m n : Nat} (h : m < 9223372036854775808) : cutv m n < 9223372036854775808 := by
  have : m / 2 ^ n ≤ m := Nat.div_le_self _ _
  unfold cutv mkd
  split <;> omega

/-- the sum of two doubles of any kinds -/
def fadd (a b : Nat) : Nat :=
  if kd a = 4 ∨ kd b = 4 ∨ (kd a = 3 ∧ kd b = 3 ∧ a ≠ b) then NAN else if kd a = 3 then a else if kd b = 3 then b else fsumF a b
def fsub (a b : Nat) : Nat := fadd a (flc b)
theorem kd_cases (b : Nat) : kd b ≤ 4 ∧ (kd b ≤ 2 ↔ fld b < 2047) := by
  have := fld_lt b
  unfold kd
  split
  · split <;> omega
  · split
    · split <;> omega
    · omega

end Go.Proofs.YtibgpeaplmcogaaGreatDoor

namespace Go.Proofs.YtibgpeaplmcogaaGreatDoor
set_option maxRecDepth 100000
open Go.RowKit
set_option linter.unusedVariables false
set_option linter.unusedSimpArgs false

/-- the double of a significand and an exponent, or 0 -/
def mkW (s : Bool) (m : Nat) (e : Int) : Nat := if ExR m 1 e then sg s (magR m 1 e) else 0
theorem exR_zero (e : Int) : ExR 0 1 e := by
  unfold ExR Ex ulp
  rw [Nat.zero_mul, Nat.zero_div, Nat.zero_mod, blen_zero]
  exact ⟨rfl, rfl, by omega⟩
theorem mkW_yes {s : Bool} {m : Nat} {e : Int} (h : ExR m 1 e) : mkW s m e = sg s (magR m 1 e) := if_pos h
theorem mkW_no {s : Bool} {m : Nat} {e : Int} (h : ¬ ExR m 1 e) : mkW s m e = 0 := if_neg h
def RetMk (s : Bool) (m : Nat) (e : Int) (w : World) (x : Ending) (w' : World) : Prop := x = .returned (.tuple #[.int .u64 (mkW s m e), .bool (decide (ExR m 1 e))]) ∧ w = w'
theorem retMk_no {s : Bool} {m : Nat} {e : Int} {w : World} (h : ¬ ExR m 1 e) : RetMk s m e w (.returned (.tuple #[.int .u64 0, .bool false])) w := by
  unfold RetMk
  rw [mkW_no h, decide_eq_false h]
  exact ⟨rfl, rfl⟩
theorem retMk_yes {s : Bool} {m b : Nat} {e : Int} {w : World} {v : Int} (h : ExR m 1 e) (hb : magR m 1 e = b) (hv : v = sg s b) : RetMk s m e w (.returned (.tuple #[.int .u64 v, .bool true])) w := by
  unfold RetMk
  rw [mkW_yes h, decide_eq_true h, hb, hv]
  exact ⟨rfl, rfl⟩
theorem low_bits {m : Nat} (h0 : 0 < m) (hm : m < 18446744073709551616) : bits .and .u64 (m : Int) (IntKind.u64.wrap (-(m : Int))) = ((2 ^ tz m : Nat) : Int) := by
  rw [show IntKind.u64.wrap (-(m : Int)) = (18446744073709551616 : Int) - m by rw [wrapU]; omega]
  have h1 := u64_and_nat m (18446744073709551616 - m) hm (by omega)
  rw [show ((18446744073709551616 - m : Nat) : Int) = (18446744073709551616 : Int) - m by omega] at h1
  rw [h1]
  have h2 := low_bit h0 (by omega)
  rw [show (2 : Nat) ^ 64 = 18446744073709551616 by decide] at h2
  rw [h2]
theorem blen_pow (t : Nat) : blen (2 ^ t) = t + 1 := blen_unique (by rw [Nat.pow_succ]; have := Nat.two_pow_pos t; omega) (Nat.le_refl _)
theorem tz_lt64 {m : Nat} (h0 : 0 < m) (hm : m < 18446744073709551616) : tz m < 64 := by
  obtain ⟨_, h2⟩ := tz_part h0
  have h3 := bit_lt_blen h2
  have := blen_le (n := m) (k := 64) (by omega)
  omega

theorem make_val1 {m o K : Nat} {e : Int} (g1 : magR m 1 e = 0 * B52 + o * 2 ^ K) (g3 : o * 2 ^ K < 2 * B52) : IntKind.u64.wrap (IntKind.u64.wrap ((o : Int) * 2 ^ K)) = ((magR m 1 e : Nat) : Int) := by
  have hc : (o : Int) * 2 ^ K = ((o * 2 ^ K : Nat) : Int) := by push_cast; rfl
  have hB := B52_eq
  rw [g1, hc, wrapU, wrapU, Nat.zero_mul, Nat.zero_add]
  generalize o * 2 ^ K = x at *
  omega
theorem make_val2 {m o K : Nat} {e L : Int} (hL : 0 ≤ L) (hL2 : L ≤ 2045) (g1 : magR m 1 e = L.toNat * B52 + o * 2 ^ K) (g3 : o * 2 ^ K < 2 * B52) : IntKind.u64.wrap (L * 4503599627370496 + IntKind.u64.wrap ((o : Int) * 2 ^ K)) = ((magR m 1 e : Nat) : Int) := by
  have hc : (o : Int) * 2 ^ K = ((o * 2 ^ K : Nat) : Int) := by push_cast; rfl
  obtain ⟨l, rfl⟩ := Int.eq_ofNat_of_zero_le hL
  rw [g1, hc, wrapU, wrapU, Int.toNat_natCast]
  simp only [B52_eq] at g3 ⊢
  generalize o * 2 ^ K = x at *
  omega
theorem magR_le (p q : Nat) (e : Int) : magR p q e ≤ 9218868437227405312 := by have := mag_le (p * 2 ^ up e) (q * 2 ^ dn e); rw [INF_lit] at this; exact this

set_option maxHeartbeats 2000000 in
theorem fb_make (s : Bool) {m : Nat} (hm : m < 18446744073709551616) {e : Int} (he : -9223372036854775808 ≤ e) (he2 : e ≤ 9223372036854775807) (w : World) :
    Calls Tryz.prog 209 #[.bool s, .int .u64 m, .int .i64 e] w (RetMk s m e w) := by
  rcases Nat.eq_zero_or_pos m with rfl | h0
  · have S := Lib.hid (fb_signed s (b := 0) (by omega) w)
    go_enter Tryz.func209, Tryz.ntmps209
    go_wp2_with fail
    refine S.out.mono ?_
    rintro _ w' ⟨rfl, rfl⟩
    go_wp2_with fail
    go_ret2
    exact retMk_yes (exR_zero e) (magR_zero 1 e) rfl
  · have hz : ((m : Int) == 0) = false := by simp; omega
    obtain ⟨hp, ho⟩ := tz_part h0
    have ht := tz_lt64 h0 hm
    have hl := low_bits h0 hm
    have hbl := blen_pow (tz m)
    have hole : m / 2 ^ tz m ≤ m := Nat.div_le_self _ _
    have hdiv : (m : Int) / 2 ^ tz m = ((m / 2 ^ tz m : Nat) : Int) := by rw [Int.natCast_ediv]; congr 1
    have hP : 2 ^ tz m < 18446744073709551616 := by
      have : 2 ^ tz m < 2 ^ 64 := Nat.pow_lt_pow_right (by omega) ht
      omega
    generalize m / 2 ^ tz m = o at *
    generalize tz m = t at *
    have hno1 : e + t < -1074 → ¬ ExR m 1 e := by rw [← hp]; exact make_no1 ho
    have hno2 : 53 < blen o → ¬ ExR m 1 e := by rw [← hp]; exact make_no2 ho
    have hno3 : 1024 < (blen o : Int) + (e + t) → ¬ ExR m 1 e := by rw [← hp]; exact make_no3 ho
    have hyes : ∀ low : Int, blen o ≤ 53 → -1074 ≤ e + t → (blen o : Int) + (e + t) ≤ 1024 → low = max ((blen o : Int) + (e + t) - 53) (-1074) → magR m 1 e = (low + 1074).toNat * B52 + o * 2 ^ (e + t - low).toNat ∧ ExR m 1 e ∧ o * 2 ^ (e + t - low).toNat < 2 * B52 := by
      intro low a1 a2 a3 a4
      rw [← hp]; exact make_good ho rfl a1 a2 a3 a4
    have hbp := blen_pos (n := o) (by omega)
    have hb64 := blen_le (n := o) (k := 64) (by omega)
    have L2 := Lib.hid (limb_len (o : Int) (by unfold U; omega) w)
    rw [Int.toNat_natCast] at L2
    generalize blen o = n at *
    by_cases hbig : 1024 ≤ e
    · have H := Lib.hid (hno3 (by omega))
      clear hno1 hno2 hno3 hyes
      go_enter Tryz.func209, Tryz.ntmps209
      go_wp2_with fail
      go_ret2
      exact retMk_no H.out
    · generalize 2 ^ t = P at *
      have L1 := limb_len (P : Int) (by unfold U; omega) w
      rw [Int.toNat_natCast, hbl] at L1
      have HL1 := Lib.hid L1
      have H1 := Lib.hid hno1
      have H2 := Lib.hid hno2
      have H3 := Lib.hid hno3
      have HY := Lib.hid hyes
      clear L1 hno1 hno2 hno3 hyes hbl
      have ht0 : t ≤ 63 := by omega
      by_cases c1 : 53 < n
      · have H := Lib.hid (H2.out c1)
        clear H1 H2 H3 HY
        go_enter Tryz.func209, Tryz.ntmps209
        go_wp2_with fail
        with_reducible refine HL1.out.mono ?_
        rintro _ w' ⟨rfl, rfl⟩
        go_wp2_with fail
        with_reducible refine L2.out.mono ?_
        rintro _ w' ⟨rfl, rfl⟩
        go_wp2_with fail
        go_ret2
        exact retMk_no H.out
      · have d1 : decide (53 < (n : Int)) = false := decide_eq_false (by omega)
        by_cases c2 : e + t < -1074
        · have H := Lib.hid (H1.out c2)
          clear H1 H2 H3 HY
          have d2 : decide (e + t < -1074) = true := decide_eq_true c2
          go_enter Tryz.func209, Tryz.ntmps209
          go_wp2_with fail
          with_reducible refine HL1.out.mono ?_
          rintro _ w' ⟨rfl, rfl⟩
          go_wp2_with fail
          with_reducible refine L2.out.mono ?_
          rintro _ w' ⟨rfl, rfl⟩
          go_wp2_with fail
          go_ret2
          exact retMk_no H.out
        · have d2 : decide (e + t < -1074) = false := decide_eq_false c2
          by_cases c3 : 1024 < (n : Int) + (e + t)
          · have H := Lib.hid (H3.out c3)
            clear H1 H2 H3 HY
            have d3 : decide (1024 < (n : Int) + (e + t)) = true := decide_eq_true c3
            go_enter Tryz.func209, Tryz.ntmps209
            go_wp2_with fail
            with_reducible refine HL1.out.mono ?_
            rintro _ w' ⟨rfl, rfl⟩
            go_wp2_with fail
            with_reducible refine L2.out.mono ?_
            rintro _ w' ⟨rfl, rfl⟩
            go_wp2_with fail
            go_ret2
            exact retMk_no H.out
          · have d3 : decide (1024 < (n : Int) + (e + t)) = false := decide_eq_false c3
            clear H1 H2 H3
            go_enter Tryz.func209, Tryz.ntmps209
            go_wp2_with fail
            with_reducible refine HL1.out.mono ?_
            rintro _ w' ⟨rfl, rfl⟩
            go_wp2_with fail
            with_reducible refine L2.out.mono ?_
            rintro _ w' ⟨rfl, rfl⟩
            go_wp2_with fail
            · obtain ⟨g1, g2, g3⟩ := HY.out (-1074) (by omega) c2 c3 (by omega)
              rw [show e + (t : Int) - -1074 = e + t + 1074 by omega] at g1 g3
              have ev := make_val1 (K := (e + t + 1074).toNat) g1 g3
              have hle := magR_le m 1 e
              rw [ev]
              have S := Lib.hid (fb_signed s (b := magR m 1 e) (by omega) w)
              have G2 := Lib.hid g2
              clear g1 g2 g3 ev HY
              generalize hb : magR m 1 e = b at *
              with_reducible refine S.out.mono ?_
              rintro _ w' ⟨rfl, rfl⟩
              go_wp2_with fail
              go_ret2
              exact retMk_yes G2.out hb rfl
            · obtain ⟨g1, g2, g3⟩ := HY.out ((n : Int) + (e + t) - 52 - 1) (by omega) c2 c3 (by omega)
              have ev := make_val2 (L := (n : Int) + (e + t) - 52 - 1 + 1074) (by omega) (by omega) g1 g3
              have hle := magR_le m 1 e
              rw [ev]
              have S := Lib.hid (fb_signed s (b := magR m 1 e) (by omega) w)
              have G2 := Lib.hid g2
              clear g1 g2 g3 ev HY
              generalize hb : magR m 1 e = b at *
              with_reducible refine S.out.mono ?_
              rintro _ w' ⟨rfl, rfl⟩
              go_wp2_with fail
              go_ret2
              exact retMk_yes G2.out hb rfl

end Go.Proofs.YtibgpeaplmcogaaGreatDoor

namespace Go.Proofs.YtibgpeaplmcogaaGreatDoor
set_option maxRecDepth 100000
open Go.RowKit
set_option linter.unusedVariables false
set_option linter.unusedSimpArgs false

/-- factors 2 are moved into the exponent -/
def Half1 (m : Nat) (e : Int) (m' : Nat) (e' : Int) : Prop := ∃ j : Nat, m = m' * 2 ^ j ∧ e' = e + j ∧ 0 < m' ∧ j ≤ 64 ∧ m' ≤ m
theorem half1_0 {m : Nat} {e : Int} (h0 : 0 < m) : Half1 m e m e := ⟨0, by simp, by simp, h0, by omega, Nat.le_refl _⟩
theorem half1_step {m m' : Nat} {e e' : Int} (hm : m < 18446744073709551616) (h : Half1 m e m' e') (hev : m' % 2 = 0) : Half1 m e (m' / 2) (e' + 1) := by
  obtain ⟨j, h1, h2, h3, h4, h5⟩ := h
  have e1 : m = m' / 2 * 2 ^ (j + 1) := by
    rw [Nat.pow_succ, Nat.mul_comm (2 ^ j), ← Nat.mul_assoc, show m' / 2 * 2 = m' by omega]; exact h1
  have hp : 0 < m' / 2 := by omega
  refine ⟨j + 1, e1, by omega, hp, ?_, by omega⟩
  rcases Nat.lt_or_ge j 64 with hl | hl
  · omega
  · exfalso
    have : 2 ^ 64 ≤ 2 ^ j := Nat.pow_le_pow_right (by omega) hl
    have h6 : 1 * 2 ^ j ≤ m' * 2 ^ j := Nat.mul_le_mul_right _ h3
    rw [Nat.one_mul, ← h1] at h6
    omega
/-- .. and back, until the significand has 53 bits or the exponent is the least -/
def Up2 (o : Nat) (e1 : Int) (m2 : Nat) (e2 : Int) : Prop := ∃ k : Nat, m2 = o * 2 ^ k ∧ e2 = e1 - k ∧ m2 < 9007199254740992 ∧ -1074 ≤ e2
theorem up2_0 {o : Nat} {e1 : Int} (h : o < 9007199254740992) (h2 : -1074 ≤ e1) : Up2 o e1 o e1 := ⟨0, by simp, by simp, h, h2⟩
theorem up2_step {o m2 : Nat} {e1 e2 : Int} (h : Up2 o e1 m2 e2) (hl : m2 < 4503599627370496) (he : -1074 < e2) : Up2 o e1 (m2 * 2) (e2 - 1) := by
  obtain ⟨k, h1, h2, h3, h4⟩ := h
  exact ⟨k + 1, by rw [h1, Nat.pow_succ, Nat.mul_assoc], by omega, by omega, by omega⟩
theorem up2_end {o t m2 : Nat} {e e2 : Int} (h : Up2 o (e + t) m2 e2) (he : ¬ (m2 < 4503599627370496 ∧ -1074 < e2)) :
    magR (o * 2 ^ t) 1 e = min ((e2 + 1074).toNat * B52 + m2) INF ∧ (ExR (o * 2 ^ t) 1 e ↔ (e2 + 1074).toNat ≤ 2045) := by
  obtain ⟨k, h1, h2, h3, h4⟩ := h
  refine make_pair (by omega) ?_ (by rw [B52_eq]; omega) ?_
  · rw [h1, Nat.mul_assoc, ← Nat.pow_add]; congr 2; omega
  · rw [B52_eq]; omega

theorem up2_val {x m2 l : Nat} {e2 : Int} (h : x = min ((e2 + 1074).toNat * B52 + m2) INF) (hl : e2 + 1074 = l) (hl2 : l ≤ 2045) (hm : m2 < 9007199254740992) : (e2 + 1075) * 4503599627370496 + (m2 : Int) - 4503599627370496 = (x : Int) := by
  have h1 : (e2 + 1074).toNat = l := by omega
  rw [h1, Nat.min_eq_left] at h
  · have hB : ((B52 : Nat) : Int) = 4503599627370496 := by rw [B52_eq]; rfl
    rw [h, Int.natCast_add, Int.natCast_mul, hB]
    omega
  · have : l * B52 ≤ 2045 * B52 := Nat.mul_le_mul_right _ hl2
    have h2 := INF_eq
    have h3 := B52_eq
    omega
set_option maxHeartbeats 2000000 in
theorem rf_make (s : Bool) {m : Nat} (hm : m < 18446744073709551616) {e : Int} (he : -9223372036854775808 ≤ e) (he2 : e ≤ 9223372036854775807) (w : World) :
    Calls Tryz.prog 222 #[.bool s, .int .u64 m, .int .i64 e] w (RetMk s m e w) := by
  rcases Nat.eq_zero_or_pos m with rfl | h0
  · have S := Lib.hid (rf_signed s (b := 0) (by omega) w)
    go_enter Tryz.func222, Tryz.ntmps222
    go_wp2_with fail
    refine S.out.mono ?_
    rintro _ w' ⟨rfl, rfl⟩
    go_wp2_with fail
    go_ret2
    exact retMk_yes (exR_zero e) (magR_zero 1 e) rfl
  have hz : ((m : Int) == 0) = false := by simp; omega
  obtain ⟨hp, ho⟩ := tz_part h0
  have ht := tz_lt64 h0 hm
  generalize m / 2 ^ tz m = o0 at *
  generalize tz m = t0 at *
  have hbp := blen_pos (n := o0) (by omega)
  by_cases c1 : e < -1200
  · have H := Lib.hid (show ¬ ExR m 1 e by rw [← hp]; exact make_no1 ho (by omega))
    have d1 : decide (e < -1200) = true := decide_eq_true c1
    go_enter Tryz.func222, Tryz.ntmps222
    go_wp2_with fail
    go_ret2
    exact retMk_no H.out
  have d1 : decide (e < -1200) = false := decide_eq_false c1
  by_cases c2 : 1200 < e
  · have H := Lib.hid (show ¬ ExR m 1 e by rw [← hp]; exact make_no3 ho (by omega))
    have d2 : decide (1200 < e) = true := decide_eq_true c2
    go_enter Tryz.func222, Tryz.ntmps222
    go_wp2_with fail
    go_ret2
    exact retMk_no H.out
  have d2 : decide (1200 < e) = false := decide_eq_false c2
  clear hp ho ht hbp
  go_enter Tryz.func222, Tryz.ntmps222
  go_wp2_with fail
  clear d1 d2 hz
  go_loop [1, 2] (fun x y => ∃ (m' : Nat) (e' : Int), x = .int .u64 m' ∧ y = .int .i64 e' ∧ Half1 m e m' e') (fun x _ => mes x)
  case atStart => exact ⟨m, e, rfl, rfl, half1_0 h0⟩
  case round =>
    obtain ⟨m', e', rfl, rfl, hh⟩ := hrel
    obtain ⟨b1, b2, b3, b4⟩ : 0 < m' ∧ m' ≤ m ∧ e ≤ e' ∧ e' ≤ e + 64 := by obtain ⟨j, _, _, _, _, _⟩ := hh; omega
    by_cases hev : m' % 2 = 0
    · have hn := Lib.hid (half1_step hm hh hev)
      have hev2 : (((m' : Int) % 2) == 0) = true := by simp; omega
      clear hh
      go_wp2_with fail
      go_round
      case rel => exact ⟨m' / 2, e' + 1, by go_num, by go_num, hn.out⟩
      case measure => exact mes_lt (by omega) (by omega)
    · have hev2 : (((m' : Int) % 2) == 0) = false := by simp; omega
      obtain ⟨t, h1, h2, h3, h4, h5⟩ := hh
      have ho : m' % 2 = 1 := by omega
      by_cases c3 : 9007199254740992 ≤ m'
      · have H := Lib.hid (show ¬ ExR m 1 e by rw [h1]; exact make_no2 ho (blen_ge (k := 53) (by omega)))
        have d3 : decide (9007199254740992 ≤ (m' : Int)) = true := decide_eq_true (by omega)
        clear h1
        go_wp2_with fail
        go_ret2
        exact retMk_no H.out
      have d3 : decide (9007199254740992 ≤ (m' : Int)) = false := decide_eq_false (by omega)
      by_cases c4 : e' < -1074
      · have H := Lib.hid (show ¬ ExR m 1 e by rw [h1]; exact make_no1 ho (by omega))
        have d4 : decide (e' < -1074) = true := decide_eq_true c4
        clear h1
        go_wp2_with fail
        go_ret2
        exact retMk_no H.out
      have d4 : decide (e' < -1074) = false := decide_eq_false c4
      have H1 := Lib.hid h1
      have H2 := Lib.hid h2
      clear h1 h2
      go_wp2_with fail
      clear d3 d4 hev2
      go_loop [1, 2] (fun x y => ∃ (m2 : Nat) (e2 : Int), x = .int .u64 m2 ∧ y = .int .i64 e2 ∧ Up2 m' e' m2 e2) (fun _ y => (intOf y + 1074).toNat)
      case atStart => exact ⟨m', e', rfl, rfl, up2_0 (by omega) (by omega)⟩
      case round =>
        obtain ⟨m2, e2, rfl, rfl, hu⟩ := hrel
        obtain ⟨a1, a2, a3⟩ : m2 < 9007199254740992 ∧ -1074 ≤ e2 ∧ e2 ≤ e' := by obtain ⟨j, _, _, _, _⟩ := hu; omega
        by_cases c5 : m2 < 4503599627370496
        · have d5 : decide ((m2 : Int) < 4503599627370496) = true := decide_eq_true (by omega)
          by_cases c6 : -1074 < e2
          · have d6 : decide (-1074 < e2) = true := decide_eq_true c6
            have hn := Lib.hid (up2_step hu c5 c6)
            clear hu
            go_wp2_with fail
            go_round
            case rel => exact ⟨m2 * 2, e2 - 1, by go_num, by go_num, hn.out⟩
            case measure => simp [intOf]; omega
          · have d6 : decide (-1074 < e2) = false := decide_eq_false c6
            have hh2 := H2.out
            subst hh2
            obtain ⟨g1, g2⟩ := up2_end hu (by omega)
            rw [← H1.out] at g1 g2
            have g3 := g2.2 (by omega)
            have g4 : magR m 1 e = m2 := by
              rw [g1, show (e2 + 1074).toNat = 0 by omega, Nat.zero_mul, Nat.zero_add]; have := INF_lit; omega
            have G3 := Lib.hid g3
            have G4 := Lib.hid g4
            have S := Lib.hid (rf_signed s (b := m2) (by omega) w)
            clear g1 g2 g3 g4 hu
            go_wp2_with fail
            with_reducible refine S.out.mono ?_
            rintro _ w' ⟨rfl, rfl⟩
            go_wp2_with fail
            go_ret2
            exact retMk_yes G3.out G4.out rfl
        · have d5 : decide ((m2 : Int) < 4503599627370496) = false := decide_eq_false (by omega)
          have hh2 := H2.out
          subst hh2
          obtain ⟨g1, g2⟩ := up2_end hu (by omega)
          rw [← H1.out] at g1 g2
          by_cases c7 : 971 < e2
          · have H := Lib.hid (show ¬ ExR m 1 e by rw [g2]; omega)
            clear g1 g2 hu
            go_wp2_with fail
            go_ret2
            exact retMk_no H.out
          · have g3 := g2.2 (by omega)
            obtain ⟨l, hl⟩ : ∃ l : Nat, e2 + 1074 = l := ⟨(e2 + 1074).toNat, by omega⟩
            have g5 := up2_val g1 hl (by omega) a1
            clear hl
            have hle := magR_le m 1 e
            have S := Lib.hid (rf_signed s (b := magR m 1 e) (by omega) w)
            have G3 := Lib.hid g3
            have G5 := Lib.hid g5
            clear g1 g2 g3 hu g5
            generalize hb : magR m 1 e = b at *
            go_wp2_with fail
            rw [G5.out]
            with_reducible refine S.out.mono ?_
            rintro _ w' ⟨rfl, rfl⟩
            go_wp2_with fail
            go_ret2
            exact retMk_yes G3.out hb rfl

end Go.Proofs.YtibgpeaplmcogaaGreatDoor

namespace Go.Proofs.YtibgpeaplmcogaaGreatDoor
set_option maxRecDepth 100000
open Go.RowKit
set_option linter.unusedVariables false
set_option linter.unusedSimpArgs false

set_option maxHeartbeats 2000000 in
theorem fr_half {m n : Nat} (hm : m < 18446744073709551616) (hn : 1 ≤ n) (hn2 : n ≤ 100000) (w : World) :
    Calls Tryz.prog 208 #[.int .u64 m, .int .i64 n] w fun e w' => e = .returned (.int .u64 (rdiv m (2 ^ n))) ∧ ∃ k, w' = w.drewN k := by
  by_cases hb : 64 < n
  · have H := Lib.hid (rdiv_far (m := m) (by omega) hb)
    go_enter Tryz.func208, Tryz.ntmps208
    go_wp2_with fail
    go_ret
    exact ⟨ret1 (by rw [H.out]; rfl), 0, rfl⟩
  · have hdiv : (m : Int) / 2 ^ n = ((m / 2 ^ n : Nat) : Int) := by rw [Int.natCast_ediv]; congr 1
    have h1 := Nat.div_add_mod' m (2 ^ n)
    have h2 := Nat.mod_lt m (Nat.two_pow_pos n)
    have h3 : 2 ^ n = 2 * 2 ^ (n - 1) := by rw [← Nat.pow_succ']; congr 1; omega
    have hr : rdiv m (2 ^ n) = if 2 ^ n < 2 * (m % 2 ^ n) ∨ (2 * (m % 2 ^ n) = 2 ^ n ∧ m / 2 ^ n % 2 = 1) then m / 2 ^ n + 1 else m / 2 ^ n := rfl
    have hH : 2 ^ (n - 1) < 18446744073709551616 := by
      have : 2 ^ (n - 1) < 2 ^ 64 := Nat.pow_lt_pow_right (by omega) (by omega)
      omega
    generalize m / 2 ^ n = k at *
    generalize m % 2 ^ n = r at *
    generalize rdiv m (2 ^ n) = R at *
    have hk : k ≤ m := by
      have : k * 1 ≤ k * 2 ^ n := Nat.mul_le_mul_left _ (Nat.two_pow_pos n)
      omega
    have e1 : IntKind.u64.wrap ((m : Int) - IntKind.u64.wrap ((k : Int) * 2 ^ n)) = (r : Int) := by
      have hc : (k : Int) * 2 ^ n = ((k * 2 ^ n : Nat) : Int) := by push_cast; rfl
      rw [hc, wrapU, wrapU]
      generalize k * 2 ^ n = x at *
      omega
    have e2 : IntKind.u64.wrap ((2 : Int) ^ (n - 1)) = ((2 ^ (n - 1) : Nat) : Int) := by
      have hc : (2 : Int) ^ (n - 1) = ((2 ^ (n - 1) : Nat) : Int) := by push_cast; rfl
      rw [hc, wrapU]
      omega
    have e3 : bits BinOp.and IntKind.u64 (k : Int) 1 = ((k % 2 : Nat) : Int) := by
      rw [and1 (by unfold U; omega)]; omega
    rw [h3] at h1 h2 hr
    generalize 2 ^ (n - 1) = H at *
    have hr2 : R = if H < r ∨ (r = H ∧ k % 2 = 1) then k + 1 else k := by
      rw [hr]
      have : (2 * H < 2 * r ∨ (2 * r = 2 * H ∧ k % 2 = 1)) ↔ (H < r ∨ (r = H ∧ k % 2 = 1)) := by omega
      simp only [this]
    have hkm : H < r ∨ r = H → k < 18446744073709551615 := by
      intro h9
      rcases Nat.eq_zero_or_pos k with h8 | h8
      · omega
      · have : k * (2 * 1) ≤ k * (2 * H) := Nat.mul_le_mul_left _ (by
          rcases Nat.eq_zero_or_pos H with h7 | h7
          · subst h7; simp at h2
          · omega)
        omega
    clear h1 h2 h3 hr
    rcases Nat.lt_trichotomy r H with hl | hl | hl
    · have d1 : decide ((H : Int) < r) = false := decide_eq_false (by omega)
      have d2 : ((r : Int) == H) = false := by simp; omega
      have HR := Lib.hid hr2
      clear hr2 hkm
      go_enter Tryz.func208, Tryz.ntmps208
      go_wp2_with fail
      go_region
      all_goals try go_wp2
      go_ret
      exact ⟨ret1 (by rw [HR.out, if_neg (by omega)]), 1, rfl⟩
    · subst hl
      by_cases ho : k % 2 = 1
      · have hk2 := hkm (.inr rfl)
        have HR := Lib.hid hr2
        have HO := Lib.hid ho
        rw [ho] at e3
        clear hr2 hkm ho
        go_enter Tryz.func208, Tryz.ntmps208
        go_wp2_with fail
        go_region
        all_goals try go_wp2
        go_ret
        exact ⟨ret1 (by rw [HR.out, if_pos (.inr ⟨trivial, HO.out⟩)]; omega), 1, rfl⟩
      · have ho0 : k % 2 = 0 := by omega
        have HR := Lib.hid hr2
        have HO := Lib.hid ho
        rw [ho0] at e3
        clear hr2 hkm ho ho0
        go_enter Tryz.func208, Tryz.ntmps208
        go_wp2_with fail
        go_region
        all_goals try go_wp2
        go_ret
        exact ⟨ret1 (by have h9 := HO.out; rw [HR.out, if_neg (by omega)]), 1, rfl⟩
    · have hk2 := hkm (.inl hl)
      have d1 : decide ((H : Int) < r) = true := decide_eq_true (by omega)
      have HR := Lib.hid hr2
      clear hr2 hkm
      go_enter Tryz.func208, Tryz.ntmps208
      go_wp2_with fail
      go_region
      all_goals try go_wp2
      go_ret
      exact ⟨ret1 (by rw [HR.out, if_pos (.inl hl)]; omega), 1, rfl⟩

/-- the double nearest to m * 2^e, as it is handed out -/
def RetW (v : Nat) (w : World) (x : Ending) (w' : World) : Prop := x = .returned (.int .u64 v) ∧ Below w.heap.size w w'

set_option maxHeartbeats 2000000 in
theorem fr_word (s : Bool) {m : Nat} (hm : m < 18446744073709551616) {e : Int} (he : -9223372036854775808 ≤ e) (he2 : e ≤ 9223372036854775807) (w : World) :
    Calls Tryz.prog 151 #[.bool s, .int .u64 m, .int .i64 e] w (RetW (sg s (magR m 1 e)) w) := by
  have hcl := word_clamp (m := m) (by omega) (e := e)
  obtain ⟨c, hc⟩ : ∃ c, min (max e (-2000)) 2000 = c := ⟨_, rfl⟩
  rw [hc] at hcl
  rw [← hcl]
  have hc1 : -2000 ≤ c ∧ c ≤ 2000 := by omega
  have HL := Lib.hid (limb_len (m : Int) (by unfold U; omega) w)
  rw [Int.toNat_natCast] at HL
  have hb := blen_le (n := m) (k := 64) (by omega)
  obtain ⟨low, hlow⟩ : ∃ low : Int, low = max ((blen m : Int) + c - 53) (-1074) := ⟨_, rfl⟩
  have hl1 : -1074 ≤ low ∧ low ≤ 2011 := by omega
  by_cases hlt : c < low
  · obtain ⟨k, hk⟩ : ∃ k : Nat, low - c = k := ⟨(low - c).toNat, by omega⟩
    obtain ⟨t, ht⟩ : ∃ t : Nat, low + 1074 = t := ⟨(low + 1074).toNat, by omega⟩
    obtain ⟨y1, y2, y3⟩ := word_round hlow hlt hk ht
    have hhalf := fun w1 => fr_half hm (n := k) (by omega) (by omega) w1
    rw [B52_eq] at y3
    generalize rdiv m (2 ^ k) = x at *
    have hmk := fun w1 => fb_make s (m := x) (by omega) (e := low) (by omega) (by omega) w1
    unfold RetMk at hmk
    have hv : ∀ w1, ∃ v : Nat, ∃ ok : Bool, (Calls Tryz.prog 209 #[.bool s, .int .u64 x, .int .i64 low] w1 fun z w' => z = .returned (.tuple #[.int .u64 v, .bool ok]) ∧ w1 = w') ∧ ((ok = true ∧ v = sg s (magR m 1 c)) ∨ (ok = false ∧ INF = magR m 1 c)) := by
      intro w1
      by_cases hx : ExR x 1 low
      · exact ⟨_, _, hmk w1, .inl ⟨decide_eq_true hx, by rw [mkW_yes hx, y1 hx]⟩⟩
      · exact ⟨_, _, hmk w1, .inr ⟨decide_eq_false hx, (y2 hx).symm⟩⟩
    clear y1 y2 hmk
    generalize magR m 1 c = r at *
    generalize blen m = n at *
    have HH := Lib.hid hhalf
    have HV := Lib.hid hv
    have HI := Lib.hid (fun w1 => fb_inf s w1)
    clear hhalf hv hcl ht
    go_enter Tryz.func151, Tryz.ntmps151
    go_upto_region 1 with (fail)
    go_cut [2] (fun s2 wx => s2 = .int .i64 c ∧ w = wx)
    case first =>
      by_cases h1 : e < -2000
      · go_wp2_with fail
        go_meet
        exact ⟨vint (by omega), rfl⟩
      · by_cases h2 : 2000 < e
        · have h3 : decide (2000 < e) = true := decide_eq_true h2
          go_wp2_with fail
          go_meet
          exact ⟨vint (by omega), rfl⟩
        · go_wp2_with fail
          go_meet
          exact ⟨vint (by omega), rfl⟩
    case rest =>
    obtain ⟨rfl, rfl⟩ := hcut
    clear hc
    go_upto_region 2 with (fail)
    go_cut [7] (fun s7 wx => s7 = .int .i64 low ∧ w = wx)
    case first =>
      by_cases h1 : (n : Int) + c - 53 < -1074
      · go_wp2_with fail
        refine HL.out.mono ?_
        rintro _ w' ⟨rfl, rfl⟩
        go_wp2_with fail
        go_meet
        exact ⟨vint (by omega), rfl⟩
      · go_wp2_with fail
        refine HL.out.mono ?_
        rintro _ w' ⟨rfl, rfl⟩
        go_wp2_with fail
        go_meet
        exact ⟨vint (by omega), rfl⟩
    case rest =>
    obtain ⟨rfl, rfl⟩ := hcut
    clear hlow
    go_wp2_with fail
    with_reducible refine (HH.out _).mono ?_
    rintro _ w' ⟨rfl, d, rfl⟩
    obtain ⟨v, ok, hcall, hcase⟩ := HV.out (w.drewN d)
    have hb0 := below_drewN w d
    have HC := Lib.hid hcall
    clear hcall HV HH
    generalize w.drewN d = w2 at *
    rcases hcase with ⟨rfl, rfl⟩ | ⟨rfl, rfl⟩
    · go_wp2_with fail
      with_reducible refine HC.out.mono ?_
      rintro _ w' ⟨rfl, rfl⟩
      go_wp2_with fail
      go_ret
      exact ⟨rfl, hb0⟩
    · go_wp2_with fail
      with_reducible refine HC.out.mono ?_
      rintro _ w' ⟨rfl, rfl⟩
      go_wp2_with fail
      with_reducible refine (HI.out _).mono ?_
      rintro _ w' ⟨rfl, rfl⟩
      go_wp2_with fail
      go_ret
      exact ⟨rfl, hb0⟩
  · have y2 := word_exact hlow (by omega)
    have hmk := fun w1 => fb_make s (m := m) (by omega) (e := c) (by omega) (by omega) w1
    unfold RetMk at hmk
    have hv : ∀ w1, ∃ v : Nat, ∃ ok : Bool, (Calls Tryz.prog 209 #[.bool s, .int .u64 m, .int .i64 c] w1 fun z w' => z = .returned (.tuple #[.int .u64 v, .bool ok]) ∧ w1 = w') ∧ ((ok = true ∧ v = sg s (magR m 1 c)) ∨ (ok = false ∧ INF = magR m 1 c)) := by
      intro w1
      by_cases hx : ExR m 1 c
      · exact ⟨_, _, hmk w1, .inl ⟨decide_eq_true hx, by rw [mkW_yes hx]⟩⟩
      · exact ⟨_, _, hmk w1, .inr ⟨decide_eq_false hx, (y2 hx).symm⟩⟩
    clear y2 hmk
    generalize magR m 1 c = r at *
    generalize blen m = n at *
    have HV := Lib.hid hv
    have HI := Lib.hid (fun w1 => fb_inf s w1)
    clear hv hcl
    go_enter Tryz.func151, Tryz.ntmps151
    go_upto_region 1 with (fail)
    go_cut [2] (fun s2 wx => s2 = .int .i64 c ∧ w = wx)
    case first =>
      by_cases h1 : e < -2000
      · go_wp2_with fail
        go_meet
        exact ⟨vint (by omega), rfl⟩
      · by_cases h2 : 2000 < e
        · have h3 : decide (2000 < e) = true := decide_eq_true h2
          go_wp2_with fail
          go_meet
          exact ⟨vint (by omega), rfl⟩
        · go_wp2_with fail
          go_meet
          exact ⟨vint (by omega), rfl⟩
    case rest =>
    obtain ⟨rfl, rfl⟩ := hcut
    clear hc
    go_upto_region 2 with (fail)
    go_cut [7] (fun s7 wx => s7 = .int .i64 low ∧ w = wx)
    case first =>
      by_cases h1 : (n : Int) + c - 53 < -1074
      · go_wp2_with fail
        refine HL.out.mono ?_
        rintro _ w' ⟨rfl, rfl⟩
        go_wp2_with fail
        go_meet
        exact ⟨vint (by omega), rfl⟩
      · go_wp2_with fail
        refine HL.out.mono ?_
        rintro _ w' ⟨rfl, rfl⟩
        go_wp2_with fail
        go_meet
        exact ⟨vint (by omega), rfl⟩
    case rest =>
    obtain ⟨rfl, rfl⟩ := hcut
    clear hlow
    obtain ⟨v, ok, hcall, hcase⟩ := HV.out w
    have HC := Lib.hid hcall
    clear hcall HV
    rcases hcase with ⟨rfl, rfl⟩ | ⟨rfl, rfl⟩
    · go_wp2_with fail
      with_reducible refine HC.out.mono ?_
      rintro _ w' ⟨rfl, rfl⟩
      go_wp2_with fail
      go_ret
      exact ⟨rfl, Below.refl _ _⟩
    · go_wp2_with fail
      with_reducible refine HC.out.mono ?_
      rintro _ w' ⟨rfl, rfl⟩
      go_wp2_with fail
      with_reducible refine (HI.out _).mono ?_
      rintro _ w' ⟨rfl, rfl⟩
      go_wp2_with fail
      go_ret
      exact ⟨rfl, Below.refl _ _⟩

theorem int_abs (n : Int) (h1 : -9223372036854775808 ≤ n) (h2 : n ≤ 9223372036854775807) : n.natAbs < 18446744073709551616 := by omega
set_option maxHeartbeats 1000000 in
theorem fr_int (n : Int) (h1 : -9223372036854775808 ≤ n) (h2 : n ≤ 9223372036854775807) (w : World) :
    Calls Tryz.prog 165 #[.int .i64 n] w (RetW (sg (decide (n < 0)) (magR n.natAbs 1 0)) w) := by
  have W := fun s => fr_word s (int_abs n h1 h2) (e := 0) (by omega) (by omega) w
  by_cases hn : n < 0
  · have e1 : IntKind.u64.wrap (-(IntKind.u64.wrap n)) = ((n.natAbs : Nat) : Int) := by rw [wrapU, wrapU]; omega
    have d : decide (n < 0) = true := decide_eq_true hn
    rw [d]
    have HW := Lib.hid (W true)
    generalize n.natAbs = a at *
    clear W
    go_enter Tryz.func165, Tryz.ntmps165
    go_wp2_with fail
    with_reducible refine HW.out.mono ?_
    rintro _ w' ⟨rfl, b1⟩
    go_wp2_with fail
    go_ret
    exact ⟨rfl, b1⟩
  · have d : decide (n < 0) = false := decide_eq_false hn
    rw [d]
    have HW := Lib.hid (W false)
    obtain ⟨a, rfl⟩ := Int.eq_ofNat_of_zero_le (show 0 ≤ n by omega)
    rw [Int.natAbs_natCast] at *
    clear W
    go_enter Tryz.func165, Tryz.ntmps165
    go_wp2_with fail
    with_reducible refine HW.out.mono ?_
    rintro _ w' ⟨rfl, b1⟩
    go_wp2_with fail
    go_ret
    exact ⟨rfl, b1⟩

end Go.Proofs.YtibgpeaplmcogaaGreatDoor
