/-
  What the functions of package fbits but Make, and the document's beside them, return for any word. Conditions: the words are below 2^64.
-/
import Derived.Test.YtmoahgiklgicgaaDoorFltMath2All
namespace Go.Proofs.YtmoahgiklgicgaaDoor
set_option maxRecDepth 100000
open Go.RowKit
set_option linter.unusedVariables false
set_option linter.unusedSimpArgs false

/-- the exponent's field, the fraction, the sign, the kind of a double -/
def fld (b : Nat) : Nat := b / 4503599627370496 % 2048
def rst (b : Nat) : Nat := b % 4503599627370496
def ng (b : Nat) : Bool := decide (9223372036854775808 ≤ b)
def kd (b : Nat) : Nat := if fld b = 2047 then (if rst b = 0 then 3 else 4) else if fld b = 0 then (if rst b = 0 then 0 else 1) else 2
/-- the significand and the exponent of a finite one -/
def sig (b : Nat) : Nat := if fld b = 0 then rst b else rst b + 4503599627370496
def xpo (b : Nat) : Int := if fld b = 0 then -1074 else (fld b : Int) - 1075
theorem fld_lt (b : Nat) : fld b ≤ 2047 := by unfold fld; omega
theorem rst_lt (b : Nat) : rst b < 4503599627370496 := by unfold rst; omega
theorem U_n64 {b : Nat} (h : b < 18446744073709551616) : U (b : Int) := by unfold U; omega
theorem fld_bits {b : Nat} (h : b < 18446744073709551616) : bits .and .u64 ((b : Int) / 4503599627370496) 2047 = (fld b : Int) := by
  have := and_mask 11 (by decide) (a := (b : Int) / 4503599627370496) (by unfold U; omega)
  have e : ((2 ^ 11 - 1 : Nat) : Int) = 2047 := by decide
  rw [e] at this
  rw [this]
  unfold fld
  have e2 : ((2 ^ 11 : Nat) : Int) = 2048 := by decide
  rw [e2]
  omega
theorem rst_bits {b : Nat} (h : b < 18446744073709551616) : bits .and .u64 (b : Int) 4503599627370495 = (rst b : Int) := by
  have := and_mask 52 (by decide) (U_n64 h)
  have e : ((2 ^ 52 - 1 : Nat) : Int) = 4503599627370495 := by decide
  rw [e] at this
  rw [this]
  unfold rst
  have e2 : ((2 ^ 52 : Nat) : Int) = 4503599627370496 := by decide
  rw [e2]
  omega
theorem hid_bits {b : Nat} (h : b < 18446744073709551616) : bits .or .u64 4503599627370496 (rst b : Int) = ((rst b + 4503599627370496 : Nat) : Int) := by
  have h1 := rst_lt b
  have := or_join 52 (x := 4503599627370496) (y := (rst b : Int)) (by unfold U; omega) (by decide) (by omega) (by omega) (by unfold U; omega)
  rw [this]; omega
theorem neg_bits {b : Nat} (h : b < 18446744073709551616) : (bits .and .u64 (b : Int) 9223372036854775808 != 0) = ng b := by
  have h1 := u64_and_nat b 9223372036854775808 h (by omega)
  have e : ((9223372036854775808 : Nat) : Int) = 9223372036854775808 := rfl
  rw [e] at h1
  rw [h1]
  unfold ng
  rcases Nat.lt_or_ge b 9223372036854775808 with hl | hl
  · have h2 : b &&& 9223372036854775808 = 0 := by
      apply Nat.eq_of_testBit_eq
      intro i
      rw [Nat.testBit_and, show (9223372036854775808 : Nat) = 2 ^ 63 by decide, Nat.testBit_two_pow, Nat.zero_testBit]
      by_cases hi : 63 = i
      · subst hi
        rw [Nat.testBit_lt_two_pow (by omega)]; rfl
      · simp [hi]
    rw [h2, decide_eq_false (by omega)]; rfl
  · have h2 : b &&& 9223372036854775808 ≠ 0 := by
      intro h2
      have h3 : (b &&& 9223372036854775808).testBit 63 = true := by
        rw [Nat.testBit_and, show (9223372036854775808 : Nat) = 2 ^ 63 by decide, Nat.testBit_two_pow, Nat.testBit_eq_decide_div_mod_eq]
        simp; omega
      rw [h2] at h3
      simp at h3
    rw [decide_eq_true hl]
    simp only [bne_iff_ne, ne_eq]
    omega
/-- a double with the opposite sign -/
def flp (b : Nat) : Nat := (b + 9223372036854775808) % 18446744073709551616
theorem flip_bits {b : Nat} (h : b < 18446744073709551616) : bits .xor .u64 (b : Int) 9223372036854775808 = (flp b : Int) := by
  have h1 := u64_xor_nat b 9223372036854775808 h (by omega)
  have e : ((9223372036854775808 : Nat) : Int) = 9223372036854775808 := rfl
  rw [e] at h1
  rw [h1]
  suffices h9 : b ^^^ 9223372036854775808 = flp b by rw [h9]
  unfold flp
  rcases Nat.lt_or_ge b 9223372036854775808 with hl | hl
  · have := Nat.two_pow_add_eq_or_of_lt (b := b) (i := 63) (by omega) 1
    have h3 : b ^^^ 9223372036854775808 = b + 9223372036854775808 := by
      apply Nat.eq_of_testBit_eq
      intro i
      rw [Nat.testBit_xor, show (9223372036854775808 : Nat) = 2 ^ 63 * 1 by decide, Nat.add_comm b, Nat.testBit_two_pow_mul_add _ (by omega)]
      rw [Nat.mul_one, Nat.testBit_two_pow]
      by_cases hi : i < 63
      · simp [hi, show ¬ 63 = i by omega]
      · have : b.testBit i = false := Nat.testBit_lt_two_pow (Nat.lt_of_lt_of_le hl (Nat.pow_le_pow_right (n := 2) (by omega) (show 63 ≤ i by omega)))
        simp only [this, Bool.false_xor, if_neg hi]
        rcases Nat.lt_or_ge 63 i with hg | hg
        · have e1 : ¬ 63 = i := by omega
          obtain ⟨j, rfl⟩ : ∃ j, i = 64 + j := ⟨i - 64, by omega⟩
          simp [e1, show 64 + j - 63 = j + 1 by omega, Nat.testBit_succ]
        · have : i = 63 := by omega
          subst this; decide
    rw [h3]; omega
  · obtain ⟨c, hc⟩ : ∃ c, b = 2 ^ 63 * 1 + c := ⟨b - 9223372036854775808, by omega⟩
    have hc2 : c < 2 ^ 63 := by omega
    have h3 : b ^^^ 9223372036854775808 = c := by
      apply Nat.eq_of_testBit_eq
      intro i
      rw [Nat.testBit_xor, hc, Nat.testBit_two_pow_mul_add _ hc2, show (9223372036854775808 : Nat) = 2 ^ 63 by decide, Nat.testBit_two_pow]
      by_cases hi : i < 63
      · simp [hi, show ¬ 63 = i by omega]
      · have : c.testBit i = false := Nat.testBit_lt_two_pow (Nat.lt_of_lt_of_le hc2 (Nat.pow_le_pow_right (by omega) (by omega)))
        rw [this, if_neg hi]
        rcases Nat.lt_or_ge 63 i with hg | hg
        · have e1 : ¬ 63 = i := by omega
          obtain ⟨j, rfl⟩ : ∃ j, i = 64 + j := ⟨i - 64, by omega⟩
          simp [e1, show 64 + j - 63 = j + 1 by omega, Nat.testBit_succ]
        · have : i = 63 := by omega
          subst this; decide
    rw [h3]; omega
theorem sign_bits (s : Bool) {b : Nat} (h : b < 9223372036854775808) : bits .or .u64 (b : Int) 9223372036854775808 = ((b + 9223372036854775808 : Nat) : Int) := by
  have h1 := u64_or_nat b 9223372036854775808 (by omega) (by omega)
  have e : ((9223372036854775808 : Nat) : Int) = 9223372036854775808 := rfl
  rw [e] at h1
  rw [h1]
  suffices h9 : b ||| 9223372036854775808 = b + 9223372036854775808 by rw [h9]
  rw [Nat.or_comm]
  have := Nat.two_pow_add_eq_or_of_lt (b := b) (i := 63) (by omega) 1
  rw [show (9223372036854775808 : Nat) = 2 ^ 63 * 1 by decide, ← this]
  omega

set_option maxHeartbeats 400000 in
theorem fb_field {b : Nat} (hb : b < 18446744073709551616) (w : World) :
    Calls Tryd.prog 41 #[.int .u64 b] w fun e w' => e = .returned (.int .i64 (fld b)) ∧ w = w' := by
  have h1 := fld_bits hb
  have h2 := fld_lt b
  go_enter Tryd.func41, Tryd.ntmps41
  go_wp2
  go_ret
  exact ⟨rfl, rfl⟩
set_option maxHeartbeats 400000 in
theorem rf_field {b : Nat} (hb : b < 18446744073709551616) (w : World) :
    Calls Tryd.prog 39 #[.int .u64 b] w fun e w' => e = .returned (.int .i64 (fld b)) ∧ w = w' := by
  have h1 := fld_bits hb
  have h2 := fld_lt b
  go_enter Tryd.func39, Tryd.ntmps39
  go_wp2
  go_ret
  exact ⟨rfl, rfl⟩
set_option maxHeartbeats 400000 in
theorem rf_rest {b : Nat} (hb : b < 18446744073709551616) (w : World) :
    Calls Tryd.prog 40 #[.int .u64 b] w fun e w' => e = .returned (.int .u64 (rst b)) ∧ w = w' := by
  have h1 := rst_bits hb
  go_enter Tryd.func40, Tryd.ntmps40
  go_wp2
  go_ret
  exact ⟨rfl, rfl⟩
set_option maxHeartbeats 1000000 in
theorem fb_kind {b : Nat} (hb : b < 18446744073709551616) (w : World) :
    Calls Tryd.prog 13 #[.int .u64 b] w fun e w' => e = .returned (.int .i64 (kd b)) ∧ w = w' := by
  have h1 := rst_bits hb
  have F := Lib.hid (fb_field hb w)
  have hk : kd b = if fld b = 2047 then (if rst b = 0 then 3 else 4) else if fld b = 0 then (if rst b = 0 then 0 else 1) else 2 := rfl
  generalize kd b = K at *
  generalize rst b = r at *
  generalize fld b = f at *
  have HK := Lib.hid hk
  clear hk
  by_cases h2 : f = 2047
  · subst h2
    by_cases h3 : r = 0
    · subst h3
      go_enter Tryd.func13, Tryd.ntmps13
      go_wp2_with fail
      refine F.out.mono ?_
      rintro e w' ⟨rfl, rfl⟩
      go_wp2_with fail
      go_ret
      exact ⟨ret1 (by have := HK.out; simp at this; omega), rfl⟩
    · have h4 : ((r : Int) == 0) = false := by simp; omega
      go_enter Tryd.func13, Tryd.ntmps13
      go_wp2_with fail
      refine F.out.mono ?_
      rintro e w' ⟨rfl, rfl⟩
      go_wp2_with fail
      go_ret
      exact ⟨ret1 (by have := HK.out; simp [h3] at this; omega), rfl⟩
  · have g2 : ((f : Int) == 2047) = false := by simp; omega
    by_cases h5 : f = 0
    · subst h5
      by_cases h3 : r = 0
      · subst h3
        go_enter Tryd.func13, Tryd.ntmps13
        go_wp2_with fail
        refine F.out.mono ?_
        rintro e w' ⟨rfl, rfl⟩
        go_wp2_with fail
        go_ret
        exact ⟨ret1 (by have := HK.out; simp at this; omega), rfl⟩
      · have h4 : ((r : Int) == 0) = false := by simp; omega
        go_enter Tryd.func13, Tryd.ntmps13
        go_wp2_with fail
        refine F.out.mono ?_
        rintro e w' ⟨rfl, rfl⟩
        go_wp2_with fail
        go_ret
        exact ⟨ret1 (by have := HK.out; simp [h3] at this; omega), rfl⟩
    · have g5 : ((f : Int) == 0) = false := by simp; omega
      go_enter Tryd.func13, Tryd.ntmps13
      go_wp2_with fail
      refine F.out.mono ?_
      rintro e w' ⟨rfl, rfl⟩
      go_wp2_with fail
      go_ret
      exact ⟨ret1 (by have := HK.out; rw [if_neg h2, if_neg h5] at this; omega), rfl⟩
set_option maxHeartbeats 1000000 in
theorem rf_kind {b : Nat} (hb : b < 18446744073709551616) (w : World) :
    Calls Tryd.prog 10 #[.int .u64 b] w fun e w' => e = .returned (.int .i64 (kd b)) ∧ w = w' := by
  have F := Lib.hid (rf_field hb w)
  have R := Lib.hid (rf_rest hb w)
  have hk : kd b = if fld b = 2047 then (if rst b = 0 then 3 else 4) else if fld b = 0 then (if rst b = 0 then 0 else 1) else 2 := rfl
  generalize kd b = K at *
  generalize rst b = r at *
  generalize fld b = f at *
  have HK := Lib.hid hk
  clear hk
  by_cases h2 : f = 2047
  · subst h2
    by_cases h3 : r = 0
    · subst h3
      go_enter Tryd.func10, Tryd.ntmps10
      go_wp2_with (first | (go_at_call 39; refine F.out.mono ?_; rintro e w' ⟨rfl, rfl⟩) | (go_at_call 40; refine R.out.mono ?_; rintro e w' ⟨rfl, rfl⟩) | fail)
      go_ret
      exact ⟨ret1 (by have := HK.out; simp at this; omega), rfl⟩
    · have h4 : ((r : Int) == 0) = false := by simp; omega
      go_enter Tryd.func10, Tryd.ntmps10
      go_wp2_with (first | (go_at_call 39; refine F.out.mono ?_; rintro e w' ⟨rfl, rfl⟩) | (go_at_call 40; refine R.out.mono ?_; rintro e w' ⟨rfl, rfl⟩) | fail)
      go_ret
      exact ⟨ret1 (by have := HK.out; simp [h3] at this; omega), rfl⟩
  · have g2 : ((f : Int) == 2047) = false := by simp; omega
    by_cases h5 : f = 0
    · subst h5
      by_cases h3 : r = 0
      · subst h3
        go_enter Tryd.func10, Tryd.ntmps10
        go_wp2_with (first | (go_at_call 39; refine F.out.mono ?_; rintro e w' ⟨rfl, rfl⟩) | (go_at_call 40; refine R.out.mono ?_; rintro e w' ⟨rfl, rfl⟩) | fail)
        go_ret
        exact ⟨ret1 (by have := HK.out; simp at this; omega), rfl⟩
      · have h4 : 0 < r := by omega
        go_enter Tryd.func10, Tryd.ntmps10
        go_wp2_with (first | (go_at_call 39; refine F.out.mono ?_; rintro e w' ⟨rfl, rfl⟩) | (go_at_call 40; refine R.out.mono ?_; rintro e w' ⟨rfl, rfl⟩) | fail)
        go_ret
        exact ⟨ret1 (by have := HK.out; simp [h3] at this; omega), rfl⟩
    · have g5 : 0 < f := by omega
      go_enter Tryd.func10, Tryd.ntmps10
      go_wp2_with (first | (go_at_call 39; refine F.out.mono ?_; rintro e w' ⟨rfl, rfl⟩) | (go_at_call 40; refine R.out.mono ?_; rintro e w' ⟨rfl, rfl⟩) | fail)
      go_ret
      exact ⟨ret1 (by have := HK.out; rw [if_neg h2, if_neg h5] at this; omega), rfl⟩
set_option maxHeartbeats 400000 in
theorem fb_neg {b : Nat} (hb : b < 18446744073709551616) (w : World) :
    Calls Tryd.prog 34 #[.int .u64 b] w fun e w' => e = .returned (.bool (ng b)) ∧ w = w' := by
  have h1 := neg_bits hb
  go_enter Tryd.func34, Tryd.ntmps34
  go_wp2
  go_ret
  exact ⟨rfl, rfl⟩
set_option maxHeartbeats 400000 in
theorem rf_neg {b : Nat} (hb : b < 18446744073709551616) (w : World) :
    Calls Tryd.prog 11 #[.int .u64 b] w fun e w' => e = .returned (.bool (ng b)) ∧ w = w' := by
  have h1 : ((b : Int) / 9223372036854775808 == 1) = ng b := by
    unfold ng; rw [Bool.eq_iff_iff]; simp only [beq_iff_eq, decide_eq_true_eq]; omega
  go_enter Tryd.func11, Tryd.ntmps11
  go_wp2
  go_ret
  exact ⟨rfl, rfl⟩
/-- is it a number? -/
def fin (b : Nat) : Bool := decide (fld b < 2047)
set_option maxHeartbeats 400000 in
theorem rf_finite {b : Nat} (hb : b < 18446744073709551616) (w : World) :
    Calls Tryd.prog 58 #[.int .u64 b] w fun e w' => e = .returned (.bool (fin b)) ∧ w = w' := by
  have F := Lib.hid (rf_field hb w)
  unfold fin
  generalize fld b = f at *
  have h1 : decide ((f : Int) < 2047) = decide (f < 2047) := by rw [Bool.eq_iff_iff]; simp; omega
  go_enter Tryd.func58, Tryd.ntmps58
  go_wp2_with fail
  refine F.out.mono ?_
  rintro e w' ⟨rfl, rfl⟩
  go_wp2_with fail
  go_ret
  exact ⟨rfl, rfl⟩
set_option maxHeartbeats 400000 in
theorem fb_signed (s : Bool) {b : Nat} (hb : b < 9223372036854775808) (w : World) :
    Calls Tryd.prog 45 #[.bool s, .int .u64 b] w fun e w' => e = .returned (.int .u64 (sg s b)) ∧ w = w' := by
  have h1 := sign_bits s hb
  cases s
  · go_enter Tryd.func45, Tryd.ntmps45
    go_wp2
    go_ret
    exact ⟨rfl, rfl⟩
  · go_enter Tryd.func45, Tryd.ntmps45
    go_wp2
    go_ret
    exact ⟨ret1 (by unfold sg; simp), rfl⟩
set_option maxHeartbeats 400000 in
theorem rf_signed (s : Bool) {b : Nat} (hb : b < 9223372036854775808) (w : World) :
    Calls Tryd.prog 57 #[.bool s, .int .u64 b] w fun e w' => e = .returned (.int .u64 (sg s b)) ∧ w = w' := by
  cases s
  · go_enter Tryd.func57, Tryd.ntmps57
    go_wp2
    go_ret
    exact ⟨rfl, rfl⟩
  · go_enter Tryd.func57, Tryd.ntmps57
    go_wp2
    go_ret
    exact ⟨ret1 (by unfold sg; simp), rfl⟩
def NAN : Nat := 9221120237041090560
set_option maxHeartbeats 400000 in
theorem fb_nan (w : World) : Calls Tryd.prog 14 #[] w fun e w' => e = .returned (.int .u64 NAN) ∧ w = w' := by
  go_enter Tryd.func14, Tryd.ntmps14
  go_wp2
  go_ret
  exact ⟨rfl, rfl⟩
set_option maxHeartbeats 400000 in
theorem rf_nan (w : World) : Calls Tryd.prog 24 #[] w fun e w' => e = .returned (.int .u64 NAN) ∧ w = w' := by
  go_enter Tryd.func24, Tryd.ntmps24
  go_wp2
  go_ret
  exact ⟨rfl, rfl⟩
set_option maxHeartbeats 400000 in
theorem fb_inf (s : Bool) (w : World) : Calls Tryd.prog 17 #[.bool s] w fun e w' => e = .returned (.int .u64 (sg s INF)) ∧ w = w' := by
  have S := fb_signed s (b := 9218868437227405312) (by omega) w
  rw [← INF_lit] at S
  have e : ((INF : Nat) : Int) = 9218868437227405312 := by rw [INF_lit]; rfl
  rw [e] at S
  have HS := Lib.hid S
  clear S e
  go_enter Tryd.func17, Tryd.ntmps17
  go_wp2_with fail
  refine HS.out.mono ?_
  rintro e w' ⟨rfl, rfl⟩
  go_wp2_with fail
  go_ret
  exact ⟨rfl, rfl⟩
set_option maxHeartbeats 400000 in
theorem rf_inf (s : Bool) (w : World) : Calls Tryd.prog 26 #[.bool s] w fun e w' => e = .returned (.int .u64 (sg s INF)) ∧ w = w' := by
  have S := rf_signed s (b := 9218868437227405312) (by omega) w
  rw [← INF_lit] at S
  have e : ((INF : Nat) : Int) = 9218868437227405312 := by rw [INF_lit]; rfl
  rw [e] at S
  have HS := Lib.hid S
  clear S e
  go_enter Tryd.func26, Tryd.ntmps26
  go_wp2_with fail
  refine HS.out.mono ?_
  rintro e w' ⟨rfl, rfl⟩
  go_wp2_with fail
  go_ret
  exact ⟨rfl, rfl⟩
/-- a double; all that are no number as one -/
def cln (b : Nat) : Nat := if kd b = 4 then NAN else b
theorem cln_lt {b : Nat} (hb : b < 18446744073709551616) : cln b < 18446744073709551616 := by unfold cln NAN; split <;> omega
set_option maxHeartbeats 400000 in
theorem fb_clean {b : Nat} (hb : b < 18446744073709551616) (w : World) :
    Calls Tryd.prog 51 #[.int .u64 b] w fun e w' => e = .returned (.int .u64 (cln b)) ∧ w = w' := by
  have F := Lib.hid (fb_kind hb w)
  have hk : cln b = if kd b = 4 then NAN else b := rfl
  generalize cln b = K at *
  generalize kd b = f at *
  have HK := Lib.hid hk
  clear hk
  by_cases h : f = 4
  · subst h
    go_enter Tryd.func51, Tryd.ntmps51
    go_wp2_with fail
    refine F.out.mono ?_
    rintro e w' ⟨rfl, rfl⟩
    go_wp2_with fail
    refine (fb_nan _).mono ?_
    rintro e w' ⟨rfl, rfl⟩
    go_wp2_with fail
    go_ret
    exact ⟨ret1 (by have := HK.out; rw [if_pos trivial] at this; omega), rfl⟩
  · have g : ((f : Int) == 4) = false := by simp; omega
    go_enter Tryd.func51, Tryd.ntmps51
    go_wp2_with fail
    refine F.out.mono ?_
    rintro e w' ⟨rfl, rfl⟩
    go_wp2_with fail
    go_ret
    exact ⟨ret1 (by have := HK.out; rw [if_neg h] at this; omega), rfl⟩
set_option maxHeartbeats 400000 in
theorem rf_clean {b : Nat} (hb : b < 18446744073709551616) (w : World) :
    Calls Tryd.prog 68 #[.int .u64 b] w fun e w' => e = .returned (.int .u64 (cln b)) ∧ w = w' := by
  have F := Lib.hid (rf_kind hb w)
  have hk : cln b = if kd b = 4 then NAN else b := rfl
  generalize cln b = K at *
  generalize kd b = f at *
  have HK := Lib.hid hk
  clear hk
  by_cases h : f = 4
  · subst h
    go_enter Tryd.func68, Tryd.ntmps68
    go_wp2_with fail
    refine F.out.mono ?_
    rintro e w' ⟨rfl, rfl⟩
    go_wp2_with fail
    refine (rf_nan _).mono ?_
    rintro e w' ⟨rfl, rfl⟩
    go_wp2_with fail
    go_ret
    exact ⟨ret1 (by have := HK.out; rw [if_pos trivial] at this; omega), rfl⟩
  · have g : ((f : Int) == 4) = false := by simp; omega
    go_enter Tryd.func68, Tryd.ntmps68
    go_wp2_with fail
    refine F.out.mono ?_
    rintro e w' ⟨rfl, rfl⟩
    go_wp2_with fail
    go_ret
    exact ⟨ret1 (by have := HK.out; rw [if_neg h] at this; omega), rfl⟩
theorem flp_lt (b : Nat) : flp b < 18446744073709551616 := by unfold flp; omega
theorem flp_kind {b : Nat} (hb : b < 18446744073709551616) : kd (flp b) = kd b := by
  have h1 : fld (flp b) = fld b := by unfold fld flp; omega
  have h2 : rst (flp b) = rst b := by unfold rst flp; omega
  unfold kd; rw [h1, h2]
/-- .. with the opposite sign -/
def flc (b : Nat) : Nat := if kd b = 4 then NAN else flp b
theorem flc_cln {b : Nat} (hb : b < 18446744073709551616) : cln (flp b) = flc b := by unfold cln flc; rw [flp_kind hb]
set_option maxHeartbeats 400000 in
theorem fb_flip {b : Nat} (hb : b < 18446744073709551616) (w : World) :
    Calls Tryd.prog 54 #[.int .u64 b] w fun e w' => e = .returned (.int .u64 (flc b)) ∧ w = w' := by
  have h1 := flip_bits hb
  have F := fb_clean (flp_lt b) w
  rw [flc_cln hb] at F
  have HF := Lib.hid F
  clear F
  go_enter Tryd.func54, Tryd.ntmps54
  go_wp2_with fail
  refine HF.out.mono ?_
  rintro e w' ⟨rfl, rfl⟩
  go_wp2_with fail
  go_ret
  exact ⟨rfl, rfl⟩
set_option maxHeartbeats 400000 in
theorem rf_flip {b : Nat} (hb : b < 18446744073709551616) (w : World) :
    Calls Tryd.prog 66 #[.int .u64 b] w fun e w' => e = .returned (.int .u64 (flc b)) ∧ w = w' := by
  have F := Lib.hid (rf_kind hb w)
  have hk : flc b = if kd b = 4 then NAN else flp b := rfl
  have hf : (flp b : Int) = ((b : Int) + 9223372036854775808) % 18446744073709551616 := by unfold flp; omega
  generalize flc b = K at *
  generalize flp b = L at *
  generalize kd b = f at *
  have HK := Lib.hid hk
  have HF := Lib.hid hf
  clear hk hf
  by_cases h : f = 4
  · subst h
    go_enter Tryd.func66, Tryd.ntmps66
    go_wp2_with fail
    refine F.out.mono ?_
    rintro e w' ⟨rfl, rfl⟩
    go_wp2_with fail
    refine (rf_nan _).mono ?_
    rintro e w' ⟨rfl, rfl⟩
    go_wp2_with fail
    go_ret
    exact ⟨ret1 (by have := HK.out; rw [if_pos trivial] at this; omega), rfl⟩
  · have g : ((f : Int) == 4) = false := by simp; omega
    go_enter Tryd.func66, Tryd.ntmps66
    go_wp2_with fail
    refine F.out.mono ?_
    rintro e w' ⟨rfl, rfl⟩
    go_wp2_with fail
    go_ret
    exact ⟨ret1 (by have := HK.out; have h9 := HF.out; rw [if_neg h] at this; try rw [wrapU]; omega), rfl⟩

theorem ret4 {k l : IntKind} {a b c d : Int} {p q r s : Bool} (h1 : p = q) (h2 : a = c) (h3 : b = d) (h4 : r = s) : Ending.returned (.tuple #[.bool p, .int k a, .int l b, .bool r]) = .returned (.tuple #[.bool q, .int k c, .int l d, .bool s]) := by rw [h1, h2, h3, h4]
set_option maxHeartbeats 1000000 in
theorem fb_parts {b : Nat} (hb : b < 18446744073709551616) (w : World) :
    Calls Tryd.prog 46 #[.int .u64 b] w fun e w' => e = .returned (if fld b < 2047 then .tuple #[.bool (ng b), .int .u64 (sig b), .int .i64 (xpo b), .bool true] else .tuple #[.bool false, .int .u64 0, .int .i64 0, .bool false]) ∧ w = w' := by
  have h1 := rst_bits hb
  have h6 := hid_bits hb
  have F := Lib.hid (fb_kind hb w)
  have G := Lib.hid (fb_field hb w)
  have N := Lib.hid (fb_neg hb w)
  have hl := fld_lt b
  have hr := rst_lt b
  have hk : kd b = if fld b = 2047 then (if rst b = 0 then 3 else 4) else if fld b = 0 then (if rst b = 0 then 0 else 1) else 2 := rfl
  have hs : sig b = if fld b = 0 then rst b else rst b + 4503599627370496 := rfl
  have hx : xpo b = if fld b = 0 then -1074 else (fld b : Int) - 1075 := rfl
  generalize kd b = K at *
  generalize sig b = S at *
  generalize xpo b = X at *
  generalize rst b = r at *
  generalize fld b = f at *
  generalize ng b = g at *
  by_cases h2 : f = 2047
  · subst h2
    rw [if_neg (by omega)]
    simp at hk
    have hK : K = 3 ∨ K = 4 := by split at hk <;> omega
    clear hk hs hx
    rcases hK with rfl | rfl
    all_goals
      go_enter Tryd.func46, Tryd.ntmps46
      go_wp2_with fail
      refine F.out.mono ?_
      rintro e w' ⟨rfl, rfl⟩
      go_wp2_with fail
      refine bodyPost_ret (v := .tuple #[.bool false, .int .u64 0, .int .i64 0, .bool false]) (by simp [results, Tryd.results46, go_sem]) rfl ?_
      exact ⟨rfl, rfl⟩
  · rw [if_pos (show f < 2047 by omega)]
    rw [if_neg h2] at hk
    by_cases h5 : f = 0
    · subst h5
      simp at hk hs hx
      subst hs hx
      have hK : K = 0 ∨ K = 1 := by split at hk <;> omega
      clear hk
      rcases hK with rfl | rfl
      all_goals
        go_enter Tryd.func46, Tryd.ntmps46
        go_wp2_with fail
        refine F.out.mono ?_
        rintro e w' ⟨rfl, rfl⟩
        go_wp2_with fail
        refine N.out.mono ?_
        rintro e w' ⟨rfl, rfl⟩
        go_wp2_with fail
        refine bodyPost_ret (v := .tuple #[.bool g, .int .u64 S, .int .i64 (-1074), .bool true]) (by simp [results, Tryd.results46, go_sem]) rfl ?_
        exact ⟨rfl, rfl⟩
    · rw [if_neg h5] at hk hs hx
      subst hk hs hx
      obtain ⟨y, hy⟩ : ∃ y : Int, (f : Int) - 1075 = y := ⟨_, rfl⟩
      have hy2 : (f : Int) - 1 + -1074 = y := by omega
      rw [hy]
      have HY := Lib.hid hy2
      clear hy hy2
      go_enter Tryd.func46, Tryd.ntmps46
      go_wp2_with fail
      refine F.out.mono ?_
      rintro e w' ⟨rfl, rfl⟩
      go_wp2_with fail
      refine N.out.mono ?_
      rintro e w' ⟨rfl, rfl⟩
      go_wp2_with fail
      refine G.out.mono ?_
      rintro e w' ⟨rfl, rfl⟩
      go_wp2_with fail
      have := HY.out
      refine bodyPost_ret (v := .tuple #[.bool g, .int .u64 ((r + 4503599627370496 : Nat) : Int), .int .i64 y, .bool true]) (by simp [results, Tryd.results46, go_sem]; try omega) rfl ?_
      exact ⟨rfl, rfl⟩
set_option maxHeartbeats 1000000 in
theorem rf_parts {b : Nat} (hb : b < 18446744073709551616) (w : World) :
    Calls Tryd.prog 59 #[.int .u64 b] w fun e w' => e = .returned (.tuple #[.int .u64 (sig b), .int .i64 (xpo b)]) ∧ w = w' := by
  have R := Lib.hid (rf_rest hb w)
  have G := Lib.hid (rf_field hb w)
  have hl := fld_lt b
  have hr := rst_lt b
  have hs : sig b = if fld b = 0 then rst b else rst b + 4503599627370496 := rfl
  have hx : xpo b = if fld b = 0 then -1074 else (fld b : Int) - 1075 := rfl
  generalize sig b = S at *
  generalize xpo b = X at *
  generalize rst b = r at *
  generalize fld b = f at *
  by_cases h5 : f = 0
  · subst h5
    simp at hs hx
    subst hs hx
    go_enter Tryd.func59, Tryd.ntmps59
    go_wp2_with (first | (go_at_call 39; refine G.out.mono ?_; rintro e w' ⟨rfl, rfl⟩) | (go_at_call 40; refine R.out.mono ?_; rintro e w' ⟨rfl, rfl⟩) | fail)
    go_ret2
    exact ⟨rfl, rfl⟩
  · have g5 : ((f : Int) == 0) = false := by simp; omega
    rw [if_neg h5] at hs hx
    subst hs hx
    go_enter Tryd.func59, Tryd.ntmps59
    go_wp2_with (first | (go_at_call 39; refine G.out.mono ?_; rintro e w' ⟨rfl, rfl⟩) | (go_at_call 40; refine R.out.mono ?_; rintro e w' ⟨rfl, rfl⟩) | fail)
    go_ret2
    exact ⟨ret2 (by omega) (by omega), rfl⟩

end Go.Proofs.YtmoahgiklgicgaaDoor
