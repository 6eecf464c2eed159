/-
  What the document's Half and More of layer 10 return. Conditions: the slice reads as a list of words, of at most 190 words.
-/
import Derived.Test.YtibgpeaplmcogaaGreatDoorLnTrAllT
import Derived.Test.YtibgpeaplmcogaaGreatDoorU64AllT
import Derived.Test.YtibgpeaplmcogaaGreatDoorRefGcdAllT
import Derived.Deep.DeepCutAuto
import Derived.Test.YtibgpeaplmcogaaGreatDoorRefShiftAllT
namespace Go.Proofs.YtibgpeaplmcogaaGreatDoor
set_option maxRecDepth 100000
open Go.RowKit
set_option linter.unusedVariables false
set_option linter.unusedSimpArgs false

/-- the exponent's field, the fraction, the sign, the kind of a double -/
def fld (b : Nat) : Nat := b / 4503599627370496 % 2048
def rst (b : Nat) : Nat := b % 4503599627370496
def ng (b : Nat) : Bool := decide (9223372036854775808 ≤ b)
def kd (b : Nat) : Nat := if fld b = 2047 then (if rst b = 0 then 3 else 4) else if fld b = 0 then (if rst b = 0 then 0 else 1) else 2
/-- the significand and the exponent of a finite one -/
def sig (b : Nat) : Nat := if fld b = 0 then rst b else rst b + 4503599627370496
def xpo (b : Nat) : Int := if fld b = 0 then -1074 else (fld b : Int) - 1075
theorem fld_lt (b : Nat) : fld b ≤ 2047 := by unfold fld; omega
theorem rst_lt (b : Nat) : rst b < 4503599627370496 := by unfold rst; omega
theorem U_n64 {b : Nat} (h : b < 18446744073709551616) : U (b : Int) := by unfold U; omega
theorem fld_bits {b : Nat} (h : b < 18446744073709551616) : bits .and .u64 ((b : Int) / 4503599627370496) 2047 = (fld b : Int) := by
  have := and_mask 11 (by decide) (a := (b : Int) / 4503599627370496) (by unfold U; omega)
  have e : ((2 ^ 11 - 1 : Nat) : Int) = 2047 := by decide
  rw [e] at this
  rw [this]
  unfold fld
  have e2 : ((2 ^ 11 : Nat) : Int) = 2048 := by decide
  rw [e2]
  omega
theorem rst_bits {b : Nat} (h : b < 18446744073709551616) : bits .and .u64 (b : Int) 4503599627370495 = (rst b : Int) := by
  have := and_mask 52 (by decide) (U_n64 h)
  have e : ((2 ^ 52 - 1 : Nat) : Int) = 4503599627370495 := by decide
  rw [e] at this
  rw [this]
  unfold rst
  have e2 : ((2 ^ 52 : Nat) : Int) = 4503599627370496 := by decide
  rw [e2]
  omega
theorem hid_bits {b : Nat} (h : b < 18446744073709551616) : bits .or .u64 4503599627370496 (rst b : Int) = ((rst b + 4503599627370496 : Nat) : Int) := by
  have h1 := rst_lt b
  have := or_join 52 (x := 4503599627370496) (y := (rst b : Int)) (by unfold U; omega) (by decide) (by omega) (by omega) (by unfold U; omega)
  rw [this]; omega
theorem neg_bits {b : Nat} (h : b < 18446744073709551616) : (bits .and .u64 (b : Int) 9223372036854775808 != 0) = ng b := by
  have h1 := u64_and_nat b 9223372036854775808 h (by omega)
  have e : ((9223372036854775808 : Nat) : Int) = 9223372036854775808 := rfl
  rw [e] at h1
  rw [h1]
  unfold ng
  rcases Nat.lt_or_ge b 9223372036854775808 with hl | hl
  · have h2 : b &&& 9223372036854775808 = 0 := by
      apply Nat.eq_of_testBit_eq
      intro i
      rw [Nat.testBit_and, show (9223372036854775808 : Nat) = 2 ^ 63 by decide, Nat.testBit_two_pow, Nat.zero_testBit]
      by_cases hi : 63 = i
      · subst hi
        rw [Nat.testBit_lt_two_pow (by omega)]; rfl
      · simp [hi]
    rw [h2, decide_eq_false (by omega)]; rfl
  · have h2 : b &&& 9223372036854775808 ≠ 0 := by
      intro h2
      have h3 : (b &&& 9223372036854775808).testBit 63 = true := by
        rw [Nat.testBit_and, show (9223372036854775808 : Nat) = 2 ^ 63 by decide, Nat.testBit_two_pow, Nat.testBit_eq_decide_div_mod_eq]
        simp; omega
      rw [h2] at h3
      simp at h3
    rw [decide_eq_true hl]
    simp only [bne_iff_ne, ne_eq]
    omega
/-- a double with the opposite sign -/
def flp (b : Nat) : Nat := (b + 9223372036854775808) % 18446744073709551616
theorem flip_bits {b : Nat} (h : b < 18446744073709551616) : bits .xor .u64 (b : Int) 9223372036854775808 = (flp b : Int) := by
  have h1 := u64_xor_nat b 9223372036854775808 h (by omega)
  have e : ((9223372036854775808 : Nat) : Int) = 9223372036854775808 := rfl
  rw [e] at h1
  rw [h1]
  suffices h9 : b ^^^ 9223372036854775808 = flp b by rw [h9]
  unfold flp
  rcases Nat.lt_or_ge b 9223372036854775808 with hl | hl
  · have := Nat.two_pow_add_eq_or_of_lt (b := b) (i := 63) (by omega) 1
    have h3 : b ^^^ 9223372036854775808 = b + 9223372036854775808 := by
      apply Nat.eq_of_testBit_eq
      intro i
      rw [Nat.testBit_xor, show (9223372036854775808 : Nat) = 2 ^ 63 * 1 by decide, Nat.add_comm b, Nat.testBit_two_pow_mul_add _ (by omega)]
      rw [Nat.mul_one, Nat.testBit_two_pow]
      by_cases hi : i < 63
      · simp [hi, show ¬ 63 = i by omega]
      · have : b.testBit i = false := Nat.testBit_lt_two_pow (Nat.lt_of_lt_of_le hl (Nat.pow_le_pow_right (n := 2) (by omega) (show 63 ≤ i by omega)))
        simp only [this, Bool.false_xor, if_neg hi]
        rcases Nat.lt_or_ge 63 i with hg | hg
        · have e1 : ¬ 63 = i := by omega
          obtain ⟨j, rfl⟩ : ∃ j, i = 64 + j := ⟨i - 64, by omega⟩
          simp [e1, show 64 + j - 63 = j + 1 by omega, Nat.testBit_succ]
        · have : i = 63 := by omega
          subst this; decide
    rw [h3]; omega
  · obtain ⟨c, hc⟩ : ∃ c, b = 2 ^ 63 * 1 + c := ⟨b - 9223372036854775808, by omega⟩
    have hc2 : c < 2 ^ 63 := by omega
    have h3 : b ^^^ 9223372036854775808 = c := by
      apply Nat.eq_of_testBit_eq
      intro i
      rw [Nat.testBit_xor, hc, Nat.testBit_two_pow_mul_add _ hc2, show (9223372036854775808 : Nat) = 2 ^ 63 by decide, Nat.testBit_two_pow]
      by_cases hi : i < 63
      · simp [hi, show ¬ 63 = i by omega]
      · have : c.testBit i = false := Nat.testBit_lt_two_pow (Nat.lt_of_lt_of_le hc2 (Nat.pow_le_pow_right (by omega) (by omega)))
        rw [this, if_neg hi]
        rcases Nat.lt_or_ge 63 i with hg | hg
        · have e1 : ¬ 63 = i := by omega
          obtain ⟨j, rfl⟩ : ∃ j, i = 64 + j := ⟨i - 64, by omega⟩
          simp [e1, show 64 + j - 63 = j + 1 by omega, Nat.testBit_succ]
        · have : i = 63 := by omega
          subst this; decide
    rw [h3]; omega
theorem sign_bits (s : Bool) {b : Nat} (h : b < 9223372036854775808) : bits .or .u64 (b : Int) 9223372036854775808 = ((b + 9223372036854775808 : Nat) : Int) := by
  have h1 := u64_or_nat b 9223372036854775808 (by omega) (by omega)
  have e : ((9223372036854775808 : Nat) : Int) = 9223372036854775808 := rfl
  rw [e] at h1
  rw [h1]
  suffices h9 : b ||| 9223372036854775808 = b + 9223372036854775808 by rw [h9]
  rw [Nat.or_comm]
  have := Nat.two_pow_add_eq_or_of_lt (b := b) (i := 63) (by omega) 1
  rw [show (9223372036854775808 : Nat) = 2 ^ 63 * 1 by decide, ← this]
  omega

set_option maxHeartbeats 400000 in
theorem fb_field {b : Nat} (hb : b < 18446744073709551616) (w : World) :
    Calls Tryz.prog 207 #[.int .u64 b] w fun e w' => e = .returned (.int .i64 (fld b)) ∧ w = w' := by
  have h1 := fld_bits hb
  have h2 := fld_lt b
  go_enter Tryz.func207, Tryz.ntmps207
  go_wp2
  go_ret
  exact ⟨rfl, rfl⟩
set_option maxHeartbeats 1000000 in
theorem fb_kind {b : Nat} (hb : b < 18446744073709551616) (w : World) :
    Calls Tryz.prog 149 #[.int .u64 b] w fun e w' => e = .returned (.int .i64 (kd b)) ∧ w = w' := by
  have h1 := rst_bits hb
  have F := Lib.hid (fb_field hb w)
  have hk : kd b = if fld b = 2047 then (if rst b = 0 then 3 else 4) else if fld b = 0 then (if rst b = 0 then 0 else 1) else 2 := rfl
  generalize kd b = K at *
  generalize rst b = r at *
  generalize fld b = f at *
  have HK := Lib.hid hk
  clear hk
  by_cases h2 : f = 2047
  · subst h2
    by_cases h3 : r = 0
    · subst h3
      go_enter Tryz.func149, Tryz.ntmps149
      go_wp2_with fail
      refine F.out.mono ?_
      rintro e w' ⟨rfl, rfl⟩
      go_wp2_with fail
      go_ret
      exact ⟨ret1 (by have := HK.out; simp at this; omega), rfl⟩
    · have h4 : ((r : Int) == 0) = false := by simp; omega
      go_enter Tryz.func149, Tryz.ntmps149
      go_wp2_with fail
      refine F.out.mono ?_
      rintro e w' ⟨rfl, rfl⟩
      go_wp2_with fail
      go_ret
      exact ⟨ret1 (by have := HK.out; simp [h3] at this; omega), rfl⟩
  · have g2 : ((f : Int) == 2047) = false := by simp; omega
    by_cases h5 : f = 0
    · subst h5
      by_cases h3 : r = 0
      · subst h3
        go_enter Tryz.func149, Tryz.ntmps149
        go_wp2_with fail
        refine F.out.mono ?_
        rintro e w' ⟨rfl, rfl⟩
        go_wp2_with fail
        go_ret
        exact ⟨ret1 (by have := HK.out; simp at this; omega), rfl⟩
      · have h4 : ((r : Int) == 0) = false := by simp; omega
        go_enter Tryz.func149, Tryz.ntmps149
        go_wp2_with fail
        refine F.out.mono ?_
        rintro e w' ⟨rfl, rfl⟩
        go_wp2_with fail
        go_ret
        exact ⟨ret1 (by have := HK.out; simp [h3] at this; omega), rfl⟩
    · have g5 : ((f : Int) == 0) = false := by simp; omega
      go_enter Tryz.func149, Tryz.ntmps149
      go_wp2_with fail
      refine F.out.mono ?_
      rintro e w' ⟨rfl, rfl⟩
      go_wp2_with fail
      go_ret
      exact ⟨ret1 (by have := HK.out; rw [if_neg h2, if_neg h5] at this; omega), rfl⟩
set_option maxHeartbeats 400000 in
theorem fb_neg {b : Nat} (hb : b < 18446744073709551616) (w : World) :
    Calls Tryz.prog 157 #[.int .u64 b] w fun e w' => e = .returned (.bool (ng b)) ∧ w = w' := by
  have h1 := neg_bits hb
  go_enter Tryz.func157, Tryz.ntmps157
  go_wp2
  go_ret
  exact ⟨rfl, rfl⟩
set_option maxHeartbeats 400000 in
theorem fb_signed (s : Bool) {b : Nat} (hb : b < 9223372036854775808) (w : World) :
    Calls Tryz.prog 216 #[.bool s, .int .u64 b] w fun e w' => e = .returned (.int .u64 (sg s b)) ∧ w = w' := by
  have h1 := sign_bits s hb
  cases s
  · go_enter Tryz.func216, Tryz.ntmps216
    go_wp2
    go_ret
    exact ⟨rfl, rfl⟩
  · go_enter Tryz.func216, Tryz.ntmps216
    go_wp2
    go_ret
    exact ⟨ret1 (by unfold sg; simp), rfl⟩
def NAN : Nat := 9221120237041090560
set_option maxHeartbeats 400000 in
theorem fb_nan (w : World) : Calls Tryz.prog 150 #[] w fun e w' => e = .returned (.int .u64 NAN) ∧ w = w' := by
  go_enter Tryz.func150, Tryz.ntmps150
  go_wp2
  go_ret
  exact ⟨rfl, rfl⟩
set_option maxHeartbeats 400000 in
theorem fb_inf (s : Bool) (w : World) : Calls Tryz.prog 158 #[.bool s] w fun e w' => e = .returned (.int .u64 (sg s INF)) ∧ w = w' := by
  have S := fb_signed s (b := 9218868437227405312) (by omega) w
  rw [← INF_lit] at S
  have e : ((INF : Nat) : Int) = 9218868437227405312 := by rw [INF_lit]; rfl
  rw [e] at S
  have HS := Lib.hid S
  clear S e
  go_enter Tryz.func158, Tryz.ntmps158
  go_wp2_with fail
  refine HS.out.mono ?_
  rintro e w' ⟨rfl, rfl⟩
  go_wp2_with fail
  go_ret
  exact ⟨rfl, rfl⟩
/-- a double; all that are no number as one -/
def cln (b : Nat) : Nat := if kd b = 4 then NAN else b
theorem cln_lt {b : Nat} (hb : b < 18446744073709551616) : cln b < 18446744073709551616 := by unfold cln NAN; split <;> omega
set_option maxHeartbeats 400000 in
theorem fb_clean {b : Nat} (hb : b < 18446744073709551616) (w : World) :
    Calls Tryz.prog 94 #[.int .u64 b] w fun e w' => e = .returned (.int .u64 (cln b)) ∧ w = w' := by
  have F := Lib.hid (fb_kind hb w)
  have hk : cln b = if kd b = 4 then NAN else b := rfl
  generalize cln b = K at *
  generalize kd b = f at *
  have HK := Lib.hid hk
  clear hk
  by_cases h : f = 4
  · subst h
    go_enter Tryz.func94, Tryz.ntmps94
    go_wp2_with fail
    refine F.out.mono ?_
    rintro e w' ⟨rfl, rfl⟩
    go_wp2_with fail
    refine (fb_nan _).mono ?_
    rintro e w' ⟨rfl, rfl⟩
    go_wp2_with fail
    go_ret
    exact ⟨ret1 (by have := HK.out; rw [if_pos trivial] at this; omega), rfl⟩
  · have g : ((f : Int) == 4) = false := by simp; omega
    go_enter Tryz.func94, Tryz.ntmps94
    go_wp2_with fail
    refine F.out.mono ?_
    rintro e w' ⟨rfl, rfl⟩
    go_wp2_with fail
    go_ret
    exact ⟨ret1 (by have := HK.out; rw [if_neg h] at this; omega), rfl⟩
theorem flp_lt (b : Nat) : flp b < 18446744073709551616 := by unfold flp; omega
theorem flp_kind {b : Nat} (hb : b < 18446744073709551616) : kd (flp b) = kd b := by
  have h1 : fld (flp b) = fld b := by unfold fld flp; omega
  have h2 : rst (flp b) = rst b := by unfold rst flp; omega
  unfold kd; rw [h1, h2]
/-- .. with the opposite sign -/
def flc (b : Nat) : Nat := if kd b = 4 then NAN else flp b
theorem flc_cln {b : Nat} (hb : b < 18446744073709551616) : cln (flp b) = flc b := by unfold cln flc; rw [flp_kind hb]
set_option maxHeartbeats 400000 in
theorem fb_flip {b : Nat} (hb : b < 18446744073709551616) (w : World) :
    Calls Tryz.prog 96 #[.int .u64 b] w fun e w' => e = .returned (.int .u64 (flc b)) ∧ w = w' := by
  have h1 := flip_bits hb
  have F := fb_clean (flp_lt b) w
  rw [flc_cln hb] at F
  have HF := Lib.hid F
  clear F
  go_enter Tryz.func96, Tryz.ntmps96
  go_wp2_with fail
  refine HF.out.mono ?_
  rintro e w' ⟨rfl, rfl⟩
  go_wp2_with fail
  go_ret
  exact ⟨rfl, rfl⟩
set_option maxHeartbeats 1000000 in
theorem fb_parts {b : Nat} (hb : b < 18446744073709551616) (w : World) :
    Calls Tryz.prog 214 #[.int .u64 b] w fun e w' => e = .returned (if fld b < 2047 then .tuple #[.bool (ng b), .int .u64 (sig b), .int .i64 (xpo b), .bool true] else .tuple #[.bool false, .int .u64 0, .int .i64 0, .bool false]) ∧ w = w' := by
  have h1 := rst_bits hb
  have h6 := hid_bits hb
  have F := Lib.hid (fb_kind hb w)
  have G := Lib.hid (fb_field hb w)
  have N := Lib.hid (fb_neg hb w)
  have hl := fld_lt b
  have hr := rst_lt b
  have hk : kd b = if fld b = 2047 then (if rst b = 0 then 3 else 4) else if fld b = 0 then (if rst b = 0 then 0 else 1) else 2 := rfl
  have hs : sig b = if fld b = 0 then rst b else rst b + 4503599627370496 := rfl
  have hx : xpo b = if fld b = 0 then -1074 else (fld b : Int) - 1075 := rfl
  generalize kd b = K at *
  generalize sig b = S at *
  generalize xpo b = X at *
  generalize rst b = r at *
  generalize fld b = f at *
  generalize ng b = g at *
  by_cases h2 : f = 2047
  · subst h2
    rw [if_neg (by omega)]
    simp at hk
    have hK : K = 3 ∨ K = 4 := by split at hk <;> omega
    clear hk hs hx
    rcases hK with rfl | rfl
    all_goals
      go_enter Tryz.func214, Tryz.ntmps214
      go_wp2_with fail
      refine F.out.mono ?_
      rintro e w' ⟨rfl, rfl⟩
      go_wp2_with fail
      refine bodyPost_ret (v := .tuple #[.bool false, .int .u64 0, .int .i64 0, .bool false]) (by simp [results, Tryz.results214, go_sem]) rfl ?_
      exact ⟨rfl, rfl⟩
  · rw [if_pos (show f < 2047 by omega)]
    rw [if_neg h2] at hk
    by_cases h5 : f = 0
    · subst h5
      simp at hk hs hx
      subst hs hx
      have hK : K = 0 ∨ K = 1 := by split at hk <;> omega
      clear hk
      rcases hK with rfl | rfl
      all_goals
        go_enter Tryz.func214, Tryz.ntmps214
        go_wp2_with fail
        refine F.out.mono ?_
        rintro e w' ⟨rfl, rfl⟩
        go_wp2_with fail
        refine N.out.mono ?_
        rintro e w' ⟨rfl, rfl⟩
        go_wp2_with fail
        refine bodyPost_ret (v := .tuple #[.bool g, .int .u64 S, .int .i64 (-1074), .bool true]) (by simp [results, Tryz.results214, go_sem]) rfl ?_
        exact ⟨rfl, rfl⟩
    · rw [if_neg h5] at hk hs hx
      subst hk hs hx
      obtain ⟨y, hy⟩ : ∃ y : Int, (f : Int) - 1075 = y := ⟨_, rfl⟩
      have hy2 : (f : Int) - 1 + -1074 = y := by omega
      rw [hy]
      have HY := Lib.hid hy2
      clear hy hy2
      go_enter Tryz.func214, Tryz.ntmps214
      go_wp2_with fail
      refine F.out.mono ?_
      rintro e w' ⟨rfl, rfl⟩
      go_wp2_with fail
      refine N.out.mono ?_
      rintro e w' ⟨rfl, rfl⟩
      go_wp2_with fail
      refine G.out.mono ?_
      rintro e w' ⟨rfl, rfl⟩
      go_wp2_with fail
      have := HY.out
      refine bodyPost_ret (v := .tuple #[.bool g, .int .u64 ((r + 4503599627370496 : Nat) : Int), .int .i64 y, .bool true]) (by simp [results, Tryz.results214, go_sem]; try omega) rfl ?_
      exact ⟨rfl, rfl⟩
end Go.Proofs.YtibgpeaplmcogaaGreatDoor

namespace Go.Proofs.YtibgpeaplmcogaaGreatDoor
set_option maxRecDepth 100000
set_option linter.unusedVariables false
set_option linter.unusedSimpArgs false

@[irreducible] def K74 : Nat := 1074
theorem K74_eq : K74 = 1074 := by unfold K74; rfl
def mant (b : Nat) : Nat := b % 9223372036854775808
/-- the double nearest to an exact number -/
def fromQ (X : Rat) : Nat := sg (neg_ X) (magR X.num.natAbs X.den 0)

theorem mant_lt {b : Nat} (h : fld b < 2047) : mant b < INF := by
  rw [INF_lit]; unfold mant; unfold fld at h; omega
theorem mant_fld (b : Nat) : mant b / B52 = fld b ∧ mant b % B52 = rst b := by
  rw [B52_eq]; unfold mant fld rst; omega
theorem sg_mant (b : Nat) (hb : b < 18446744073709551616) : sg (ng b) (mant b) = b := by
  unfold sg ng mant
  by_cases h : 9223372036854775808 ≤ b
  · rw [decide_eq_true h]; simp; omega
  · rw [decide_eq_false h]; simp; omega
/-- the value, by significand and exponent -/
theorem fv_mant (b : Nat) : fv (mant b) = sig b * 2 ^ (xpo b + 1074).toNat := by
  obtain ⟨h1, h2⟩ := mant_fld b
  unfold fv
  rw [h1, h2]
  unfold sig xpo
  by_cases h : fld b = 0
  · rw [if_pos h, if_pos h, if_pos h]
    have : mant b = rst b := by
      have := Nat.div_add_mod (mant b) B52
      rw [h1, h2, h] at this
      omega
    rw [this]; simp
  · rw [if_neg h, if_neg h, if_neg h, B52_eq]
    congr 2
    omega
theorem xpo_range {b : Nat} (h : fld b < 2047) : -1074 ≤ xpo b ∧ xpo b ≤ 971 := by unfold xpo; split <;> omega
theorem sig_lt (b : Nat) : sig b < 9007199254740992 := by have := rst_lt b; unfold sig; split <;> omega
theorem abs_same (s : Bool) (a b : Nat) : (sI s a - sI s b).natAbs = dist a b := by
  unfold sI dist; cases s <;> simp <;> omega
theorem magR_le' (p q : Nat) (e : Int) : magR p q e ≤ 9218868437227405312 := by have := mag_le (p * 2 ^ up e) (q * 2 ^ dn e); rw [INF_lit] at this; exact this
end Go.Proofs.YtibgpeaplmcogaaGreatDoor

namespace Go.Proofs.YtibgpeaplmcogaaGreatDoor
set_option maxRecDepth 100000
set_option linter.unusedVariables false
set_option linter.unusedSimpArgs false

/-- what has at most 53 bits is a double -/
theorem ex_any {x s : Nat} (hx : x < 2 * B52) (hs : s ≤ 2045) : Ex (x * 2 ^ s) 1 := by
  rcases Nat.eq_zero_or_pos x with rfl | h0
  · unfold Ex ulp
    rw [Nat.zero_mul, Nat.zero_div, Nat.zero_mod, blen_zero]
    exact ⟨rfl, rfl, by omega⟩
  · have hb := blen_le (n := x) (k := 53) (by rw [B52_pow] at hx; omega)
    have hl : blen (x * 2 ^ s) = blen x + s := blen_mul_pow h0 s
    unfold Ex ulp
    rw [Nat.mod_one, Nat.div_one, hl]
    exact ⟨rfl, dvd_pow_pow (by omega), by omega⟩
/-- a number that is a double, and its word -/
theorem ex_val {p : Nat} (h : Ex p 1) : fv (mag p 1) = p ∧ mag p 1 < INF := by
  obtain ⟨_, h2, h3⟩ := h
  rw [Nat.div_one] at h2 h3
  have hu : ulp p 1 ≤ 2045 := by unfold ulp; rw [Nat.div_one]; omega
  have hp : 0 < 2 ^ ulp p 1 := Nat.two_pow_pos _
  have hd : p / 2 ^ ulp p 1 * 2 ^ ulp p 1 = p := by have := Nat.div_add_mod' p (2 ^ ulp p 1); omega
  have hr : rdiv p (1 * 2 ^ ulp p 1) = p / 2 ^ ulp p 1 := by
    rw [Nat.one_mul]
    have := rdiv_exact (p / 2 ^ ulp p 1) hp
    rwa [hd] at this
  have hl : p / 2 ^ ulp p 1 < 2 * B52 := by
    rw [Nat.div_lt_iff_lt_mul hp]
    refine Nat.lt_of_lt_of_le (blen_lt p) ?_
    rw [B52_pow, ← Nat.pow_succ', ← Nat.pow_add]
    exact Nat.pow_le_pow_right (by omega) (by unfold ulp; rw [Nat.div_one]; omega)
  have h6 : mag p 1 ≤ ulp p 1 * B52 + rdiv p (1 * 2 ^ ulp p 1) := by unfold mag; exact Nat.min_le_left _ _
  have h4 : ulp p 1 * B52 ≤ 2045 * B52 := Nat.mul_le_mul_right _ hu
  have hm : mag p 1 < INF := by
    rw [INF_eq]
    rw [hr] at h6
    generalize ulp p 1 * B52 = a at *
    generalize p / 2 ^ ulp p 1 = b at *
    generalize mag p 1 = c at *
    generalize B52 = d at *
    omega
  refine ⟨?_, hm⟩
  rw [fv_mag p (by omega) hm, hr, hd]
end Go.Proofs.YtibgpeaplmcogaaGreatDoor

namespace Go.Proofs.YtibgpeaplmcogaaGreatDoor
set_option maxRecDepth 100000
open Go.RowKit
set_option linter.unusedVariables false
set_option linter.unusedSimpArgs false

/-- the lowest bit stands for what is lost -/
theorem mark_sticky {P Q : Nat} (e : Int) (hQ : 0 < Q) (hr : P % Q ≠ 0) (hb : 55 ≤ blen (P / Q)) : magR (2 * (P / Q / 2) + 1) 1 e = magR P Q e := by
  have h1 : P / (Q * 2) = P / Q / 2 := (Nat.div_div_eq_div_mul _ _ _).symm
  have h2 : P % (Q * 2) ≠ 0 := by
    intro h
    apply hr
    have := Nat.mod_mul_right_mod P Q 2
    rw [h, Nat.zero_mod] at this
    exact this.symm
  have h3 : 54 ≤ blen (P / (Q * 2)) := by
    rw [h1]
    have h4 : 0 < P / Q := by
      rcases Nat.eq_zero_or_pos (P / Q) with h | h
      · rw [h, blen_zero] at hb; omega
      · exact h
    have := blen_half h4
    omega
  have h5 := magR_sticky (p := P) (q := Q * 2) (e + 1) (by omega) h2 h3
  have h6 := magR_down P Q 1 hQ e
  rw [show Q * 2 ^ 1 = Q * 2 by rw [Nat.pow_one]] at h6
  have h7 := magR_two (2 * (P / (Q * 2)) + 1) (e + 1)
  rw [show e + 1 - 1 = e by omega] at h7
  rw [← h1, ← h7, ← h5]
  exact h6
theorem mark_exact {P Q : Nat} (e : Int) (hQ : 0 < Q) (hr : P % Q = 0) : magR (P / Q) 1 e = magR P Q e :=
  magR_eq (a := 0) (b := 0) (by omega) hQ (by rw [Nat.pow_zero, Nat.mul_one, Nat.mul_one, Nat.div_mul_cancel (Nat.dvd_of_mod_eq_zero hr)]; omega) (by omega)
/-- a number with its lowest bit set where something is left -/
def mkd (m : Nat) (more : Bool) : Nat := if more then 2 * (m / 2) + 1 else m
theorem mkd_yes (m : Nat) : mkd m true = 2 * (m / 2) + 1 := by unfold mkd; rw [if_pos rfl]
theorem mkd_no (m : Nat) : mkd m false = m := by unfold mkd; rw [if_neg (by decide)]
theorem mkd_round {P Q : Nat} (e : Int) (hQ : 0 < Q) (hb : P % Q ≠ 0 → 55 ≤ blen (P / Q)) : magR (mkd (P / Q) (decide (P % Q ≠ 0))) 1 e = magR P Q e := by
  by_cases h : P % Q = 0
  · rw [decide_eq_false (by omega), mkd_no]; exact mark_exact e hQ h
  · rw [decide_eq_true h, mkd_yes]; exact mark_sticky e hQ h (hb h)

/-! ### sums -/
/-- what a double's digits say, in units of the least double -/
def vl (b : Nat) : Nat := fv (mant b)
theorem vl_eq (b : Nat) : vl b = sig b * 2 ^ (xpo b + 1074).toNat := fv_mant b
/-- m / 2^n, with its lowest bit set where something is lost -/
def cutv (m n : Nat) : Nat := mkd (m / 2 ^ n) (decide (m % 2 ^ n ≠ 0))

theorem sum_at {am n : Nat} {ae be : Int} (hn : ae - be = n) (hbe : -1074 ≤ be) (z : Nat) (V : Nat) (hz : z = V * 1024) (hV : V * 2 ^ (be + 1074).toNat = am) : magR z (2 ^ n) (ae - 10) = mag am 1 := by
  have h1 : magR z (2 ^ n) (ae - 10) = magR V 1 be :=
    magR_eq (a := n) (b := 10) (Nat.two_pow_pos n) (by omega) (by subst hz; grind) (by omega)
  rw [h1, ← hV]
  exact (magR_at (m := V) (e := be) (s := (be + 1074).toNat) (by omega)).1
theorem cut_sum {am bm n : Nat} (hn : bm * 1024 % 2 ^ n ≠ 0 → B52 ≤ am) :
    am * 1024 + cutv (bm * 1024) n = mkd ((am * 1024 * 2 ^ n + bm * 1024) / 2 ^ n) (decide ((am * 1024 * 2 ^ n + bm * 1024) % 2 ^ n ≠ 0)) ∧
    ((am * 1024 * 2 ^ n + bm * 1024) % 2 ^ n ≠ 0 → 55 ≤ blen ((am * 1024 * 2 ^ n + bm * 1024) / 2 ^ n)) := by
  have hp := Nat.two_pow_pos n
  have e1 : (am * 1024 * 2 ^ n + bm * 1024) / 2 ^ n = am * 1024 + bm * 1024 / 2 ^ n := by rw [Nat.add_comm, Nat.add_mul_div_right _ _ hp, Nat.add_comm]
  have e2 : (am * 1024 * 2 ^ n + bm * 1024) % 2 ^ n = bm * 1024 % 2 ^ n := by rw [Nat.add_comm, Nat.add_mul_mod_self_right]
  rw [e1, e2]
  unfold cutv
  by_cases h : bm * 1024 % 2 ^ n = 0
  · rw [h, decide_eq_false (by omega), mkd_no, mkd_no]; exact ⟨rfl, fun h => absurd rfl h⟩
  · rw [decide_eq_true h, mkd_yes, mkd_yes]
    have := hn h
    rw [B52_eq] at this
    generalize bm * 1024 / 2 ^ n = k at *
    refine ⟨by omega, fun _ => ?_⟩
    exact blen_ge (k := 54) (by omega)
theorem cut_diff {am bm n : Nat} (hle : bm * 1024 ≤ am * 1024 * 2 ^ n) (hn : bm * 1024 % 2 ^ n ≠ 0 → B52 ≤ am ∧ bm * 1024 / 2 ^ n < B52) :
    am * 1024 - cutv (bm * 1024) n = mkd ((am * 1024 * 2 ^ n - bm * 1024) / 2 ^ n) (decide ((am * 1024 * 2 ^ n - bm * 1024) % 2 ^ n ≠ 0)) ∧
    ((am * 1024 * 2 ^ n - bm * 1024) % 2 ^ n ≠ 0 → 55 ≤ blen ((am * 1024 * 2 ^ n - bm * 1024) / 2 ^ n)) ∧
    cutv (bm * 1024) n ≤ am * 1024 ∧ (cutv (bm * 1024) n = am * 1024 ↔ bm = am * 2 ^ n) := by
  have hp := Nat.two_pow_pos n
  have hdm := Nat.div_add_mod' (bm * 1024) (2 ^ n)
  have hlt := Nat.mod_lt (bm * 1024) hp
  unfold cutv
  by_cases h : bm * 1024 % 2 ^ n = 0
  · rw [h] at hdm
    generalize bm * 1024 / 2 ^ n = k at *
    have hkle : k ≤ am * 1024 := by
      rcases Nat.lt_or_ge (am * 1024) k with hl | hl
      · have : (am * 1024 + 1) * 2 ^ n ≤ k * 2 ^ n := Nat.mul_le_mul_right _ hl
        rw [Nat.add_mul, Nat.one_mul] at this
        omega
      · exact hl
    have e1 : am * 1024 * 2 ^ n - bm * 1024 = (am * 1024 - k) * 2 ^ n := by rw [Nat.sub_mul]; omega
    rw [e1, Nat.mul_div_cancel _ hp, Nat.mul_mod_left, h, decide_eq_false (by omega), mkd_no, mkd_no]
    refine ⟨rfl, fun h => absurd rfl h, hkle, ?_⟩
    constructor
    · intro hk
      subst hk
      have : am * 1024 * 2 ^ n = am * 2 ^ n * 1024 := by grind
      omega
    · intro hk
      subst hk
      have e3 : am * 2 ^ n * 1024 = am * 1024 * 2 ^ n := by grind
      rw [e3] at hdm
      have : k * 2 ^ n = am * 1024 * 2 ^ n := by omega
      exact Nat.eq_of_mul_eq_mul_right hp this
  · obtain ⟨h1, h2⟩ := hn h
    rw [B52_eq] at h1 h2
    generalize bm * 1024 / 2 ^ n = k at *
    generalize hr : bm * 1024 % 2 ^ n = r at *
    have e1 : am * 1024 * 2 ^ n - bm * 1024 = (2 ^ n - r) + (am * 1024 - k - 1) * 2 ^ n := by
      obtain ⟨c, hc⟩ : ∃ c, am * 1024 = c + k + 1 := ⟨am * 1024 - k - 1, by omega⟩
      rw [hc, show c + k + 1 - k - 1 = c by omega]
      have : (c + k + 1) * 2 ^ n = c * 2 ^ n + k * 2 ^ n + 2 ^ n := by grind
      omega
    have e2 : (am * 1024 * 2 ^ n - bm * 1024) / 2 ^ n = am * 1024 - k - 1 := by
      rw [e1, Nat.add_mul_div_right _ _ hp, Nat.div_eq_of_lt (by omega)]; omega
    have e3 : (am * 1024 * 2 ^ n - bm * 1024) % 2 ^ n = 2 ^ n - r := by
      rw [e1, Nat.add_mul_mod_self_right, Nat.mod_eq_of_lt (by omega)]
    rw [e2, e3, decide_eq_true h, decide_eq_true (show 2 ^ n - r ≠ 0 by omega), mkd_yes, mkd_yes]
    refine ⟨by omega, fun _ => blen_ge (k := 54) (by omega), by omega, ?_⟩
    constructor
    · intro hx; omega
    · intro hx
      exfalso
      subst hx
      rw [show am * 2 ^ n * 1024 = am * 1024 * 2 ^ n by grind, Nat.mul_mod_left] at hr
      omega

theorem xpo_mono {a b : Nat} (h : mant b ≤ mant a) : xpo b ≤ xpo a := by
  have h1 := mant_fld a
  have h2 := mant_fld b
  have h3 : mant b / B52 ≤ mant a / B52 := Nat.div_le_div_right h
  unfold xpo
  split <;> split <;> omega
theorem vl_mono {a b : Nat} (ha : fld a < 2047) (hb : fld b < 2047) : (vl b ≤ vl a ↔ mant b ≤ mant a) ∧ (vl a = vl b ↔ mant a = mant b) := by
  unfold vl
  have h1 := mant_lt ha
  have h2 := mant_lt hb
  rcases Nat.lt_trichotomy (mant a) (mant b) with h | h | h
  · have := fv_lt h1 h2 h; omega
  · rw [h]; omega
  · have := fv_lt h2 h1 h; omega
/-- the exponents' difference counts only above a full significand -/
theorem sig_full {a b : Nat} (h : xpo b < xpo a) : B52 ≤ sig a := by
  rw [B52_eq]
  by_cases h1 : fld a = 0
  · exfalso
    unfold xpo at h
    rw [if_pos h1] at h
    split at h <;> omega
  · unfold sig
    rw [if_neg h1]; omega
theorem cut_cond {a b n : Nat} (hn : xpo a - xpo b = n) (h : sig b * 1024 % 2 ^ n ≠ 0) : B52 ≤ sig a ∧ sig b * 1024 / 2 ^ n < B52 := by
  have h1 : 11 ≤ n := by
    rcases Nat.lt_or_ge n 11 with hl | hl
    · exfalso
      apply h
      have : (1024 : Nat) = 2 ^ (10 - n) * 2 ^ n := by rw [← Nat.pow_add, show 10 - n + n = 10 by omega]
      rw [this, ← Nat.mul_assoc, Nat.mul_mod_left]
    · exact hl
  refine ⟨sig_full (b := b) (by omega), ?_⟩
  have h2 := sig_lt b
  rw [B52_eq]
  refine Nat.div_lt_of_lt_mul ?_
  have h3 : 2 ^ 11 ≤ 2 ^ n := Nat.pow_le_pow_right (by omega) h1
  have h4 : 2048 * 4503599627370496 ≤ 2 ^ n * 4503599627370496 := Nat.mul_le_mul_right _ (by omega)
  omega

/-- the sum of two doubles that have values -/
def fsumF (a b : Nat) : Nat :=
  if ng a = ng b then sg (ng a) (mag (vl a + vl b) 1) else if vl a = vl b then 0 else if vl b < vl a then sg (ng a) (mag (vl a - vl b) 1) else sg (ng b) (mag (vl b - vl a) 1)
theorem fsumF_comm (a b : Nat) : fsumF a b = fsumF b a := by
  unfold fsumF
  by_cases h : ng a = ng b
  · rw [if_pos h, if_pos h.symm, h, Nat.add_comm]
  · have h' : ¬ ng b = ng a := fun x => h x.symm
    rw [if_neg h, if_neg h']
    by_cases h2 : vl a = vl b
    · rw [if_pos h2, if_pos h2.symm]
    · have h2' : ¬ vl b = vl a := fun x => h2 x.symm
      rw [if_neg h2, if_neg h2']
      by_cases h3 : vl b < vl a
      · rw [if_pos h3, if_neg (by omega)]
      · rw [if_neg h3, if_pos (by omega)]
theorem vl_parts {a b n : Nat} (hb : fld b < 2047) (hn : xpo a - xpo b = n) : vl a = sig a * 2 ^ n * 2 ^ (xpo b + 1074).toNat ∧ vl b = sig b * 2 ^ (xpo b + 1074).toNat := by
  have h1 := (xpo_range hb).1
  refine ⟨?_, vl_eq b⟩
  rw [vl_eq a, Nat.mul_assoc, ← Nat.pow_add]
  congr 2
  omega
/-- what the program computes, the greater one first -/
theorem sum_same {a b n : Nat} (hb : fld b < 2047) (hn : xpo a - xpo b = n) : magR (sig a * 1024 + cutv (sig b * 1024) n) 1 (xpo a - 10) = mag (vl a + vl b) 1 := by
  obtain ⟨h1, h2⟩ := cut_sum (am := sig a) (bm := sig b) (n := n) (fun h => (cut_cond hn h).1)
  obtain ⟨v1, v2⟩ := vl_parts hb hn
  rw [h1, mkd_round _ (Nat.two_pow_pos n) h2]
  exact sum_at hn (xpo_range hb).1 _ (sig a * 2 ^ n + sig b) (by grind) (by rw [v1, v2, Nat.add_mul])
theorem sum_diff {a b n : Nat} (hb : fld b < 2047) (hn : xpo a - xpo b = n) (hle : vl b ≤ vl a) :
    magR (sig a * 1024 - cutv (sig b * 1024) n) 1 (xpo a - 10) = mag (vl a - vl b) 1 ∧ cutv (sig b * 1024) n ≤ sig a * 1024 ∧ (cutv (sig b * 1024) n = sig a * 1024 ↔ vl a = vl b) := by
  obtain ⟨v1, v2⟩ := vl_parts hb hn
  have hp := Nat.two_pow_pos (xpo b + 1074).toNat
  have hle2 : sig b ≤ sig a * 2 ^ n := by
    rw [v1, v2] at hle
    exact Nat.le_of_mul_le_mul_right hle hp
  obtain ⟨h1, h2, h3, h4⟩ := cut_diff (am := sig a) (bm := sig b) (n := n) (by
    have := Nat.mul_le_mul_right 1024 hle2
    rw [show sig a * 2 ^ n * 1024 = sig a * 1024 * 2 ^ n by grind] at this
    exact this) (fun h => cut_cond hn h)
  refine ⟨?_, h3, ?_⟩
  · rw [h1, mkd_round _ (Nat.two_pow_pos n) h2]
    exact sum_at hn (xpo_range hb).1 _ (sig a * 2 ^ n - sig b) (by rw [Nat.sub_mul]; congr 1; grind) (by rw [v1, v2, Nat.sub_mul])
  · rw [h4, v1, v2]
    constructor
    · intro h; rw [h]
    · intro h; exact (Nat.eq_of_mul_eq_mul_right hp h).symm
theorem cutv_lt {m n : Nat} (h : m < 9223372036854775808) : cutv m n < 9223372036854775808 := by
  have : m / 2 ^ n ≤ m := Nat.div_le_self _ _
  unfold cutv mkd
  split <;> omega

/-- the sum of two doubles of any kinds -/
def fadd (a b : Nat) : Nat :=
  if kd a = 4 ∨ kd b = 4 ∨ (kd a = 3 ∧ kd b = 3 ∧ a ≠ b) then NAN else if kd a = 3 then a else if kd b = 3 then b else fsumF a b
def fsub (a b : Nat) : Nat := fadd a (flc b)
theorem kd_cases (b : Nat) : kd b ≤ 4 ∧ (kd b ≤ 2 ↔ fld b < 2047) := by
  have := fld_lt b
  unfold kd
  split
  · split <;> omega
  · split
    · split <;> omega
    · omega

end Go.Proofs.YtibgpeaplmcogaaGreatDoor

namespace Go.Proofs.YtibgpeaplmcogaaGreatDoor
set_option maxRecDepth 100000
open Go.RowKit
set_option linter.unusedVariables false
set_option linter.unusedSimpArgs false

/-- the double of a significand and an exponent, or 0 -/
def mkW (s : Bool) (m : Nat) (e : Int) : Nat := if ExR m 1 e then sg s (magR m 1 e) else 0
theorem exR_zero (e : Int) : ExR 0 1 e := by
  unfold ExR Ex ulp
  rw [Nat.zero_mul, Nat.zero_div, Nat.zero_mod, blen_zero]
  exact ⟨rfl, rfl, by omega⟩
theorem mkW_yes {s : Bool} {m : Nat} {e : Int} (h : ExR m 1 e) : mkW s m e = sg s (magR m 1 e) := if_pos h
theorem mkW_no {s : Bool} {m : Nat} {e : Int} (h : ¬ ExR m 1 e) : mkW s m e = 0 := if_neg h
def RetMk (s : Bool) (m : Nat) (e : Int) (w : World) (x : Ending) (w' : World) : Prop := x = .returned (.tuple #[.int .u64 (mkW s m e), .bool (decide (ExR m 1 e))]) ∧ w = w'
theorem retMk_no {s : Bool} {m : Nat} {e : Int} {w : World} (h : ¬ ExR m 1 e) : RetMk s m e w (.returned (.tuple #[.int .u64 0, .bool false])) w := by
  unfold RetMk
  rw [mkW_no h, decide_eq_false h]
  exact ⟨rfl, rfl⟩
theorem retMk_yes {s : Bool} {m b : Nat} {e : Int} {w : World} {v : Int} (h : ExR m 1 e) (hb : magR m 1 e = b) (hv : v = sg s b) : RetMk s m e w (.returned (.tuple #[.int .u64 v, .bool true])) w := by
  unfold RetMk
  rw [mkW_yes h, decide_eq_true h, hb, hv]
  exact ⟨rfl, rfl⟩
theorem low_bits {m : Nat} (h0 : 0 < m) (hm : m < 18446744073709551616) : bits .and .u64 (m : Int) (IntKind.u64.wrap (-(m : Int))) = ((2 ^ tz m : Nat) : Int) := by
  rw [show IntKind.u64.wrap (-(m : Int)) = (18446744073709551616 : Int) - m by rw [wrapU]; omega]
  have h1 := u64_and_nat m (18446744073709551616 - m) hm (by omega)
  rw [show ((18446744073709551616 - m : Nat) : Int) = (18446744073709551616 : Int) - m by omega] at h1
  rw [h1]
  have h2 := low_bit h0 (by omega)
  rw [show (2 : Nat) ^ 64 = 18446744073709551616 by decide] at h2
  rw [h2]
theorem blen_pow (t : Nat) : blen (2 ^ t) = t + 1 := blen_unique (by rw [Nat.pow_succ]; have := Nat.two_pow_pos t; omega) (Nat.le_refl _)
theorem tz_lt64 {m : Nat} (h0 : 0 < m) (hm : m < 18446744073709551616) : tz m < 64 := by
  obtain ⟨_, h2⟩ := tz_part h0
  have h3 := bit_lt_blen h2
  have := blen_le (n := m) (k := 64) (by omega)
  omega

theorem make_val1 {m o K : Nat} {e : Int} (g1 : magR m 1 e = 0 * B52 + o * 2 ^ K) (g3 : o * 2 ^ K < 2 * B52) : IntKind.u64.wrap (IntKind.u64.wrap ((o : Int) * 2 ^ K)) = ((magR m 1 e : Nat) : Int) := by
  have hc : (o : Int) * 2 ^ K = ((o * 2 ^ K : Nat) : Int) := by push_cast; rfl
  have hB := B52_eq
  rw [g1, hc, wrapU, wrapU, Nat.zero_mul, Nat.zero_add]
  generalize o * 2 ^ K = x at *
  omega
theorem make_val2 {m o K : Nat} {e L : Int} (hL : 0 ≤ L) (hL2 : L ≤ 2045) (g1 : magR m 1 e = L.toNat * B52 + o * 2 ^ K) (g3 : o * 2 ^ K < 2 * B52) : IntKind.u64.wrap (L * 4503599627370496 + IntKind.u64.wrap ((o : Int) * 2 ^ K)) = ((magR m 1 e : Nat) : Int) := by
  have hc : (o : Int) * 2 ^ K = ((o * 2 ^ K : Nat) : Int) := by push_cast; rfl
  obtain ⟨l, rfl⟩ := Int.eq_ofNat_of_zero_le hL
  rw [g1, hc, wrapU, wrapU, Int.toNat_natCast]
  simp only [B52_eq] at g3 ⊢
  generalize o * 2 ^ K = x at *
  omega
theorem magR_le (p q : Nat) (e : Int) : magR p q e ≤ 9218868437227405312 := by have := mag_le (p * 2 ^ up e) (q * 2 ^ dn e); rw [INF_lit] at this; exact this

set_option maxHeartbeats 2000000 in
theorem fb_make (s : Bool) {m : Nat} (hm : m < 18446744073709551616) {e : Int} (he : -9223372036854775808 ≤ e) (he2 : e ≤ 9223372036854775807) (w : World) :
    Calls Tryz.prog 209 #[.bool s, .int .u64 m, .int .i64 e] w (RetMk s m e w) := by
  rcases Nat.eq_zero_or_pos m with rfl | h0
  · have S := Lib.hid (fb_signed s (b := 0) (by omega) w)
    go_enter Tryz.func209, Tryz.ntmps209
    go_wp2_with fail
    refine S.out.mono ?_
    rintro _ w' ⟨rfl, rfl⟩
    go_wp2_with fail
    go_ret2
    exact retMk_yes (exR_zero e) (magR_zero 1 e) rfl
  · have hz : ((m : Int) == 0) = false := by simp; omega
    obtain ⟨hp, ho⟩ := tz_part h0
    have ht := tz_lt64 h0 hm
    have hl := low_bits h0 hm
    have hbl := blen_pow (tz m)
    have hole : m / 2 ^ tz m ≤ m := Nat.div_le_self _ _
    have hdiv : (m : Int) / 2 ^ tz m = ((m / 2 ^ tz m : Nat) : Int) := by rw [Int.natCast_ediv]; congr 1
    have hP : 2 ^ tz m < 18446744073709551616 := by
      have : 2 ^ tz m < 2 ^ 64 := Nat.pow_lt_pow_right (by omega) ht
      omega
    generalize m / 2 ^ tz m = o at *
    generalize tz m = t at *
    have hno1 : e + t < -1074 → ¬ ExR m 1 e := by rw [← hp]; exact make_no1 ho
    have hno2 : 53 < blen o → ¬ ExR m 1 e := by rw [← hp]; exact make_no2 ho
    have hno3 : 1024 < (blen o : Int) + (e + t) → ¬ ExR m 1 e := by rw [← hp]; exact make_no3 ho
    have hyes : ∀ low : Int, blen o ≤ 53 → -1074 ≤ e + t → (blen o : Int) + (e + t) ≤ 1024 → low = max ((blen o : Int) + (e + t) - 53) (-1074) → magR m 1 e = (low + 1074).toNat * B52 + o * 2 ^ (e + t - low).toNat ∧ ExR m 1 e ∧ o * 2 ^ (e + t - low).toNat < 2 * B52 := by
      intro low a1 a2 a3 a4
      rw [← hp]; exact make_good ho rfl a1 a2 a3 a4
    have hbp := blen_pos (n := o) (by omega)
    have hb64 := blen_le (n := o) (k := 64) (by omega)
    have L2 := Lib.hid (limb_len (o : Int) (by unfold U; omega) w)
    rw [Int.toNat_natCast] at L2
    generalize blen o = n at *
    by_cases hbig : 1024 ≤ e
    · have H := Lib.hid (hno3 (by omega))
      clear hno1 hno2 hno3 hyes
      go_enter Tryz.func209, Tryz.ntmps209
      go_wp2_with fail
      go_ret2
      exact retMk_no H.out
    · generalize 2 ^ t = P at *
      have L1 := limb_len (P : Int) (by unfold U; omega) w
      rw [Int.toNat_natCast, hbl] at L1
      have HL1 := Lib.hid L1
      have H1 := Lib.hid hno1
      have H2 := Lib.hid hno2
      have H3 := Lib.hid hno3
      have HY := Lib.hid hyes
      clear L1 hno1 hno2 hno3 hyes hbl
      have ht0 : t ≤ 63 := by omega
      by_cases c1 : 53 < n
      · have H := Lib.hid (H2.out c1)
        clear H1 H2 H3 HY
        go_enter Tryz.func209, Tryz.ntmps209
        go_wp2_with fail
        with_reducible refine HL1.out.mono ?_
        rintro _ w' ⟨rfl, rfl⟩
        go_wp2_with fail
        with_reducible refine L2.out.mono ?_
        rintro _ w' ⟨rfl, rfl⟩
        go_wp2_with fail
        go_ret2
        exact retMk_no H.out
      · have d1 : decide (53 < (n : Int)) = false := decide_eq_false (by omega)
        by_cases c2 : e + t < -1074
        · have H := Lib.hid (H1.out c2)
          clear H1 H2 H3 HY
          have d2 : decide (e + t < -1074) = true := decide_eq_true c2
          go_enter Tryz.func209, Tryz.ntmps209
          go_wp2_with fail
          with_reducible refine HL1.out.mono ?_
          rintro _ w' ⟨rfl, rfl⟩
          go_wp2_with fail
          with_reducible refine L2.out.mono ?_
          rintro _ w' ⟨rfl, rfl⟩
          go_wp2_with fail
          go_ret2
          exact retMk_no H.out
        · have d2 : decide (e + t < -1074) = false := decide_eq_false c2
          by_cases c3 : 1024 < (n : Int) + (e + t)
          · have H := Lib.hid (H3.out c3)
            clear H1 H2 H3 HY
            have d3 : decide (1024 < (n : Int) + (e + t)) = true := decide_eq_true c3
            go_enter Tryz.func209, Tryz.ntmps209
            go_wp2_with fail
            with_reducible refine HL1.out.mono ?_
            rintro _ w' ⟨rfl, rfl⟩
            go_wp2_with fail
            with_reducible refine L2.out.mono ?_
            rintro _ w' ⟨rfl, rfl⟩
            go_wp2_with fail
            go_ret2
            exact retMk_no H.out
          · have d3 : decide (1024 < (n : Int) + (e + t)) = false := decide_eq_false c3
            clear H1 H2 H3
            go_enter Tryz.func209, Tryz.ntmps209
            go_wp2_with fail
            with_reducible refine HL1.out.mono ?_
            rintro _ w' ⟨rfl, rfl⟩
            go_wp2_with fail
            with_reducible refine L2.out.mono ?_
            rintro _ w' ⟨rfl, rfl⟩
            go_wp2_with fail
            · obtain ⟨g1, g2, g3⟩ := HY.out (-1074) (by omega) c2 c3 (by omega)
              rw [show e + (t : Int) - -1074 = e + t + 1074 by omega] at g1 g3
              have ev := make_val1 (K := (e + t + 1074).toNat) g1 g3
              have hle := magR_le m 1 e
              rw [ev]
              have S := Lib.hid (fb_signed s (b := magR m 1 e) (by omega) w)
              have G2 := Lib.hid g2
              clear g1 g2 g3 ev HY
              generalize hb : magR m 1 e = b at *
              with_reducible refine S.out.mono ?_
              rintro _ w' ⟨rfl, rfl⟩
              go_wp2_with fail
              go_ret2
              exact retMk_yes G2.out hb rfl
            · obtain ⟨g1, g2, g3⟩ := HY.out ((n : Int) + (e + t) - 52 - 1) (by omega) c2 c3 (by omega)
              have ev := make_val2 (L := (n : Int) + (e + t) - 52 - 1 + 1074) (by omega) (by omega) g1 g3
              have hle := magR_le m 1 e
              rw [ev]
              have S := Lib.hid (fb_signed s (b := magR m 1 e) (by omega) w)
              have G2 := Lib.hid g2
              clear g1 g2 g3 ev HY
              generalize hb : magR m 1 e = b at *
              with_reducible refine S.out.mono ?_
              rintro _ w' ⟨rfl, rfl⟩
              go_wp2_with fail
              go_ret2
              exact retMk_yes G2.out hb rfl

end Go.Proofs.YtibgpeaplmcogaaGreatDoor

namespace Go.Proofs.YtibgpeaplmcogaaGreatDoor
set_option maxRecDepth 100000
open Go.RowKit
set_option linter.unusedVariables false
set_option linter.unusedSimpArgs false

end Go.Proofs.YtibgpeaplmcogaaGreatDoor

namespace Go.Proofs.YtibgpeaplmcogaaGreatDoor
set_option maxRecDepth 100000
open Go.RowKit
set_option linter.unusedVariables false
set_option linter.unusedSimpArgs false

set_option maxHeartbeats 2000000 in
theorem fr_half {m n : Nat} (hm : m < 18446744073709551616) (hn : 1 ≤ n) (hn2 : n ≤ 100000) (w : World) :
    Calls Tryz.prog 208 #[.int .u64 m, .int .i64 n] w fun e w' => e = .returned (.int .u64 (rdiv m (2 ^ n))) ∧ ∃ k, w' = w.drewN k := by
  by_cases hb : 64 < n
  · have H := Lib.hid (rdiv_far (m := m) (by omega) hb)
    go_enter Tryz.func208, Tryz.ntmps208
    go_wp2_with fail
    go_ret
    exact ⟨ret1 (by rw [H.out]; rfl), 0, rfl⟩
  · have hdiv : (m : Int) / 2 ^ n = ((m / 2 ^ n : Nat) : Int) := by rw [Int.natCast_ediv]; congr 1
    have h1 := Nat.div_add_mod' m (2 ^ n)
    have h2 := Nat.mod_lt m (Nat.two_pow_pos n)
    have h3 : 2 ^ n = 2 * 2 ^ (n - 1) := by rw [← Nat.pow_succ']; congr 1; omega
    have hr : rdiv m (2 ^ n) = if 2 ^ n < 2 * (m % 2 ^ n) ∨ (2 * (m % 2 ^ n) = 2 ^ n ∧ m / 2 ^ n % 2 = 1) then m / 2 ^ n + 1 else m / 2 ^ n := rfl
    have hH : 2 ^ (n - 1) < 18446744073709551616 := by
      have : 2 ^ (n - 1) < 2 ^ 64 := Nat.pow_lt_pow_right (by omega) (by omega)
      omega
    generalize m / 2 ^ n = k at *
    generalize m % 2 ^ n = r at *
    generalize rdiv m (2 ^ n) = R at *
    have hk : k ≤ m := by
      have : k * 1 ≤ k * 2 ^ n := Nat.mul_le_mul_left _ (Nat.two_pow_pos n)
      omega
    have e1 : IntKind.u64.wrap ((m : Int) - IntKind.u64.wrap ((k : Int) * 2 ^ n)) = (r : Int) := by
      have hc : (k : Int) * 2 ^ n = ((k * 2 ^ n : Nat) : Int) := by push_cast; rfl
      rw [hc, wrapU, wrapU]
      generalize k * 2 ^ n = x at *
      omega
    have e2 : IntKind.u64.wrap ((2 : Int) ^ (n - 1)) = ((2 ^ (n - 1) : Nat) : Int) := by
      have hc : (2 : Int) ^ (n - 1) = ((2 ^ (n - 1) : Nat) : Int) := by push_cast; rfl
      rw [hc, wrapU]
      omega
    have e3 : bits BinOp.and IntKind.u64 (k : Int) 1 = ((k % 2 : Nat) : Int) := by
      rw [and1 (by unfold U; omega)]; omega
    rw [h3] at h1 h2 hr
    generalize 2 ^ (n - 1) = H at *
    have hr2 : R = if H < r ∨ (r = H ∧ k % 2 = 1) then k + 1 else k := by
      rw [hr]
      have : (2 * H < 2 * r ∨ (2 * r = 2 * H ∧ k % 2 = 1)) ↔ (H < r ∨ (r = H ∧ k % 2 = 1)) := by omega
      simp only [this]
    have hkm : H < r ∨ r = H → k < 18446744073709551615 := by
      intro h9
      rcases Nat.eq_zero_or_pos k with h8 | h8
      · omega
      · have : k * (2 * 1) ≤ k * (2 * H) := Nat.mul_le_mul_left _ (by
          rcases Nat.eq_zero_or_pos H with h7 | h7
          · subst h7; simp at h2
          · omega)
        omega
    clear h1 h2 h3 hr
    rcases Nat.lt_trichotomy r H with hl | hl | hl
    · have d1 : decide ((H : Int) < r) = false := decide_eq_false (by omega)
      have d2 : ((r : Int) == H) = false := by simp; omega
      have HR := Lib.hid hr2
      clear hr2 hkm
      go_enter Tryz.func208, Tryz.ntmps208
      go_wp2_with fail
      go_region
      all_goals try go_wp2
      go_ret
      exact ⟨ret1 (by rw [HR.out, if_neg (by omega)]), 1, rfl⟩
    · subst hl
      by_cases ho : k % 2 = 1
      · have hk2 := hkm (.inr rfl)
        have HR := Lib.hid hr2
        have HO := Lib.hid ho
        rw [ho] at e3
        clear hr2 hkm ho
        go_enter Tryz.func208, Tryz.ntmps208
        go_wp2_with fail
        go_region
        all_goals try go_wp2
        go_ret
        exact ⟨ret1 (by rw [HR.out, if_pos (.inr ⟨trivial, HO.out⟩)]; omega), 1, rfl⟩
      · have ho0 : k % 2 = 0 := by omega
        have HR := Lib.hid hr2
        have HO := Lib.hid ho
        rw [ho0] at e3
        clear hr2 hkm ho ho0
        go_enter Tryz.func208, Tryz.ntmps208
        go_wp2_with fail
        go_region
        all_goals try go_wp2
        go_ret
        exact ⟨ret1 (by have h9 := HO.out; rw [HR.out, if_neg (by omega)]), 1, rfl⟩
    · have hk2 := hkm (.inl hl)
      have d1 : decide ((H : Int) < r) = true := decide_eq_true (by omega)
      have HR := Lib.hid hr2
      clear hr2 hkm
      go_enter Tryz.func208, Tryz.ntmps208
      go_wp2_with fail
      go_region
      all_goals try go_wp2
      go_ret
      exact ⟨ret1 (by rw [HR.out, if_pos (.inl hl)]; omega), 1, rfl⟩

/-- the double nearest to m * 2^e, as it is handed out -/
def RetW (v : Nat) (w : World) (x : Ending) (w' : World) : Prop := x = .returned (.int .u64 v) ∧ Below w.heap.size w w'

set_option maxHeartbeats 2000000 in
theorem fr_word (s : Bool) {m : Nat} (hm : m < 18446744073709551616) {e : Int} (he : -9223372036854775808 ≤ e) (he2 : e ≤ 9223372036854775807) (w : World) :
    Calls Tryz.prog 151 #[.bool s, .int .u64 m, .int .i64 e] w (RetW (sg s (magR m 1 e)) w) := by
  have hcl := word_clamp (m := m) (by omega) (e := e)
  obtain ⟨c, hc⟩ : ∃ c, min (max e (-2000)) 2000 = c := ⟨_, rfl⟩
  rw [hc] at hcl
  rw [← hcl]
  have hc1 : -2000 ≤ c ∧ c ≤ 2000 := by omega
  have HL := Lib.hid (limb_len (m : Int) (by unfold U; omega) w)
  rw [Int.toNat_natCast] at HL
  have hb := blen_le (n := m) (k := 64) (by omega)
  obtain ⟨low, hlow⟩ : ∃ low : Int, low = max ((blen m : Int) + c - 53) (-1074) := ⟨_, rfl⟩
  have hl1 : -1074 ≤ low ∧ low ≤ 2011 := by omega
  by_cases hlt : c < low
  · obtain ⟨k, hk⟩ : ∃ k : Nat, low - c = k := ⟨(low - c).toNat, by omega⟩
    obtain ⟨t, ht⟩ : ∃ t : Nat, low + 1074 = t := ⟨(low + 1074).toNat, by omega⟩
    obtain ⟨y1, y2, y3⟩ := word_round hlow hlt hk ht
    have hhalf := fun w1 => fr_half hm (n := k) (by omega) (by omega) w1
    rw [B52_eq] at y3
    generalize rdiv m (2 ^ k) = x at *
    have hmk := fun w1 => fb_make s (m := x) (by omega) (e := low) (by omega) (by omega) w1
    unfold RetMk at hmk
    have hv : ∀ w1, ∃ v : Nat, ∃ ok : Bool, (Calls Tryz.prog 209 #[.bool s, .int .u64 x, .int .i64 low] w1 fun z w' => z = .returned (.tuple #[.int .u64 v, .bool ok]) ∧ w1 = w') ∧ ((ok = true ∧ v = sg s (magR m 1 c)) ∨ (ok = false ∧ INF = magR m 1 c)) := by
      intro w1
      by_cases hx : ExR x 1 low
      · exact ⟨_, _, hmk w1, .inl ⟨decide_eq_true hx, by rw [mkW_yes hx, y1 hx]⟩⟩
      · exact ⟨_, _, hmk w1, .inr ⟨decide_eq_false hx, (y2 hx).symm⟩⟩
    clear y1 y2 hmk
    generalize magR m 1 c = r at *
    generalize blen m = n at *
    have HH := Lib.hid hhalf
    have HV := Lib.hid hv
    have HI := Lib.hid (fun w1 => fb_inf s w1)
    clear hhalf hv hcl ht
    go_enter Tryz.func151, Tryz.ntmps151
    go_upto_region 1 with (fail)
    go_cut [2] (fun s2 wx => s2 = .int .i64 c ∧ w = wx)
    case first =>
      by_cases h1 : e < -2000
      · go_wp2_with fail
        go_meet
        exact ⟨vint (by omega), rfl⟩
      · by_cases h2 : 2000 < e
        · have h3 : decide (2000 < e) = true := decide_eq_true h2
          go_wp2_with fail
          go_meet
          exact ⟨vint (by omega), rfl⟩
        · go_wp2_with fail
          go_meet
          exact ⟨vint (by omega), rfl⟩
    case rest =>
    obtain ⟨rfl, rfl⟩ := hcut
    clear hc
    go_upto_region 2 with (fail)
    go_cut [7] (fun s7 wx => s7 = .int .i64 low ∧ w = wx)
    case first =>
      by_cases h1 : (n : Int) + c - 53 < -1074
      · go_wp2_with fail
        refine HL.out.mono ?_
        rintro _ w' ⟨rfl, rfl⟩
        go_wp2_with fail
        go_meet
        exact ⟨vint (by omega), rfl⟩
      · go_wp2_with fail
        refine HL.out.mono ?_
        rintro _ w' ⟨rfl, rfl⟩
        go_wp2_with fail
        go_meet
        exact ⟨vint (by omega), rfl⟩
    case rest =>
    obtain ⟨rfl, rfl⟩ := hcut
    clear hlow
    go_wp2_with fail
    with_reducible refine (HH.out _).mono ?_
    rintro _ w' ⟨rfl, d, rfl⟩
    obtain ⟨v, ok, hcall, hcase⟩ := HV.out (w.drewN d)
    have hb0 := below_drewN w d
    have HC := Lib.hid hcall
    clear hcall HV HH
    generalize w.drewN d = w2 at *
    rcases hcase with ⟨rfl, rfl⟩ | ⟨rfl, rfl⟩
    · go_wp2_with fail
      with_reducible refine HC.out.mono ?_
      rintro _ w' ⟨rfl, rfl⟩
      go_wp2_with fail
      go_ret
      exact ⟨rfl, hb0⟩
    · go_wp2_with fail
      with_reducible refine HC.out.mono ?_
      rintro _ w' ⟨rfl, rfl⟩
      go_wp2_with fail
      with_reducible refine (HI.out _).mono ?_
      rintro _ w' ⟨rfl, rfl⟩
      go_wp2_with fail
      go_ret
      exact ⟨rfl, hb0⟩
  · have y2 := word_exact hlow (by omega)
    have hmk := fun w1 => fb_make s (m := m) (by omega) (e := c) (by omega) (by omega) w1
    unfold RetMk at hmk
    have hv : ∀ w1, ∃ v : Nat, ∃ ok : Bool, (Calls Tryz.prog 209 #[.bool s, .int .u64 m, .int .i64 c] w1 fun z w' => z = .returned (.tuple #[.int .u64 v, .bool ok]) ∧ w1 = w') ∧ ((ok = true ∧ v = sg s (magR m 1 c)) ∨ (ok = false ∧ INF = magR m 1 c)) := by
      intro w1
      by_cases hx : ExR m 1 c
      · exact ⟨_, _, hmk w1, .inl ⟨decide_eq_true hx, by rw [mkW_yes hx]⟩⟩
      · exact ⟨_, _, hmk w1, .inr ⟨decide_eq_false hx, (y2 hx).symm⟩⟩
    clear y2 hmk
    generalize magR m 1 c = r at *
    generalize blen m = n at *
    have HV := Lib.hid hv
    have HI := Lib.hid (fun w1 => fb_inf s w1)
    clear hv hcl
    go_enter Tryz.func151, Tryz.ntmps151
    go_upto_region 1 with (fail)
    go_cut [2] (fun s2 wx => s2 = .int .i64 c ∧ w = wx)
    case first =>
      by_cases h1 : e < -2000
      · go_wp2_with fail
        go_meet
        exact ⟨vint (by omega), rfl⟩
      · by_cases h2 : 2000 < e
        · have h3 : decide (2000 < e) = true := decide_eq_true h2
          go_wp2_with fail
          go_meet
          exact ⟨vint (by omega), rfl⟩
        · go_wp2_with fail
          go_meet
          exact ⟨vint (by omega), rfl⟩
    case rest =>
    obtain ⟨rfl, rfl⟩ := hcut
    clear hc
    go_upto_region 2 with (fail)
    go_cut [7] (fun s7 wx => s7 = .int .i64 low ∧ w = wx)
    case first =>
      by_cases h1 : (n : Int) + c - 53 < -1074
      · go_wp2_with fail
        refine HL.out.mono ?_
        rintro _ w' ⟨rfl, rfl⟩
        go_wp2_with fail
        go_meet
        exact ⟨vint (by omega), rfl⟩
      · go_wp2_with fail
        refine HL.out.mono ?_
        rintro _ w' ⟨rfl, rfl⟩
        go_wp2_with fail
        go_meet
        exact ⟨vint (by omega), rfl⟩
    case rest =>
    obtain ⟨rfl, rfl⟩ := hcut
    clear hlow
    obtain ⟨v, ok, hcall, hcase⟩ := HV.out w
    have HC := Lib.hid hcall
    clear hcall HV
    rcases hcase with ⟨rfl, rfl⟩ | ⟨rfl, rfl⟩
    · go_wp2_with fail
      with_reducible refine HC.out.mono ?_
      rintro _ w' ⟨rfl, rfl⟩
      go_wp2_with fail
      go_ret
      exact ⟨rfl, Below.refl _ _⟩
    · go_wp2_with fail
      with_reducible refine HC.out.mono ?_
      rintro _ w' ⟨rfl, rfl⟩
      go_wp2_with fail
      with_reducible refine (HI.out _).mono ?_
      rintro _ w' ⟨rfl, rfl⟩
      go_wp2_with fail
      go_ret
      exact ⟨rfl, Below.refl _ _⟩

theorem int_abs (n : Int) (h1 : -9223372036854775808 ≤ n) (h2 : n ≤ 9223372036854775807) : n.natAbs < 18446744073709551616 := by omega
set_option maxHeartbeats 1000000 in
theorem fr_int (n : Int) (h1 : -9223372036854775808 ≤ n) (h2 : n ≤ 9223372036854775807) (w : World) :
    Calls Tryz.prog 165 #[.int .i64 n] w (RetW (sg (decide (n < 0)) (magR n.natAbs 1 0)) w) := by
  have W := fun s => fr_word s (int_abs n h1 h2) (e := 0) (by omega) (by omega) w
  by_cases hn : n < 0
  · have e1 : IntKind.u64.wrap (-(IntKind.u64.wrap n)) = ((n.natAbs : Nat) : Int) := by rw [wrapU, wrapU]; omega
    have d : decide (n < 0) = true := decide_eq_true hn
    rw [d]
    have HW := Lib.hid (W true)
    generalize n.natAbs = a at *
    clear W
    go_enter Tryz.func165, Tryz.ntmps165
    go_wp2_with fail
    with_reducible refine HW.out.mono ?_
    rintro _ w' ⟨rfl, b1⟩
    go_wp2_with fail
    go_ret
    exact ⟨rfl, b1⟩
  · have d : decide (n < 0) = false := decide_eq_false hn
    rw [d]
    have HW := Lib.hid (W false)
    obtain ⟨a, rfl⟩ := Int.eq_ofNat_of_zero_le (show 0 ≤ n by omega)
    rw [Int.natAbs_natCast] at *
    clear W
    go_enter Tryz.func165, Tryz.ntmps165
    go_wp2_with fail
    with_reducible refine HW.out.mono ?_
    rintro _ w' ⟨rfl, b1⟩
    go_wp2_with fail
    go_ret
    exact ⟨rfl, b1⟩

end Go.Proofs.YtibgpeaplmcogaaGreatDoor

namespace Go.Proofs.YtibgpeaplmcogaaGreatDoor
set_option maxRecDepth 100000
open Go.RowKit
set_option linter.unusedVariables false
set_option linter.unusedSimpArgs false

theorem bbw {a b c : World} (h : Below a.heap.size a b) (k : Below b.heap.size b c) : Below a.heap.size a c := h.trans (k.mono h.size)
theorem blen_pow_W {v k : Nat} (h : v < W ^ k) : blen v ≤ 64 * k := by
  apply blen_le
  rw [W_pow, ← Nat.pow_mul] at h
  exact h
theorem more_lt {v k : Nat} (h : v < W ^ k) : 2 * v + 1 < W ^ (k + 1) := by
  have : W ^ k * 2 ≤ W ^ k * W := Nat.mul_le_mul_left _ two_le_W
  rw [Nat.pow_succ]
  omega
theorem clampS_nat {k : Nat} (h : k ≤ 65536) : clampS (k : Int) = k := by rw [clampS_mid (by omega) (by omega)]; omega

end Go.Proofs.YtibgpeaplmcogaaGreatDoor

namespace Go.Proofs.YtibgpeaplmcogaaGreatDoor
set_option maxRecDepth 100000
open Go.RowKit
set_option linter.unusedVariables false
set_option linter.unusedSimpArgs false

/-- with a half more, or without -/
def magM (v : Nat) (e : Int) (more : Bool) : Nat := if more then magR (2 * v + 1) 1 (e - 1) else magR v 1 e
theorem magM_yes (v : Nat) (e : Int) : magM v e true = magR (2 * v + 1) 1 (e - 1) := by unfold magM; rw [if_pos rfl]
theorem magM_no (v : Nat) (e : Int) : magM v e false = magR v 1 e := by unfold magM; rw [if_neg (by decide)]
end Go.Proofs.YtibgpeaplmcogaaGreatDoor
