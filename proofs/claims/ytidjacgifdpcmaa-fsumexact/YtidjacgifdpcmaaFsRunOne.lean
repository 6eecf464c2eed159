/-
  What the functions of package fsum return for any words. Conditions: the words are below 2^64; cut's count is at most 100000.
-/
import Derived.Test.YtidjacgifdpcmaaFsMath
import Derived.Test.YtidjacgifdpcmaaFrRunAll
import Derived.Test.YtidjacgifdpcmaaFbLaws
namespace Go.Proofs.Ytidjacgifdpcmaa
set_option maxRecDepth 100000
open Go.RowKit
set_option linter.unusedVariables false
set_option linter.unusedSimpArgs false

set_option maxHeartbeats 1000000 in
theorem fs_cut {m n : Nat} (hm : m < 18446744073709551616) (hn : n ≤ 100000) (w : World) :
    Calls Try.prog 67 #[.int .u64 m, .int .i64 n] w fun e w' => e = .returned (.int .u64 (cutv m n)) ∧ w = w' := by
  have hmin : m / 2 ^ min n 64 = m / 2 ^ n ∧ (64 < n → m / 2 ^ n = 0) := by
    rcases Nat.lt_or_ge 64 n with hl | hl
    · have h8 : m < 2 ^ n := Nat.lt_of_lt_of_le (show m < 2 ^ 64 by omega) (Nat.pow_le_pow_right (by omega) (by omega))
      rw [Nat.min_eq_right (by omega), Nat.div_eq_of_lt h8, Nat.div_eq_of_lt (by omega)]
      exact ⟨rfl, fun _ => rfl⟩
    · rw [Nat.min_eq_left hl]
      exact ⟨rfl, fun h => absurd h (by omega)⟩
  have hdiv : (m : Int) / 2 ^ min n 64 = ((m / 2 ^ n : Nat) : Int) := by rw [← hmin.1, Int.natCast_ediv]; congr 1
  have h0 := hmin.2
  clear hmin
  have h1 := Nat.div_add_mod' m (2 ^ n)
  have hc : cutv m n = mkd (m / 2 ^ n) (decide (m % 2 ^ n ≠ 0)) := rfl
  generalize cutv m n = C at *
  generalize m / 2 ^ n = k at *
  have hk : k ≤ m := by
    have : k * 1 ≤ k * 2 ^ n := Nat.mul_le_mul_left _ (Nat.two_pow_pos n)
    omega
  have e1 : IntKind.u64.wrap ((k : Int) * 2 ^ min n 64) = ((k * 2 ^ n : Nat) : Int) := by
    rcases Nat.lt_or_ge 64 n with hl | hl
    · rw [h0 hl]; rw [Nat.zero_mul]; simp [wrapU]
    · rw [Nat.min_eq_left hl]
      have hc : (k : Int) * 2 ^ n = ((k * 2 ^ n : Nat) : Int) := by push_cast; rfl
      rw [hc, wrapU]
      omega
  clear h0
  have e2 := or_one (q := k) (by omega)
  generalize m % 2 ^ n = r at *
  generalize k * 2 ^ n = x at *
  by_cases h : r = 0
  · obtain rfl : x = m := by omega
    have HC := Lib.hid hc
    have HR := Lib.hid h
    clear hc h h1
    go_enter Try.func67, Try.ntmps67
    go_wp2_with fail
    go_ret
    exact ⟨ret1 (by have h9 := HR.out; rw [HC.out, h9, decide_eq_false (by omega), mkd_no]), rfl⟩
  · have hne : ((x : Int) == m) = false := by simp; omega
    have hne2 : ((x : Int) != m) = true := by simp; omega
    have HC := Lib.hid hc
    have HR := Lib.hid h
    clear hc h h1
    go_enter Try.func67, Try.ntmps67
    go_wp2_with fail
    go_ret
    exact ⟨ret1 (by rw [HC.out, decide_eq_true HR.out, mkd_yes]; omega), rfl⟩

set_option maxHeartbeats 4000000 in
theorem fs_fin {a b : Nat} (ha : a < 18446744073709551616) (hb : b < 18446744073709551616) (fa : fld a < 2047) (fb : fld b < 2047) (w : World) :
    Calls Try.prog 34 #[.int .u64 a, .int .u64 b] w (RetW (fsumF a b) w) := by
  obtain ⟨A, B, hA, hB, fA, fB, hle, hF, hcase⟩ : ∃ A B : Nat, A < 18446744073709551616 ∧ B < 18446744073709551616 ∧ fld A < 2047 ∧ fld B < 2047 ∧ mant B ≤ mant A ∧ fsumF a b = fsumF A B ∧ ((A = a ∧ B = b ∧ ¬ mant a < mant b) ∨ (A = b ∧ B = a ∧ mant a < mant b)) := by
    by_cases h : mant a < mant b
    · exact ⟨b, a, hb, ha, fb, fa, by omega, fsumF_comm a b, .inr ⟨rfl, rfl, h⟩⟩
    · exact ⟨a, b, ha, hb, fa, fb, by omega, rfl, .inl ⟨rfl, rfl, h⟩⟩
  rw [hF]
  clear hF
  have m1 : IntKind.u64.wrap ((a : Int) * 2) = ((2 * mant a : Nat) : Int) := by unfold mant; rw [wrapU]; omega
  have m2 : IntKind.u64.wrap ((b : Int) * 2) = ((2 * mant b : Nat) : Int) := by unfold mant; rw [wrapU]; omega
  have hx := xpo_mono hle
  obtain ⟨n, hn⟩ : ∃ n : Nat, xpo A - xpo B = n := ⟨(xpo A - xpo B).toNat, by omega⟩
  have r1 := xpo_range fA
  have r2 := xpo_range fB
  have s1 := sig_lt A
  have s2 := sig_lt B
  have S := sum_same fB hn
  obtain ⟨D1, D2, D3⟩ := sum_diff fB hn ((vl_mono fA fB).1.2 hle)
  have hF : fsumF A B = if ng A = ng B then sg (ng A) (mag (vl A + vl B) 1) else if vl A = vl B then 0 else if vl B < vl A then sg (ng A) (mag (vl A - vl B) 1) else sg (ng B) (mag (vl B - vl A) 1) := rfl
  have hvle := (vl_mono fA fB).1.2 hle
  have P1 := Lib.hid (fb_partsY hA fA w)
  have P2 := Lib.hid (fb_partsY hB fB w)
  have C0 := fs_cut (m := sig B * 1024) (n := n) (by omega) (by omega) w
  rw [show ((sig B * 1024 : Nat) : Int) = (sig B : Int) * 1024 by omega] at C0
  have C := Lib.hid C0
  clear C0
  have hcl := cutv_lt (m := sig B * 1024) (n := n) (by omega)
  generalize cutv (sig B * 1024) n = y at *
  have W1 := fun s => fr_word s (m := sig A * 1024 + y) (by omega) (e := xpo A - 10) (by omega) (by omega) w
  have W2 := fun s => fr_word s (m := sig A * 1024 - y) (by omega) (e := xpo A - 10) (by omega) (by omega) w
  rw [S] at W1
  rw [D1] at W2
  rw [show ((sig A * 1024 + y : Nat) : Int) = (sig A : Int) * 1024 + (y : Int) by omega] at W1
  rw [show ((sig A * 1024 - y : Nat) : Int) = (sig A : Int) * 1024 - (y : Int) by omega] at W2
  clear S D1
  generalize fsumF A B = F at *
  generalize hM1 : mag (vl A + vl B) 1 = M1 at *
  generalize hM2 : mag (vl A - vl B) 1 = M2 at *
  generalize hsA : sig A = sA at *
  generalize hsB : sig B = sB at *
  generalize hxA : xpo A = xA at *
  generalize hxB : xpo B = xB at *
  generalize hvA : vl A = vA at *
  generalize hvB : vl B = vB at *
  generalize hmA : mant a = ma at *
  generalize hmB : mant b = mb at *
  clear hsA hsB hxA hxB hvA hvB hmA hmB
  obtain ⟨z, hz⟩ : ∃ z : Int, xA - 10 = z := ⟨_, rfl⟩
  rw [hz] at W1 W2
  have HF := Lib.hid hF
  have HW1 := Lib.hid W1
  have HW2 := Lib.hid W2
  have HD3 := Lib.hid D3
  have HM1 := Lib.hid hM1
  have HM2 := Lib.hid hM2
  have HV := Lib.hid hvle
  clear hF W1 W2 D3 hM1 hM2 hvle hle
  go_enter Try.func34, Try.ntmps34
  go_upto_if 19 with (fail)
  go_cut [0, 1] (fun s0 s1 wx => s0 = .int .u64 A ∧ s1 = .int .u64 B ∧ w = wx)
  case first =>
    rcases hcase with ⟨rfl, rfl, h⟩ | ⟨rfl, rfl, h⟩
    · have d : decide ((2 * ma : Nat) < ((2 * mb : Nat) : Int)) = false := decide_eq_false (by omega)
      go_wp2_with fail
      go_meet
      exact ⟨rfl, rfl, rfl⟩
    · have d : decide ((2 * ma : Nat) < ((2 * mb : Nat) : Int)) = true := decide_eq_true (by omega)
      go_wp2_with fail
      go_meet
      exact ⟨rfl, rfl, rfl⟩
  case rest =>
  obtain ⟨rfl, rfl, rfl⟩ := hcut
  clear hcase
  go_wp2_with fail
  refine P1.out.mono ?_
  rintro _ w' ⟨rfl, rfl⟩
  go_wp2_with fail
  refine P2.out.mono ?_
  rintro _ w' ⟨rfl, rfl⟩
  go_wp2_with fail
  refine C.out.mono ?_
  rintro _ w' ⟨rfl, rfl⟩
  by_cases hs : ng A = ng B
  · have hF2 := HF.out
    rw [if_pos hs] at hF2
    have HF3 := Lib.hid hF2
    clear hF2 HF HW2 HD3 HM2
    rw [← hs]
    clear hs
    generalize ng A = g at *
    go_wp2_with fail
    with_reducible refine (HW1.out g).mono ?_
    rintro _ w' ⟨rfl, b1⟩
    go_wp2_with fail
    go_ret
    exact ⟨ret1 (by rw [HF3.out]), b1⟩
  · have hF2 := HF.out
    rw [if_neg hs] at hF2
    by_cases hv : vA = vB
    · have hy := HD3.out.2 hv
      rw [if_pos hv] at hF2
      have W0 := fr_word false (m := 0) (by omega) (e := z) (by omega) (by omega) w
      rw [magR_zero, show ((0 : Nat) : Int) = 0 from rfl] at W0
      have HW0 := Lib.hid W0
      have e2 : ((sA : Int) * 1024 != (y : Int)) = false := by simp; omega
      have HF3 := Lib.hid hF2
      clear hF2 HF HW1 HW2 HD3 HM1 HM2 W0
      generalize ng A = g at *
      generalize ng B = g2 at *
      cases g <;> cases g2
      · exact absurd rfl hs
      · go_wp2_with fail
        with_reducible refine HW0.out.mono ?_
        rintro _ w' ⟨rfl, b1⟩
        go_wp2_with fail
        go_ret
        exact ⟨ret1 (by rw [HF3.out]; rfl), b1⟩
      · go_wp2_with fail
        with_reducible refine HW0.out.mono ?_
        rintro _ w' ⟨rfl, b1⟩
        go_wp2_with fail
        go_ret
        exact ⟨ret1 (by rw [HF3.out]; rfl), b1⟩
      · exact absurd rfl hs
    · have hy : ¬ y = sA * 1024 := fun h => hv (HD3.out.1 h)
      have hvl := HV.out
      rw [if_neg hv, if_pos (by omega)] at hF2
      have e2 : ((sA : Int) * 1024 != (y : Int)) = true := by simp; omega
      have HF3 := Lib.hid hF2
      clear hF2 HF HW1 HD3 HM1 HM2
      generalize ng A = g at *
      generalize ng B = g2 at *
      cases g <;> cases g2
      · exact absurd rfl hs
      · go_wp2_with fail
        with_reducible refine (HW2.out false).mono ?_
        rintro _ w' ⟨rfl, b1⟩
        go_wp2_with fail
        go_ret
        exact ⟨ret1 (by rw [HF3.out]), b1⟩
      · go_wp2_with fail
        with_reducible refine (HW2.out true).mono ?_
        rintro _ w' ⟨rfl, b1⟩
        go_wp2_with fail
        go_ret
        exact ⟨ret1 (by rw [HF3.out]), b1⟩
      · exact absurd rfl hs

theorem kd_eq (b : Nat) : kd b = if fld b = 2047 then (if rst b = 0 then 3 else 4) else if fld b = 0 then (if rst b = 0 then 0 else 1) else 2 := rfl
/-- an infinite one's word says its sign -/
theorem kd3 {b : Nat} (hb : b < 18446744073709551616) (h : kd b = 3) : b = sg (ng b) INF := by
  have h1 : fld b = 2047 ∧ rst b = 0 := by
    unfold kd at h
    split at h
    · split at h
      · exact ⟨by assumption, by assumption⟩
      · omega
    · split at h
      · split at h <;> omega
      · omega
  have h2 := sg_mant b hb
  have h3 := mant_fld b
  have h4 := INF_eq
  rw [B52_eq] at *
  have : mant b = INF := by omega
  rw [this] at h2
  exact h2.symm

set_option maxHeartbeats 2000000 in
theorem fs_end {a b : Nat} (ha : a < 18446744073709551616) (hb : b < 18446744073709551616) (hk : ¬ (kd a ≤ 2 ∧ kd b ≤ 2)) (w : World) :
    Calls Try.prog 33 #[.int .u64 a, .int .u64 b] w fun e w' => e = .returned (.int .u64 (fadd a b)) ∧ w = w' := by
  have K1 := Lib.hid (fb_kind ha w)
  have K2 := Lib.hid (fb_kind hb w)
  have c1 := (kd_cases a).1
  have c2 := (kd_cases b).1
  have hF : fadd a b = if kd a = 4 ∨ kd b = 4 ∨ (kd a = 3 ∧ kd b = 3 ∧ a ≠ b) then NAN else if kd a = 3 then a else if kd b = 3 then b else fsumF a b := rfl
  generalize fadd a b = F at *
  generalize kd a = k at *
  generalize kd b = l at *
  by_cases h1 : k = 4
  · subst h1
    rw [if_pos (.inl rfl)] at hF
    have HF := Lib.hid hF
    clear hF hk
    go_enter Try.func33, Try.ntmps33
    go_wp2_with fail
    refine K1.out.mono ?_
    rintro _ w' ⟨rfl, rfl⟩
    go_wp2_with fail
    refine K2.out.mono ?_
    rintro _ w' ⟨rfl, rfl⟩
    go_wp2_with fail
    refine (fb_nan _).mono ?_
    rintro _ w' ⟨rfl, rfl⟩
    go_wp2_with fail
    go_ret
    exact ⟨ret1 (by rw [HF.out]), rfl⟩
  · have g1 : ((k : Int) == 4) = false := by simp; omega
    by_cases h2 : l = 4
    · subst h2
      rw [if_pos (.inr (.inl rfl))] at hF
      have HF := Lib.hid hF
      clear hF hk
      go_enter Try.func33, Try.ntmps33
      go_wp2_with fail
      refine K1.out.mono ?_
      rintro _ w' ⟨rfl, rfl⟩
      go_wp2_with fail
      refine K2.out.mono ?_
      rintro _ w' ⟨rfl, rfl⟩
      go_wp2_with fail
      refine (fb_nan _).mono ?_
      rintro _ w' ⟨rfl, rfl⟩
      go_wp2_with fail
      go_ret
      exact ⟨ret1 (by rw [HF.out]), rfl⟩
    · have g2 : ((l : Int) == 4) = false := by simp; omega
      by_cases h3 : k = 3
      · subst h3
        by_cases h4 : l = 3
        · subst h4
          by_cases h5 : a = b
          · subst h5
            rw [if_neg (by omega), if_pos rfl] at hF
            have HF := Lib.hid hF
            clear hF hk
            go_enter Try.func33, Try.ntmps33
            go_wp2_with fail
            refine K1.out.mono ?_
            rintro _ w' ⟨rfl, rfl⟩
            go_wp2_with fail
            refine K2.out.mono ?_
            rintro _ w' ⟨rfl, rfl⟩
            go_wp2_with fail
            go_ret
            exact ⟨ret1 (by rw [HF.out]), rfl⟩
          · rw [if_pos (.inr (.inr ⟨rfl, rfl, h5⟩))] at hF
            have g5 : ((a : Int) != b) = true := by simp; omega
            have HF := Lib.hid hF
            clear hF hk
            go_enter Try.func33, Try.ntmps33
            go_wp2_with fail
            refine K1.out.mono ?_
            rintro _ w' ⟨rfl, rfl⟩
            go_wp2_with fail
            refine K2.out.mono ?_
            rintro _ w' ⟨rfl, rfl⟩
            go_wp2_with fail
            refine (fb_nan _).mono ?_
            rintro _ w' ⟨rfl, rfl⟩
            go_wp2_with fail
            go_ret
            exact ⟨ret1 (by rw [HF.out]), rfl⟩
        · have g4 : ((3 : Int) == l) = false := by simp; omega
          rw [if_neg (by omega), if_pos rfl] at hF
          have HF := Lib.hid hF
          clear hF hk
          go_enter Try.func33, Try.ntmps33
          go_wp2_with fail
          refine K1.out.mono ?_
          rintro _ w' ⟨rfl, rfl⟩
          go_wp2_with fail
          refine K2.out.mono ?_
          rintro _ w' ⟨rfl, rfl⟩
          go_wp2_with fail
          go_ret
          exact ⟨ret1 (by rw [HF.out]), rfl⟩
      · obtain rfl : l = 3 := by omega
        have g3 : ((k : Int) == 3) = false := by simp; omega
        rw [if_neg (by omega), if_neg h3, if_pos rfl] at hF
        have HF := Lib.hid hF
        clear hF hk
        go_enter Try.func33, Try.ntmps33
        go_wp2_with fail
        refine K1.out.mono ?_
        rintro _ w' ⟨rfl, rfl⟩
        go_wp2_with fail
        refine K2.out.mono ?_
        rintro _ w' ⟨rfl, rfl⟩
        go_wp2_with fail
        go_ret
        exact ⟨ret1 (by rw [HF.out]), rfl⟩

set_option maxHeartbeats 2000000 in
theorem fs_add {a b : Nat} (ha : a < 18446744073709551616) (hb : b < 18446744073709551616) (w : World) :
    Calls Try.prog 10 #[.int .u64 a, .int .u64 b] w (RetW (fadd a b) w) := by
  have K1 := Lib.hid (fb_kind ha w)
  have K2 := Lib.hid (fb_kind hb w)
  have c1 := (kd_cases a).2
  have c2 := (kd_cases b).2
  have hF : fadd a b = if kd a = 4 ∨ kd b = 4 ∨ (kd a = 3 ∧ kd b = 3 ∧ a ≠ b) then NAN else if kd a = 3 then a else if kd b = 3 then b else fsumF a b := rfl
  by_cases h : kd a ≤ 2 ∧ kd b ≤ 2
  · rw [if_neg (by omega), if_neg (by omega), if_neg (by omega)] at hF
    have S := fs_fin ha hb (c1.1 h.1) (c2.1 h.2) w
    rw [← hF] at S
    have HS := Lib.hid S
    generalize fadd a b = F at *
    generalize kd a = k at *
    generalize kd b = l at *
    have g1 : decide (3 ≤ (k : Int)) = false := decide_eq_false (by omega)
    have g2 : decide (3 ≤ (l : Int)) = false := decide_eq_false (by omega)
    clear S hF h c1 c2
    go_enter Try.func10, Try.ntmps10
    go_wp2_with fail
    refine K1.out.mono ?_
    rintro _ w' ⟨rfl, rfl⟩
    go_wp2_with fail
    refine K2.out.mono ?_
    rintro _ w' ⟨rfl, rfl⟩
    go_wp2_with fail
    with_reducible refine HS.out.mono ?_
    rintro _ w' ⟨rfl, b1⟩
    go_wp2_with fail
    go_ret
    exact ⟨rfl, b1⟩
  · have HS := Lib.hid (fs_end ha hb h w)
    generalize fadd a b = F at *
    generalize kd a = k at *
    generalize kd b = l at *
    clear hF c1 c2
    by_cases h1 : 3 ≤ k
    · have g1 : decide (3 ≤ (k : Int)) = true := decide_eq_true (by omega)
      go_enter Try.func10, Try.ntmps10
      go_wp2_with fail
      refine K1.out.mono ?_
      rintro _ w' ⟨rfl, rfl⟩
      go_wp2_with fail
      with_reducible refine HS.out.mono ?_
      rintro _ w' ⟨rfl, rfl⟩
      go_wp2_with fail
      go_ret
      exact ⟨rfl, Below.refl _ _⟩
    · have g1 : decide (3 ≤ (k : Int)) = false := decide_eq_false (by omega)
      have g2 : decide (3 ≤ (l : Int)) = true := decide_eq_true (by omega)
      go_enter Try.func10, Try.ntmps10
      go_wp2_with fail
      refine K1.out.mono ?_
      rintro _ w' ⟨rfl, rfl⟩
      go_wp2_with fail
      refine K2.out.mono ?_
      rintro _ w' ⟨rfl, rfl⟩
      go_wp2_with fail
      with_reducible refine HS.out.mono ?_
      rintro _ w' ⟨rfl, rfl⟩
      go_wp2_with fail
      go_ret
      exact ⟨rfl, Below.refl _ _⟩

theorem flc_lt (b : Nat) : flc b < 18446744073709551616 := by have := flp_lt b; unfold flc NAN; split <;> omega
set_option maxHeartbeats 1000000 in
theorem fs_sub {a b : Nat} (ha : a < 18446744073709551616) (hb : b < 18446744073709551616) (w : World) :
    Calls Try.prog 12 #[.int .u64 a, .int .u64 b] w (RetW (fsub a b) w) := by
  have K1 := Lib.hid (fb_flip hb w)
  have HS := Lib.hid (fs_add ha (flc_lt b) w)
  unfold fsub
  generalize fadd a (flc b) = F at *
  generalize flc b = k at *
  go_enter Try.func12, Try.ntmps12
  go_wp2_with fail
  refine K1.out.mono ?_
  rintro _ w' ⟨rfl, rfl⟩
  go_wp2_with fail
  with_reducible refine HS.out.mono ?_
  rintro _ w' ⟨rfl, b1⟩
  go_wp2_with fail
  go_ret
  exact ⟨rfl, b1⟩

end Go.Proofs.Ytidjacgifdpcmaa
