/-
  The walks of the laws FbitsTells and FbitsMakes: each returns true for any words, signs and ints. No condition but that they fit their kinds.
-/
import Derived.Test.YteedipcmhaiglaaRfMake
import Derived.Below
namespace Go.Proofs.Yteedipcmhaiglaa
set_option maxRecDepth 100000
open Go.RowKit
set_option linter.unusedVariables false
set_option linter.unusedSimpArgs false

theorem fb_partsY {b : Nat} (hb : b < 18446744073709551616) (h : fld b < 2047) (w : World) :
    Calls Try.prog 11 #[.int .u64 b] w fun e w' => e = .returned (.tuple #[.bool (ng b), .int .u64 (sig b), .int .i64 (xpo b), .bool true]) ∧ w = w' := by
  have := fb_parts hb w
  rw [if_pos h] at this
  exact this
theorem fb_partsN {b : Nat} (hb : b < 18446744073709551616) (h : ¬ fld b < 2047) (w : World) :
    Calls Try.prog 11 #[.int .u64 b] w fun e w' => e = .returned (.tuple #[.bool false, .int .u64 0, .int .i64 0, .bool false]) ∧ w = w' := by
  have := fb_parts hb w
  rw [if_neg h] at this
  exact this

set_option maxHeartbeats 1000000 in
theorem same09 (w : World) : Calls Try.prog 22 #[] w fun e w' => e = .returned (.bool true) ∧ w = w' := by
  have P := fb_partsY (b := 4607182418800017408) (by omega) (by decide) w
  rw [show ng 4607182418800017408 = false by decide, show sig 4607182418800017408 = 4503599627370496 by decide, show xpo 4607182418800017408 = -52 by decide] at P
  have x1 : ¬ ExR 3 1 (-1075) := by decide +kernel
  have x2 : ExR 4 1 (-1075) := by decide +kernel
  have x3 : magR 4 1 (-1075) = 2 := by decide +kernel
  have M1 := fb_make false (m := 3) (by omega) (e := -1075) (by omega) (by omega) w
  have M2 := fb_make true (m := 4) (by omega) (e := -1075) (by omega) (by omega) w
  unfold RetMk at M1 M2
  rw [mkW_no x1, decide_eq_false x1] at M1
  rw [mkW_yes x2, decide_eq_true x2, x3] at M2
  rw [show sg true 2 = 9223372036854775810 by decide] at M2
  have K := fb_kind (b := 9223372036854775810) (by omega) w
  rw [show kd 9223372036854775810 = 1 by decide] at K
  have HP := Lib.hid P
  have HM1 := Lib.hid M1
  have HM2 := Lib.hid M2
  have HK := Lib.hid K
  clear P M1 M2 K x1 x2 x3
  go_enter Try.func22, Try.ntmps22
  go_wp2_with fail
  refine HP.out.mono ?_
  rintro _ w' ⟨rfl, rfl⟩
  go_wp2_with fail
  refine HM1.out.mono ?_
  rintro _ w' ⟨rfl, rfl⟩
  go_wp2_with fail
  refine HM2.out.mono ?_
  rintro _ w' ⟨rfl, rfl⟩
  go_wp2_with fail
  refine HK.out.mono ?_
  rintro _ w' ⟨rfl, rfl⟩
  go_wp2_with fail
  go_ret
  exact ⟨rfl, rfl⟩

theorem u64_wf {a : Int} (h : (Lit.int .u64 a).wf = true) : ∃ b : Nat, a = b ∧ b < 18446744073709551616 := by
  have := U_of_wf h
  unfold U at this
  exact ⟨a.toNat, by omega, by omega⟩
theorem i64_wf' {a : Int} (h : (Lit.int .i64 a).wf = true) : -9223372036854775808 ≤ a ∧ a ≤ 9223372036854775807 := by
  simp [Lit.wf, IntKind.min, IntKind.max, IntKind.signed, IntKind.bits] at h
  omega

set_option maxHeartbeats 2000000 in
theorem fbitsTells_walk (b : Int) (w0 : (Lit.int .u64 b).wf = true) (w : World) :
    Calls Try.prog 3 #[.int .u64 b] w fun e w' => e = .returned (.bool true) ∧ Below w.heap.size w w' := by
  obtain ⟨b, rfl, hb⟩ := u64_wf w0
  clear w0
  have K1 := Lib.hid (fb_kind hb w)
  have K2 := Lib.hid (rf_kind hb w)
  have N1 := Lib.hid (fb_neg hb w)
  have N2 := Lib.hid (rf_neg hb w)
  have F2 := rf_finite hb w
  have P2 := Lib.hid (rf_parts hb w)
  have C1 := Lib.hid (fb_clean hb w)
  have C2 := Lib.hid (rf_clean hb w)
  have L1 := Lib.hid (fb_flip hb w)
  have L2 := Lib.hid (rf_flip hb w)
  by_cases hf : fld b < 2047
  · have P1 := Lib.hid (fb_partsY hb hf w)
    unfold fin at F2
    rw [decide_eq_true hf] at F2
    have HF2 := Lib.hid F2
    clear F2
    generalize kd b = k at *
    generalize ng b = n at *
    generalize sig b = g at *
    generalize xpo b = x at *
    generalize cln b = c at *
    generalize flc b = f at *
    go_enter Try.func3, Try.ntmps3
    go_wp2_with fail
    refine P1.out.mono ?_
    rintro _ w' ⟨rfl, rfl⟩
    go_wp2_with fail
    refine K1.out.mono ?_
    rintro _ w' ⟨rfl, rfl⟩
    go_wp2_with fail
    refine K2.out.mono ?_
    rintro _ w' ⟨rfl, rfl⟩
    go_wp2_with fail
    refine N1.out.mono ?_
    rintro _ w' ⟨rfl, rfl⟩
    go_wp2_with fail
    refine N2.out.mono ?_
    rintro _ w' ⟨rfl, rfl⟩
    go_wp2_with fail
    refine HF2.out.mono ?_
    rintro _ w' ⟨rfl, rfl⟩
    go_wp2_with fail
    refine P2.out.mono ?_
    rintro _ w' ⟨rfl, rfl⟩
    go_wp2_with fail
    refine N2.out.mono ?_
    rintro _ w' ⟨rfl, rfl⟩
    go_wp2_with fail
    refine C1.out.mono ?_
    rintro _ w' ⟨rfl, rfl⟩
    go_wp2_with fail
    refine C2.out.mono ?_
    rintro _ w' ⟨rfl, rfl⟩
    go_wp2_with fail
    refine L1.out.mono ?_
    rintro _ w' ⟨rfl, rfl⟩
    go_wp2_with fail
    refine L2.out.mono ?_
    rintro _ w' ⟨rfl, rfl⟩
    go_wp2_with fail
    refine (same09 _).mono ?_
    rintro _ w' ⟨rfl, rfl⟩
    go_wp2_with fail
    go_ret
    exact ⟨rfl, Below.refl _ _⟩
  · have P1 := Lib.hid (fb_partsN hb hf w)
    unfold fin at F2
    rw [decide_eq_false hf] at F2
    have HF2 := Lib.hid F2
    clear F2
    generalize kd b = k at *
    generalize ng b = n at *
    generalize cln b = c at *
    generalize flc b = f at *
    go_enter Try.func3, Try.ntmps3
    go_wp2_with fail
    refine P1.out.mono ?_
    rintro _ w' ⟨rfl, rfl⟩
    go_wp2_with fail
    refine K1.out.mono ?_
    rintro _ w' ⟨rfl, rfl⟩
    go_wp2_with fail
    refine K2.out.mono ?_
    rintro _ w' ⟨rfl, rfl⟩
    go_wp2_with fail
    refine N1.out.mono ?_
    rintro _ w' ⟨rfl, rfl⟩
    go_wp2_with fail
    refine N2.out.mono ?_
    rintro _ w' ⟨rfl, rfl⟩
    go_wp2_with fail
    refine HF2.out.mono ?_
    rintro _ w' ⟨rfl, rfl⟩
    go_wp2_with fail
    refine C1.out.mono ?_
    rintro _ w' ⟨rfl, rfl⟩
    go_wp2_with fail
    refine C2.out.mono ?_
    rintro _ w' ⟨rfl, rfl⟩
    go_wp2_with fail
    refine L1.out.mono ?_
    rintro _ w' ⟨rfl, rfl⟩
    go_wp2_with fail
    refine L2.out.mono ?_
    rintro _ w' ⟨rfl, rfl⟩
    go_wp2_with fail
    refine (same09 _).mono ?_
    rintro _ w' ⟨rfl, rfl⟩
    go_wp2_with fail
    go_ret
    exact ⟨rfl, Below.refl _ _⟩

set_option maxHeartbeats 2000000 in
theorem fbitsMakes_walk (s : Bool) (m e : Int) (w0 : (Lit.int .u64 m).wf = true) (w1 : (Lit.int .i64 e).wf = true) (w : World) :
    Calls Try.prog 4 #[.bool s, .int .u64 m, .int .i64 e] w fun x w' => x = .returned (.bool true) ∧ Below w.heap.size w w' := by
  obtain ⟨m, rfl, hm⟩ := u64_wf w0
  obtain ⟨h1, h2⟩ := i64_wf' w1
  clear w0 w1
  have M1 := fb_make s hm h1 h2 w
  have M2 := rf_make s hm h1 h2 w
  unfold RetMk at M1 M2
  generalize mkW s m e = k at *
  generalize decide (ExR m 1 e) = b at *
  have HM1 := Lib.hid M1
  have HM2 := Lib.hid M2
  have I1 := Lib.hid (fb_inf s w)
  have I2 := Lib.hid (rf_inf s w)
  generalize sg s INF = i at *
  clear M1 M2
  go_enter Try.func4, Try.ntmps4
  go_wp2_with fail
  refine HM1.out.mono ?_
  rintro _ w' ⟨rfl, rfl⟩
  go_wp2_with fail
  refine HM2.out.mono ?_
  rintro _ w' ⟨rfl, rfl⟩
  go_wp2_with fail
  refine (fb_nan _).mono ?_
  rintro _ w' ⟨rfl, rfl⟩
  go_wp2_with fail
  refine (rf_nan _).mono ?_
  rintro _ w' ⟨rfl, rfl⟩
  go_wp2_with fail
  refine I1.out.mono ?_
  rintro _ w' ⟨rfl, rfl⟩
  go_wp2_with fail
  refine I2.out.mono ?_
  rintro _ w' ⟨rfl, rfl⟩
  go_wp2_with fail
  refine (same09 _).mono ?_
  rintro _ w' ⟨rfl, rfl⟩
  go_wp2_with fail
  go_ret
  exact ⟨rfl, Below.refl _ _⟩

end Go.Proofs.Yteedipcmhaiglaa
