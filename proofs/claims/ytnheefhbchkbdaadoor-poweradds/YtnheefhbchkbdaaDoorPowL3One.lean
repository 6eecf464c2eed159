/-
  The law PowerAdds: x to the power m times x to the power n is x to the power of both together.
-/
import Derived.Test.YtnheefhbchkbdaaDoorPowShowAll
namespace Go.Proofs.YtnheefhbchkbdaaDoor
set_option maxRecDepth 100000
open Go.RowKit
set_option linter.unusedVariables false
set_option linter.unusedSimpArgs false

theorem i64_bounds {a : Int} (h : (Lit.int .i64 a).wf = true) : -9223372036854775808 ≤ a ∧ a ≤ 9223372036854775807 := by
  simp [Lit.wf, IntKind.min, IntKind.max, IntKind.signed, IntKind.bits] at h
  omega

set_option maxRecDepth 100000 in
set_option maxHeartbeats 8000000 in
theorem powerAdds_walk (s0 : Bool) (a0 : Option Addr) (len0 cap0 : Nat) (z0 : List Int) (e0 : Option Addr) (lem0 cab0 : Nat) (y0 : List Int) (m n : Int) (hm : (Lit.int .i64 m).wf = true) (hn : (Lit.int .i64 n).wf = true) (w : World) (w0 : IsRow .u64 w a0 len0 cap0 z0) (v0 : IsRow .u64 w e0 lem0 cab0 y0) :
    Calls Tryd.prog 3 #[.agg #[.bool s0, .slice a0 len0 cap0, .slice e0 lem0 cab0], .int .i64 m, .int .i64 n] w fun e w' => e = .returned (.bool true) ∧ Below w.heap.size w w' := by
  obtain ⟨p0, _⟩ := w0.sl
  obtain ⟨r0, _⟩ := v0.sl
  generalize z0.take len0 = xs at p0
  generalize y0.take lem0 = ys at r0
  clear w0 v0
  obtain ⟨m1, m2⟩ := i64_bounds hm
  clear hm
  obtain ⟨n1, n2⟩ := i64_bounds hn
  clear hn
  obtain ⟨V, hV, B0, hb0⟩ := box0 24 w #[.bool s0, .slice a0 len0 cap0, .slice e0 lem0 cab0]
  have R := fun w1 (hb : Below w.heap.size w w1) => right08 (s := s0) 2 (by omega) (p0.below hb) (r0.below hb)
  simp only [show ((2 : Nat) : Int) = 2 from rfl] at R
  have HS := Lib.hid (fun (w' : World) (hb : Below V.heap.size V w') => (B0.below' hb).three.1)
  have HL := Lib.hid (fun (w' : World) (hb : Below V.heap.size V w') => (B0.below' hb).lt)
  have HV := Lib.hid hV
  clear hV B0
  obtain ⟨t0, et0⟩ : ∃ t, (decide (len0 ≤ 2 ∧ lem0 ≤ 2) && rightB s0 xs ys) = t := ⟨_, rfl⟩
  rw [et0] at R
  have HR := Lib.hid R
  clear R
  cases t0
  · clear et0
    go_enter Tryd.func3, Tryd.ntmps3
    go_wp2_with fail
    rw [HV.out]
    clear HV
    have y0_0 : Below V.heap.size V V := Below.refl _ _
    obtain ⟨k0_0_0_0, k0_0_0_1, k0_0_0_2⟩ := HS.out _ y0_0
    refine (HR.out _ (bb hb0 y0_0)).mono ?_
    rintro _ w1 ⟨rfl, b1⟩
    have y0_1 := bb y0_0 b1
    clear k0_0_0_0 k0_0_0_1 k0_0_0_2
    obtain ⟨k1_0_0_0, k1_0_0_1, k1_0_0_2⟩ := HS.out _ y0_1
    go_wp2_with fail
    refine (same08 _).mono ?_
    rintro _ w2 ⟨rfl, b2⟩
    have y0_2 := bb y0_1 b2
    clear k1_0_0_0 k1_0_0_1 k1_0_0_2
    obtain ⟨k2_0_0_0, k2_0_0_1, k2_0_0_2⟩ := HS.out _ y0_2
    go_wp2_with fail
    go_ret
    exact ⟨rfl, bb hb0 y0_2⟩
  · obtain ⟨X, g0, n0⟩ := right08_Q p0 r0 et0
    have qx := g0.below hb0
    have zx : Sz X 100 := n0.mono (by omega)
    clear g0 et0 p0 r0
    by_cases c1 : m < -20
    · skip
      have c1d : decide (m < -20) = true := decide_eq_true c1
      go_enter Tryd.func3, Tryd.ntmps3
      go_wp2_with fail
      rw [HV.out]
      clear HV
      have y0_0 : Below V.heap.size V V := Below.refl _ _
      obtain ⟨k0_0_0_0, k0_0_0_1, k0_0_0_2⟩ := HS.out _ y0_0
      refine (HR.out _ (bb hb0 y0_0)).mono ?_
      rintro _ w1 ⟨rfl, b1⟩
      have y0_1 := bb y0_0 b1
      clear k0_0_0_0 k0_0_0_1 k0_0_0_2
      obtain ⟨k1_0_0_0, k1_0_0_1, k1_0_0_2⟩ := HS.out _ y0_1
      go_wp2_with fail
      refine (same08 _).mono ?_
      rintro _ w2 ⟨rfl, b2⟩
      have y0_2 := bb y0_1 b2
      clear k1_0_0_0 k1_0_0_1 k1_0_0_2
      obtain ⟨k2_0_0_0, k2_0_0_1, k2_0_0_2⟩ := HS.out _ y0_2
      go_wp2_with fail
      go_ret
      exact ⟨rfl, bb hb0 y0_2⟩
    have c1d : decide (m < -20) = false := decide_eq_false c1
    by_cases c2 : 20 < m
    · skip
      have c2d : decide (20 < m) = true := decide_eq_true c2
      go_enter Tryd.func3, Tryd.ntmps3
      go_wp2_with fail
      rw [HV.out]
      clear HV
      have y0_0 : Below V.heap.size V V := Below.refl _ _
      obtain ⟨k0_0_0_0, k0_0_0_1, k0_0_0_2⟩ := HS.out _ y0_0
      refine (HR.out _ (bb hb0 y0_0)).mono ?_
      rintro _ w1 ⟨rfl, b1⟩
      have y0_1 := bb y0_0 b1
      clear k0_0_0_0 k0_0_0_1 k0_0_0_2
      obtain ⟨k1_0_0_0, k1_0_0_1, k1_0_0_2⟩ := HS.out _ y0_1
      go_wp2_with fail
      refine (same08 _).mono ?_
      rintro _ w2 ⟨rfl, b2⟩
      have y0_2 := bb y0_1 b2
      clear k1_0_0_0 k1_0_0_1 k1_0_0_2
      obtain ⟨k2_0_0_0, k2_0_0_1, k2_0_0_2⟩ := HS.out _ y0_2
      go_wp2_with fail
      go_ret
      exact ⟨rfl, bb hb0 y0_2⟩
    have c2d : decide (20 < m) = false := decide_eq_false c2
    by_cases c3 : n < -20
    · skip
      have c3d : decide (n < -20) = true := decide_eq_true c3
      go_enter Tryd.func3, Tryd.ntmps3
      go_wp2_with fail
      rw [HV.out]
      clear HV
      have y0_0 : Below V.heap.size V V := Below.refl _ _
      obtain ⟨k0_0_0_0, k0_0_0_1, k0_0_0_2⟩ := HS.out _ y0_0
      refine (HR.out _ (bb hb0 y0_0)).mono ?_
      rintro _ w1 ⟨rfl, b1⟩
      have y0_1 := bb y0_0 b1
      clear k0_0_0_0 k0_0_0_1 k0_0_0_2
      obtain ⟨k1_0_0_0, k1_0_0_1, k1_0_0_2⟩ := HS.out _ y0_1
      go_wp2_with fail
      refine (same08 _).mono ?_
      rintro _ w2 ⟨rfl, b2⟩
      have y0_2 := bb y0_1 b2
      clear k1_0_0_0 k1_0_0_1 k1_0_0_2
      obtain ⟨k2_0_0_0, k2_0_0_1, k2_0_0_2⟩ := HS.out _ y0_2
      go_wp2_with fail
      go_ret
      exact ⟨rfl, bb hb0 y0_2⟩
    have c3d : decide (n < -20) = false := decide_eq_false c3
    by_cases c4 : 20 < n
    · skip
      have c4d : decide (20 < n) = true := decide_eq_true c4
      go_enter Tryd.func3, Tryd.ntmps3
      go_wp2_with fail
      rw [HV.out]
      clear HV
      have y0_0 : Below V.heap.size V V := Below.refl _ _
      obtain ⟨k0_0_0_0, k0_0_0_1, k0_0_0_2⟩ := HS.out _ y0_0
      refine (HR.out _ (bb hb0 y0_0)).mono ?_
      rintro _ w1 ⟨rfl, b1⟩
      have y0_1 := bb y0_0 b1
      clear k0_0_0_0 k0_0_0_1 k0_0_0_2
      obtain ⟨k1_0_0_0, k1_0_0_1, k1_0_0_2⟩ := HS.out _ y0_1
      go_wp2_with fail
      refine (same08 _).mono ?_
      rintro _ w2 ⟨rfl, b2⟩
      have y0_2 := bb y0_1 b2
      clear k1_0_0_0 k1_0_0_1 k1_0_0_2
      obtain ⟨k2_0_0_0, k2_0_0_1, k2_0_0_2⟩ := HS.out _ y0_2
      go_wp2_with fail
      go_ret
      exact ⟨rfl, bb hb0 y0_2⟩
    have c4d : decide (20 < n) = false := decide_eq_false c4
    by_cases h0 : X = 0
    · have HZ := Lib.hid (show decide (X = 0) = true from decide_eq_true h0)
      by_cases d1 : m < 0
      · skip
        have d1d : decide (m < 0) = true := decide_eq_true d1
        clear h0
        go_enter Tryd.func3, Tryd.ntmps3
        go_wp2_with fail
        rw [HV.out]
        clear HV
        have y0_0 : Below V.heap.size V V := Below.refl _ _
        obtain ⟨k0_0_0_0, k0_0_0_1, k0_0_0_2⟩ := HS.out _ y0_0
        refine (HR.out _ (bb hb0 y0_0)).mono ?_
        rintro _ w1 ⟨rfl, b1⟩
        have y0_1 := bb y0_0 b1
        clear k0_0_0_0 k0_0_0_1 k0_0_0_2
        obtain ⟨k1_0_0_0, k1_0_0_1, k1_0_0_2⟩ := HS.out _ y0_1
        go_wp2_with fail
        refine (ref_zeroE (qx.below y0_1) zx true HZ.out).mono ?_
        rintro _ w2 ⟨rfl, b2⟩
        have y0_2 := bb y0_1 b2
        clear k1_0_0_0 k1_0_0_1 k1_0_0_2
        obtain ⟨k2_0_0_0, k2_0_0_1, k2_0_0_2⟩ := HS.out _ y0_2
        go_wp2_with fail
        refine (same08 _).mono ?_
        rintro _ w3 ⟨rfl, b3⟩
        have y0_3 := bb y0_2 b3
        clear k2_0_0_0 k2_0_0_1 k2_0_0_2
        obtain ⟨k3_0_0_0, k3_0_0_1, k3_0_0_2⟩ := HS.out _ y0_3
        go_wp2_with fail
        go_ret
        exact ⟨rfl, bb hb0 y0_3⟩
      have d1d : decide (m < 0) = false := decide_eq_false d1
      by_cases d2 : n < 0
      · skip
        have d2d : decide (n < 0) = true := decide_eq_true d2
        clear h0
        go_enter Tryd.func3, Tryd.ntmps3
        go_wp2_with fail
        rw [HV.out]
        clear HV
        have y0_0 : Below V.heap.size V V := Below.refl _ _
        obtain ⟨k0_0_0_0, k0_0_0_1, k0_0_0_2⟩ := HS.out _ y0_0
        refine (HR.out _ (bb hb0 y0_0)).mono ?_
        rintro _ w1 ⟨rfl, b1⟩
        have y0_1 := bb y0_0 b1
        clear k0_0_0_0 k0_0_0_1 k0_0_0_2
        obtain ⟨k1_0_0_0, k1_0_0_1, k1_0_0_2⟩ := HS.out _ y0_1
        go_wp2_with fail
        refine (ref_zeroE (qx.below y0_1) zx true HZ.out).mono ?_
        rintro _ w2 ⟨rfl, b2⟩
        have y0_2 := bb y0_1 b2
        clear k1_0_0_0 k1_0_0_1 k1_0_0_2
        obtain ⟨k2_0_0_0, k2_0_0_1, k2_0_0_2⟩ := HS.out _ y0_2
        go_wp2_with fail
        refine (same08 _).mono ?_
        rintro _ w3 ⟨rfl, b3⟩
        have y0_3 := bb y0_2 b3
        clear k2_0_0_0 k2_0_0_1 k2_0_0_2
        obtain ⟨k3_0_0_0, k3_0_0_1, k3_0_0_2⟩ := HS.out _ y0_3
        go_wp2_with fail
        go_ret
        exact ⟨rfl, bb hb0 y0_3⟩
      have d2d : decide (n < 0) = false := decide_eq_false d2
      have e0m : X ≠ 0 ∨ 0 ≤ m := .inr (by omega)
      have e0n : X ≠ 0 ∨ 0 ≤ n := .inr (by omega)
      have e0s : X ≠ 0 ∨ 0 ≤ m + n := .inr (by omega)
      have hmul := zpow_add_ X m n (.inr ⟨by omega, by omega⟩)
      have zm : Sz (X ^ m) 100 := (n0.zpow m).mono (by omega)
      have zn : Sz (X ^ n) 100 := (n0.zpow n).mono (by omega)
      have zs : Sz (X ^ (m + n)) 100 := (n0.zpow (m + n)).mono (by omega)
      have zp : Sz (X ^ m * X ^ n) 100 := by rw [hmul]; exact zs
      have P1 := Lib.hid (fun (w1 : World) (q : Q w1 s0 a0 len0 cap0 e0 lem0 cab0 X) => pw_pow_any q zx (by omega) m (by omega) (by omega) e0m)
      have P2 := Lib.hid (fun (w1 : World) (q : Q w1 s0 a0 len0 cap0 e0 lem0 cab0 X) => pw_pow_any q zx (by omega) n (by omega) (by omega) e0n)
      have P3 := Lib.hid (fun (w1 : World) (q : Q w1 s0 a0 len0 cap0 e0 lem0 cab0 X) => pw_pow_any q zx (by omega) (m + n) (by omega) (by omega) e0s)
      have HM := Lib.hid hmul
      clear hmul e0m e0n e0s h0
      generalize X ^ (m + n) = Ys at *
      generalize X ^ m = Ym at *
      generalize X ^ n = Yn at *
      go_enter Tryd.func3, Tryd.ntmps3
      go_wp2_with fail
      rw [HV.out]
      clear HV
      have y0_0 : Below V.heap.size V V := Below.refl _ _
      obtain ⟨k0_0_0_0, k0_0_0_1, k0_0_0_2⟩ := HS.out _ y0_0
      refine (HR.out _ (bb hb0 y0_0)).mono ?_
      rintro _ w1 ⟨rfl, b1⟩
      have y0_1 := bb y0_0 b1
      clear k0_0_0_0 k0_0_0_1 k0_0_0_2
      obtain ⟨k1_0_0_0, k1_0_0_1, k1_0_0_2⟩ := HS.out _ y0_1
      go_wp2_with fail
      refine (ref_zeroE (qx.below y0_1) zx true HZ.out).mono ?_
      rintro _ w2 ⟨rfl, b2⟩
      have y0_2 := bb y0_1 b2
      clear k1_0_0_0 k1_0_0_1 k1_0_0_2
      obtain ⟨k2_0_0_0, k2_0_0_1, k2_0_0_2⟩ := HS.out _ y0_2
      go_wp2_with fail
      refine (P1.out _ (qx.below y0_2)).mono ?_
      rintro _ w3 ⟨rs3, rA3, rn3, rc3, rD3, rm3, rd3, rfl, u1, b3⟩
      have y0_3 := bb y0_2 b3
      clear k2_0_0_0 k2_0_0_1 k2_0_0_2
      obtain ⟨k3_0_0_0, k3_0_0_1, k3_0_0_2⟩ := HS.out _ y0_3
      have z3_HL := HL.out _ y0_3
      obtain ⟨w4, hV4, B4, b4⟩ := box0 24 w3 #[.bool rs3, .slice rA3 rn3 rc3, .slice rD3 rm3 rd3]
      have HV4 := Lib.hid hV4
      clear hV4
      go_wp2_with fail
      rw [HV4.out]
      clear HV4
      have y0_4 := bb y0_3 b4
      clear z3_HL
      have HQ1 := Lib.hid (fun (w' : World) (hb : Below w4.heap.size w4 w') => (B4.below' hb).three.1)
      have HQ1l := Lib.hid (fun (w' : World) (hb : Below w4.heap.size w4 w') => (B4.below' hb).lt)
      clear B4
      have y4_4 : Below w4.heap.size w4 w4 := Below.refl _ _
      clear k3_0_0_0 k3_0_0_1 k3_0_0_2
      obtain ⟨k4_0_0_0, k4_0_0_1, k4_0_0_2⟩ := HS.out _ y0_4
      obtain ⟨k4_1_0_0, k4_1_0_1, k4_1_0_2⟩ := HQ1.out _ y4_4
      refine (P2.out _ (qx.below y0_4)).mono ?_
      rintro _ w5 ⟨rs5, rA5, rn5, rc5, rD5, rm5, rd5, rfl, u2, b5⟩
      have y0_5 := bb y0_4 b5
      have y4_5 := bb y4_4 b5
      clear k4_0_0_0 k4_0_0_1 k4_0_0_2 k4_1_0_0 k4_1_0_1 k4_1_0_2
      obtain ⟨k5_0_0_0, k5_0_0_1, k5_0_0_2⟩ := HS.out _ y0_5
      obtain ⟨k5_1_0_0, k5_1_0_1, k5_1_0_2⟩ := HQ1.out _ y4_5
      have z5_HL := HL.out _ y0_5
      have z5_HQ1l := HQ1l.out _ y4_5
      obtain ⟨w6, hV6, B6, b6⟩ := box0 24 w5 #[.bool rs5, .slice rA5 rn5 rc5, .slice rD5 rm5 rd5]
      have HV6 := Lib.hid hV6
      clear hV6
      go_wp2_with fail
      rw [HV6.out]
      clear HV6
      have y0_6 := bb y0_5 b6
      have y4_6 := bb y4_5 b6
      clear z5_HL
      clear z5_HQ1l
      have HQ2 := Lib.hid (fun (w' : World) (hb : Below w6.heap.size w6 w') => (B6.below' hb).three.1)
      have HQ2l := Lib.hid (fun (w' : World) (hb : Below w6.heap.size w6 w') => (B6.below' hb).lt)
      clear B6
      have y6_6 : Below w6.heap.size w6 w6 := Below.refl _ _
      clear k5_0_0_0 k5_0_0_1 k5_0_0_2 k5_1_0_0 k5_1_0_1 k5_1_0_2
      obtain ⟨k6_0_0_0, k6_0_0_1, k6_0_0_2⟩ := HS.out _ y0_6
      obtain ⟨k6_1_0_0, k6_1_0_1, k6_1_0_2⟩ := HQ1.out _ y4_6
      obtain ⟨k6_2_0_0, k6_2_0_1, k6_2_0_2⟩ := HQ2.out _ y6_6
      refine (P3.out _ (qx.below y0_6)).mono ?_
      rintro _ w7 ⟨rs7, rA7, rn7, rc7, rD7, rm7, rd7, rfl, u3, b7⟩
      have y0_7 := bb y0_6 b7
      have y4_7 := bb y4_6 b7
      have y6_7 := bb y6_6 b7
      clear k6_0_0_0 k6_0_0_1 k6_0_0_2 k6_1_0_0 k6_1_0_1 k6_1_0_2 k6_2_0_0 k6_2_0_1 k6_2_0_2
      obtain ⟨k7_0_0_0, k7_0_0_1, k7_0_0_2⟩ := HS.out _ y0_7
      obtain ⟨k7_1_0_0, k7_1_0_1, k7_1_0_2⟩ := HQ1.out _ y4_7
      obtain ⟨k7_2_0_0, k7_2_0_1, k7_2_0_2⟩ := HQ2.out _ y6_7
      have z7_HL := HL.out _ y0_7
      have z7_HQ1l := HQ1l.out _ y4_7
      have z7_HQ2l := HQ2l.out _ y6_7
      obtain ⟨w8, hV8, B8, b8⟩ := box0 24 w7 #[.bool rs7, .slice rA7 rn7 rc7, .slice rD7 rm7 rd7]
      have HV8 := Lib.hid hV8
      clear hV8
      go_wp2_with fail
      rw [HV8.out]
      clear HV8
      have y0_8 := bb y0_7 b8
      have y4_8 := bb y4_7 b8
      have y6_8 := bb y6_7 b8
      clear z7_HL
      clear z7_HQ1l
      clear z7_HQ2l
      have HQ3 := Lib.hid (fun (w' : World) (hb : Below w8.heap.size w8 w') => (B8.below' hb).three.1)
      have HQ3l := Lib.hid (fun (w' : World) (hb : Below w8.heap.size w8 w') => (B8.below' hb).lt)
      clear B8
      have y8_8 : Below w8.heap.size w8 w8 := Below.refl _ _
      clear k7_0_0_0 k7_0_0_1 k7_0_0_2 k7_1_0_0 k7_1_0_1 k7_1_0_2 k7_2_0_0 k7_2_0_1 k7_2_0_2
      obtain ⟨k8_0_0_0, k8_0_0_1, k8_0_0_2⟩ := HS.out _ y0_8
      obtain ⟨k8_1_0_0, k8_1_0_1, k8_1_0_2⟩ := HQ1.out _ y4_8
      obtain ⟨k8_2_0_0, k8_2_0_1, k8_2_0_2⟩ := HQ2.out _ y6_8
      obtain ⟨k8_3_0_0, k8_3_0_1, k8_3_0_2⟩ := HQ3.out _ y8_8
      go_region_held3 (fun w' => (w'.cell? ⟨w.heap.size, 0, none⟩ = some (.bool s0) ∧ w'.cell? ⟨w.heap.size, 1, none⟩ = some (.slice a0 len0 cap0) ∧ w'.cell? ⟨w.heap.size, 2, none⟩ = some (.slice e0 lem0 cab0)) ∧ (w'.cell? ⟨w3.heap.size, 0, none⟩ = some (.bool rs3) ∧ w'.cell? ⟨w3.heap.size, 1, none⟩ = some (.slice rA3 rn3 rc3) ∧ w'.cell? ⟨w3.heap.size, 2, none⟩ = some (.slice rD3 rm3 rd3)) ∧ (w'.cell? ⟨w5.heap.size, 0, none⟩ = some (.bool rs5) ∧ w'.cell? ⟨w5.heap.size, 1, none⟩ = some (.slice rA5 rn5 rc5) ∧ w'.cell? ⟨w5.heap.size, 2, none⟩ = some (.slice rD5 rm5 rd5)) ∧ (w'.cell? ⟨w7.heap.size, 0, none⟩ = some (.bool rs7) ∧ w'.cell? ⟨w7.heap.size, 1, none⟩ = some (.slice rA7 rn7 rc7) ∧ w'.cell? ⟨w7.heap.size, 2, none⟩ = some (.slice rD7 rm7 rd7))) (first | exact ⟨HS.out _ y0_8.drew, HQ1.out _ y4_8.drew, HQ2.out _ y6_8.drew, HQ3.out _ y8_8.drew⟩ | exact ⟨HS.out _ y0_11, HQ1.out _ y4_11, HQ2.out _ y6_11, HQ3.out _ y8_11⟩ | exact ⟨HS.out _ y0_10, HQ1.out _ y4_10, HQ2.out _ y6_10, HQ3.out _ y8_10⟩ | exact ⟨HS.out _ y0_9, HQ1.out _ y4_9, HQ2.out _ y6_9, HQ3.out _ y8_9⟩ | fail)
        (first
          | (go_at_call 10; (with_reducible refine (rat_mul ?hq1 ?hq2 zm zn (by omega)).mono ?_); (case hq1 => (have hh := (((((u1.below b4).below b5).below b6).below b7).below b8); exact hh)); (case hq2 => (have hh := (((u2.below b6).below b7).below b8); exact hh)); rintro _ w9 ⟨rs9, rA9, rn9, rc9, rD9, rm9, rd9, rfl, u4, b9⟩; have b9 := Below.undrew b9; have y0_9 := bb y0_8 b9; have y4_9 := bb y4_8 b9; have y6_9 := bb y6_8 b9; have y8_9 := bb y8_8 b9)
          | (go_at_call 9; (with_reducible refine (rat_sameT u4 ((u3.below b8).below b9) zp zs (by omega) HM.out).mono ?_); rintro _ w10 ⟨rfl, b10⟩; have y0_10 := bb y0_9 b10; have y4_10 := bb y4_9 b10; have y6_10 := bb y6_9 b10; have y8_10 := bb y8_9 b10)
          | (go_at_call 7; (with_reducible refine (same08 _).mono ?_); rintro _ w11 ⟨rfl, b11⟩; have y0_11 := bb y0_10 b11; have y4_11 := bb y4_10 b11; have y6_11 := bb y6_10 b11; have y8_11 := bb y8_10 b11))
      obtain ⟨k11_0_0_0, k11_0_0_1, k11_0_0_2⟩ := HS.out _ y0_11
      obtain ⟨k11_1_0_0, k11_1_0_1, k11_1_0_2⟩ := HQ1.out _ y4_11
      obtain ⟨k11_2_0_0, k11_2_0_1, k11_2_0_2⟩ := HQ2.out _ y6_11
      obtain ⟨k11_3_0_0, k11_3_0_1, k11_3_0_2⟩ := HQ3.out _ y8_11
      go_wp2_with fail
      go_ret
      exact ⟨rfl, bb hb0 y0_11⟩
    · have HZ := Lib.hid (show decide (X = 0) = false from decide_eq_false h0)
      have e0m : X ≠ 0 ∨ 0 ≤ m := .inl h0
      have e0n : X ≠ 0 ∨ 0 ≤ n := .inl h0
      have e0s : X ≠ 0 ∨ 0 ≤ m + n := .inl h0
      have hmul := zpow_add_ X m n (.inl h0)
      have zm : Sz (X ^ m) 100 := (n0.zpow m).mono (by omega)
      have zn : Sz (X ^ n) 100 := (n0.zpow n).mono (by omega)
      have zs : Sz (X ^ (m + n)) 100 := (n0.zpow (m + n)).mono (by omega)
      have zp : Sz (X ^ m * X ^ n) 100 := by rw [hmul]; exact zs
      have P1 := Lib.hid (fun (w1 : World) (q : Q w1 s0 a0 len0 cap0 e0 lem0 cab0 X) => pw_pow_any q zx (by omega) m (by omega) (by omega) e0m)
      have P2 := Lib.hid (fun (w1 : World) (q : Q w1 s0 a0 len0 cap0 e0 lem0 cab0 X) => pw_pow_any q zx (by omega) n (by omega) (by omega) e0n)
      have P3 := Lib.hid (fun (w1 : World) (q : Q w1 s0 a0 len0 cap0 e0 lem0 cab0 X) => pw_pow_any q zx (by omega) (m + n) (by omega) (by omega) e0s)
      have HM := Lib.hid hmul
      clear hmul e0m e0n e0s h0
      generalize X ^ (m + n) = Ys at *
      generalize X ^ m = Ym at *
      generalize X ^ n = Yn at *
      go_enter Tryd.func3, Tryd.ntmps3
      go_wp2_with fail
      rw [HV.out]
      clear HV
      have y0_0 : Below V.heap.size V V := Below.refl _ _
      obtain ⟨k0_0_0_0, k0_0_0_1, k0_0_0_2⟩ := HS.out _ y0_0
      refine (HR.out _ (bb hb0 y0_0)).mono ?_
      rintro _ w1 ⟨rfl, b1⟩
      have y0_1 := bb y0_0 b1
      clear k0_0_0_0 k0_0_0_1 k0_0_0_2
      obtain ⟨k1_0_0_0, k1_0_0_1, k1_0_0_2⟩ := HS.out _ y0_1
      go_wp2_with fail
      refine (ref_zeroE (qx.below y0_1) zx false HZ.out).mono ?_
      rintro _ w2 ⟨rfl, b2⟩
      have y0_2 := bb y0_1 b2
      clear k1_0_0_0 k1_0_0_1 k1_0_0_2
      obtain ⟨k2_0_0_0, k2_0_0_1, k2_0_0_2⟩ := HS.out _ y0_2
      go_wp2_with fail
      refine (P1.out _ (qx.below y0_2)).mono ?_
      rintro _ w3 ⟨rs3, rA3, rn3, rc3, rD3, rm3, rd3, rfl, u1, b3⟩
      have y0_3 := bb y0_2 b3
      clear k2_0_0_0 k2_0_0_1 k2_0_0_2
      obtain ⟨k3_0_0_0, k3_0_0_1, k3_0_0_2⟩ := HS.out _ y0_3
      have z3_HL := HL.out _ y0_3
      obtain ⟨w4, hV4, B4, b4⟩ := box0 24 w3 #[.bool rs3, .slice rA3 rn3 rc3, .slice rD3 rm3 rd3]
      have HV4 := Lib.hid hV4
      clear hV4
      go_wp2_with fail
      rw [HV4.out]
      clear HV4
      have y0_4 := bb y0_3 b4
      clear z3_HL
      have HQ1 := Lib.hid (fun (w' : World) (hb : Below w4.heap.size w4 w') => (B4.below' hb).three.1)
      have HQ1l := Lib.hid (fun (w' : World) (hb : Below w4.heap.size w4 w') => (B4.below' hb).lt)
      clear B4
      have y4_4 : Below w4.heap.size w4 w4 := Below.refl _ _
      clear k3_0_0_0 k3_0_0_1 k3_0_0_2
      obtain ⟨k4_0_0_0, k4_0_0_1, k4_0_0_2⟩ := HS.out _ y0_4
      obtain ⟨k4_1_0_0, k4_1_0_1, k4_1_0_2⟩ := HQ1.out _ y4_4
      refine (P2.out _ (qx.below y0_4)).mono ?_
      rintro _ w5 ⟨rs5, rA5, rn5, rc5, rD5, rm5, rd5, rfl, u2, b5⟩
      have y0_5 := bb y0_4 b5
      have y4_5 := bb y4_4 b5
      clear k4_0_0_0 k4_0_0_1 k4_0_0_2 k4_1_0_0 k4_1_0_1 k4_1_0_2
      obtain ⟨k5_0_0_0, k5_0_0_1, k5_0_0_2⟩ := HS.out _ y0_5
      obtain ⟨k5_1_0_0, k5_1_0_1, k5_1_0_2⟩ := HQ1.out _ y4_5
      have z5_HL := HL.out _ y0_5
      have z5_HQ1l := HQ1l.out _ y4_5
      obtain ⟨w6, hV6, B6, b6⟩ := box0 24 w5 #[.bool rs5, .slice rA5 rn5 rc5, .slice rD5 rm5 rd5]
      have HV6 := Lib.hid hV6
      clear hV6
      go_wp2_with fail
      rw [HV6.out]
      clear HV6
      have y0_6 := bb y0_5 b6
      have y4_6 := bb y4_5 b6
      clear z5_HL
      clear z5_HQ1l
      have HQ2 := Lib.hid (fun (w' : World) (hb : Below w6.heap.size w6 w') => (B6.below' hb).three.1)
      have HQ2l := Lib.hid (fun (w' : World) (hb : Below w6.heap.size w6 w') => (B6.below' hb).lt)
      clear B6
      have y6_6 : Below w6.heap.size w6 w6 := Below.refl _ _
      clear k5_0_0_0 k5_0_0_1 k5_0_0_2 k5_1_0_0 k5_1_0_1 k5_1_0_2
      obtain ⟨k6_0_0_0, k6_0_0_1, k6_0_0_2⟩ := HS.out _ y0_6
      obtain ⟨k6_1_0_0, k6_1_0_1, k6_1_0_2⟩ := HQ1.out _ y4_6
      obtain ⟨k6_2_0_0, k6_2_0_1, k6_2_0_2⟩ := HQ2.out _ y6_6
      refine (P3.out _ (qx.below y0_6)).mono ?_
      rintro _ w7 ⟨rs7, rA7, rn7, rc7, rD7, rm7, rd7, rfl, u3, b7⟩
      have y0_7 := bb y0_6 b7
      have y4_7 := bb y4_6 b7
      have y6_7 := bb y6_6 b7
      clear k6_0_0_0 k6_0_0_1 k6_0_0_2 k6_1_0_0 k6_1_0_1 k6_1_0_2 k6_2_0_0 k6_2_0_1 k6_2_0_2
      obtain ⟨k7_0_0_0, k7_0_0_1, k7_0_0_2⟩ := HS.out _ y0_7
      obtain ⟨k7_1_0_0, k7_1_0_1, k7_1_0_2⟩ := HQ1.out _ y4_7
      obtain ⟨k7_2_0_0, k7_2_0_1, k7_2_0_2⟩ := HQ2.out _ y6_7
      have z7_HL := HL.out _ y0_7
      have z7_HQ1l := HQ1l.out _ y4_7
      have z7_HQ2l := HQ2l.out _ y6_7
      obtain ⟨w8, hV8, B8, b8⟩ := box0 24 w7 #[.bool rs7, .slice rA7 rn7 rc7, .slice rD7 rm7 rd7]
      have HV8 := Lib.hid hV8
      clear hV8
      go_wp2_with fail
      rw [HV8.out]
      clear HV8
      have y0_8 := bb y0_7 b8
      have y4_8 := bb y4_7 b8
      have y6_8 := bb y6_7 b8
      clear z7_HL
      clear z7_HQ1l
      clear z7_HQ2l
      have HQ3 := Lib.hid (fun (w' : World) (hb : Below w8.heap.size w8 w') => (B8.below' hb).three.1)
      have HQ3l := Lib.hid (fun (w' : World) (hb : Below w8.heap.size w8 w') => (B8.below' hb).lt)
      clear B8
      have y8_8 : Below w8.heap.size w8 w8 := Below.refl _ _
      clear k7_0_0_0 k7_0_0_1 k7_0_0_2 k7_1_0_0 k7_1_0_1 k7_1_0_2 k7_2_0_0 k7_2_0_1 k7_2_0_2
      obtain ⟨k8_0_0_0, k8_0_0_1, k8_0_0_2⟩ := HS.out _ y0_8
      obtain ⟨k8_1_0_0, k8_1_0_1, k8_1_0_2⟩ := HQ1.out _ y4_8
      obtain ⟨k8_2_0_0, k8_2_0_1, k8_2_0_2⟩ := HQ2.out _ y6_8
      obtain ⟨k8_3_0_0, k8_3_0_1, k8_3_0_2⟩ := HQ3.out _ y8_8
      go_region_held3 (fun w' => (w'.cell? ⟨w.heap.size, 0, none⟩ = some (.bool s0) ∧ w'.cell? ⟨w.heap.size, 1, none⟩ = some (.slice a0 len0 cap0) ∧ w'.cell? ⟨w.heap.size, 2, none⟩ = some (.slice e0 lem0 cab0)) ∧ (w'.cell? ⟨w3.heap.size, 0, none⟩ = some (.bool rs3) ∧ w'.cell? ⟨w3.heap.size, 1, none⟩ = some (.slice rA3 rn3 rc3) ∧ w'.cell? ⟨w3.heap.size, 2, none⟩ = some (.slice rD3 rm3 rd3)) ∧ (w'.cell? ⟨w5.heap.size, 0, none⟩ = some (.bool rs5) ∧ w'.cell? ⟨w5.heap.size, 1, none⟩ = some (.slice rA5 rn5 rc5) ∧ w'.cell? ⟨w5.heap.size, 2, none⟩ = some (.slice rD5 rm5 rd5)) ∧ (w'.cell? ⟨w7.heap.size, 0, none⟩ = some (.bool rs7) ∧ w'.cell? ⟨w7.heap.size, 1, none⟩ = some (.slice rA7 rn7 rc7) ∧ w'.cell? ⟨w7.heap.size, 2, none⟩ = some (.slice rD7 rm7 rd7))) (first | exact ⟨HS.out _ y0_8.drew, HQ1.out _ y4_8.drew, HQ2.out _ y6_8.drew, HQ3.out _ y8_8.drew⟩ | exact ⟨HS.out _ y0_11, HQ1.out _ y4_11, HQ2.out _ y6_11, HQ3.out _ y8_11⟩ | exact ⟨HS.out _ y0_10, HQ1.out _ y4_10, HQ2.out _ y6_10, HQ3.out _ y8_10⟩ | exact ⟨HS.out _ y0_9, HQ1.out _ y4_9, HQ2.out _ y6_9, HQ3.out _ y8_9⟩ | fail)
        (first
          | (go_at_call 10; (with_reducible refine (rat_mul ?hq1 ?hq2 zm zn (by omega)).mono ?_); (case hq1 => (have hh := (((((u1.below b4).below b5).below b6).below b7).below b8); exact hh)); (case hq2 => (have hh := (((u2.below b6).below b7).below b8); exact hh)); rintro _ w9 ⟨rs9, rA9, rn9, rc9, rD9, rm9, rd9, rfl, u4, b9⟩; have b9 := Below.undrew b9; have y0_9 := bb y0_8 b9; have y4_9 := bb y4_8 b9; have y6_9 := bb y6_8 b9; have y8_9 := bb y8_8 b9)
          | (go_at_call 9; (with_reducible refine (rat_sameT u4 ((u3.below b8).below b9) zp zs (by omega) HM.out).mono ?_); rintro _ w10 ⟨rfl, b10⟩; have y0_10 := bb y0_9 b10; have y4_10 := bb y4_9 b10; have y6_10 := bb y6_9 b10; have y8_10 := bb y8_9 b10)
          | (go_at_call 7; (with_reducible refine (same08 _).mono ?_); rintro _ w11 ⟨rfl, b11⟩; have y0_11 := bb y0_10 b11; have y4_11 := bb y4_10 b11; have y6_11 := bb y6_10 b11; have y8_11 := bb y8_10 b11))
      obtain ⟨k11_0_0_0, k11_0_0_1, k11_0_0_2⟩ := HS.out _ y0_11
      obtain ⟨k11_1_0_0, k11_1_0_1, k11_1_0_2⟩ := HQ1.out _ y4_11
      obtain ⟨k11_2_0_0, k11_2_0_1, k11_2_0_2⟩ := HQ2.out _ y6_11
      obtain ⟨k11_3_0_0, k11_3_0_1, k11_3_0_2⟩ := HQ3.out _ y8_11
      go_wp2_with fail
      go_ret
      exact ⟨rfl, bb hb0 y0_11⟩

end Go.Proofs.YtnheefhbchkbdaaDoor
