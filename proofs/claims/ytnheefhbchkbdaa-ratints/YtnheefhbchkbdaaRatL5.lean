/-
  The law RatInts: whole numbers are added, multiplied and held against each other as numbers of 32 bits are.
-/
import Derived.Test.YtnheefhbchkbdaaRatLaws
namespace Go.Proofs.Ytnheefhbchkbdaa
open Go.RowKit
set_option linter.unusedVariables false
set_option linter.unusedSimpArgs false

theorem i32_wf {a : Int} (h : (Lit.int .i32 a).wf = true) : -2147483648 ≤ a ∧ a ≤ 2147483647 := by
  simp [Lit.wf, IntKind.min, IntKind.max, IntKind.signed, IntKind.bits] at h
  omega
theorem mul_small {a b : Int} (h1 : -2147483648 ≤ a) (h2 : a ≤ 2147483647) (h3 : -2147483648 ≤ b) (h4 : b ≤ 2147483647) : -4611686018427387904 ≤ a * b ∧ a * b ≤ 4611686018427387904 := by
  have h : (a * b).natAbs ≤ 2147483648 * 2147483648 := by
    rw [Int.natAbs_mul]
    exact Nat.mul_le_mul (by omega) (by omega)
  omega
theorem cmpQ_int (a b : Int) : cmpQ (a : Rat) (b : Rat) < 0 ↔ a < b := by
  unfold cmpQ
  by_cases h : a < b
  · have : (a : Rat) < (b : Rat) := Rat.intCast_lt_intCast.2 h
    rw [if_pos this]; exact ⟨fun _ => h, fun _ => by omega⟩
  · have h2 : ¬ (a : Rat) < (b : Rat) := fun e => h (Rat.intCast_lt_intCast.1 e)
    rw [if_neg h2]
    refine ⟨fun e => absurd e ?_, fun e => absurd e h⟩
    split <;> omega
set_option maxRecDepth 100000 in
set_option maxHeartbeats 8000000 in
theorem ratInts_walk (a b : Int) (wa : (Lit.int .i32 a).wf = true) (wb : (Lit.int .i32 b).wf = true) (w : World) :
    Calls Try.prog 7 #[.int .i32 a, .int .i32 b] w fun e w' => e = .returned (.bool true) ∧ Below w.heap.size w w' := by
  obtain ⟨a1, a2⟩ := i32_wf wa
  obtain ⟨b1', b2'⟩ := i32_wf wb
  clear wa wb
  obtain ⟨p, ep⟩ : ∃ p, a * b = p := ⟨_, rfl⟩
  obtain ⟨m1, m2⟩ := mul_small a1 a2 b1' b2'
  rw [ep] at m1 m2
  have za : Sz (a : Rat) 100 := (sz_of a (by omega) (by omega)).mono (by omega)
  have zb : Sz (b : Rat) 100 := (sz_of b (by omega) (by omega)).mono (by omega)
  have zs : Sz ((a + b : Int) : Rat) 100 := (sz_of (a + b) (by omega) (by omega)).mono (by omega)
  have zd : Sz ((a - b : Int) : Rat) 100 := (sz_of (a - b) (by omega) (by omega)).mono (by omega)
  have zn : Sz ((-a : Int) : Rat) 100 := (sz_of (-a) (by omega) (by omega)).mono (by omega)
  have zp : Sz (p : Rat) 100 := (sz_of p (by omega) (by omega)).mono (by omega)
  have O1 := Lib.hid (fun w1 => rat_of a (by omega) (by omega) w1)
  have O2 := Lib.hid (fun w1 => rat_of b (by omega) (by omega) w1)
  have O3 := Lib.hid (fun w1 => rat_of (a + b) (by omega) (by omega) w1)
  have O4 := Lib.hid (fun w1 => rat_of p (by omega) (by omega) w1)
  have O5 := Lib.hid (fun w1 => rat_of (a - b) (by omega) (by omega) w1)
  have O6 := Lib.hid (fun w1 => rat_of (-a) (by omega) (by omega) w1)
  have E1 := Lib.hid (show (a : Rat) + (b : Rat) = ((a + b : Int) : Rat) from (Rat.intCast_add a b).symm)
  have E2 := Lib.hid (show (a : Rat) * (b : Rat) = (p : Rat) by rw [← ep]; exact (Rat.intCast_mul a b).symm)
  have E3 := Lib.hid (show (a : Rat) - (b : Rat) = ((a - b : Int) : Rat) from (Rat.intCast_sub a b).symm)
  have E4 := Lib.hid (show -(a : Rat) = ((-a : Int) : Rat) from (Rat.intCast_neg a).symm)
  have hc := cmpQ_int a b
  have ys := zs
  obtain ⟨cm, ec⟩ : ∃ c, cmpQ (a : Rat) (b : Rat) = c := ⟨_, rfl⟩
  rw [ec] at hc
  have HEC := Lib.hid ec
  have s1 : Sz ((a : Rat) + (b : Rat)) 100 := by rw [E1.out]; exact ys
  have s2 : Sz ((a : Rat) * (b : Rat)) 100 := by rw [E2.out]; exact zp
  have s3 : Sz ((a : Rat) - (b : Rat)) 100 := by rw [E3.out]; exact zd
  have s4 : Sz (-(a : Rat)) 100 := za.neg
  clear zs
  generalize ((a + b : Int) : Rat) = S at *
  generalize ((a - b : Int) : Rat) = D at *
  generalize ((-a : Int) : Rat) = M at *
  generalize (p : Rat) = R at *
  generalize (a : Rat) = X at *
  generalize (b : Rat) = Y at *
  have hcc : decide (cm < 0) = decide (a < b) := by rw [Bool.eq_iff_iff]; simp only [decide_eq_true_eq]; exact hc
  clear ec hc
  by_cases hab : a < b
  · have h1 : cm < 0 := by rw [decide_eq_true hab, decide_eq_true_eq] at hcc; exact hcc
    have h2 : decide (cm < 0) = true := decide_eq_true h1
    have h3 : decide (a < b) = true := decide_eq_true hab
    clear hcc
    go_enter Try.func7, Try.ntmps7
    go_wp2_with fail
    refine (O1.out _).mono ?_
    rintro _ v1 ⟨rsa, rAa, rna, rca, rDa, rma, rda, rfl, qx, c1⟩
    go_wp2_with fail
    refine (O2.out _).mono ?_
    rintro _ v2 ⟨rsb, rAb, rnb, rcb, rDb, rmb, rdb, rfl, qy, c2⟩
    obtain ⟨V, hV, B0, B1, c3⟩ := boxes1 24 v2 #[.bool rsa, .slice rAa rna rca, .slice rDa rma rda] #[.bool rsb, .slice rAb rnb rcb, .slice rDb rmb rdb]
    replace qx := (qx.below c2).below c3
    replace qy := qy.below c3
    have hb0 := bb c1 (bb c2 c3)
    have HS := Lib.hid (fun (w' : World) (hb : Below V.heap.size V w') => (⟨(B0.below' hb).three.1, (B1.below' hb).three.1⟩ : (w'.cell? ⟨v2.heap.size, 0, none⟩ = some (.bool rsa) ∧ w'.cell? ⟨v2.heap.size, 1, none⟩ = some (.slice rAa rna rca) ∧ w'.cell? ⟨v2.heap.size, 2, none⟩ = some (.slice rDa rma rda)) ∧ (w'.cell? ⟨v2.heap.size + 1, 0, none⟩ = some (.bool rsb) ∧ w'.cell? ⟨v2.heap.size + 1, 1, none⟩ = some (.slice rAb rnb rcb) ∧ w'.cell? ⟨v2.heap.size + 1, 2, none⟩ = some (.slice rDb rmb rdb))))
    have HV := Lib.hid hV
    clear hV B0 B1 c1 c2 c3
    go_wp2_with fail
    rw [HV.out]
    clear HV
    have y0_0 : Below V.heap.size V V := Below.refl _ _
    obtain ⟨⟨k0_0_0_0, k0_0_0_1, k0_0_0_2⟩, ⟨k0_0_1_0, k0_0_1_1, k0_0_1_2⟩⟩ := HS.out _ y0_0
    refine (rat_add qx qy za zb (by omega)).mono ?_
    rintro _ w1 ⟨rs1, rA1, rn1, rc1, rD1, rm1, rd1, rfl, u1, b1⟩
    have y0_1 := bb y0_0 b1
    clear k0_0_0_0 k0_0_0_1 k0_0_0_2 k0_0_1_0 k0_0_1_1 k0_0_1_2
    obtain ⟨⟨k1_0_0_0, k1_0_0_1, k1_0_0_2⟩, ⟨k1_0_1_0, k1_0_1_1, k1_0_1_2⟩⟩ := HS.out _ y0_1
    go_wp2_with fail
    refine (O3.out _).mono ?_
    rintro _ w2 ⟨rs2, rA2, rn2, rc2, rD2, rm2, rd2, rfl, u2, b2⟩
    have y0_2 := bb y0_1 b2
    clear k1_0_0_0 k1_0_0_1 k1_0_0_2 k1_0_1_0 k1_0_1_1 k1_0_1_2
    obtain ⟨⟨k2_0_0_0, k2_0_0_1, k2_0_0_2⟩, ⟨k2_0_1_0, k2_0_1_1, k2_0_1_2⟩⟩ := HS.out _ y0_2
    go_wp2_with fail
    refine (rat_sameT (u1.below b2) u2 s1 ys (by omega) E1.out).mono ?_
    rintro _ w3 ⟨rfl, b3⟩
    have y0_3 := bb y0_2 b3
    clear k2_0_0_0 k2_0_0_1 k2_0_0_2 k2_0_1_0 k2_0_1_1 k2_0_1_2
    obtain ⟨⟨k3_0_0_0, k3_0_0_1, k3_0_0_2⟩, ⟨k3_0_1_0, k3_0_1_1, k3_0_1_2⟩⟩ := HS.out _ y0_3
    go_wp2_with fail
    refine (rat_mul (qx.below y0_3) (qy.below y0_3) za zb (by omega)).mono ?_
    rintro _ w4 ⟨rs4, rA4, rn4, rc4, rD4, rm4, rd4, rfl, u3, b4⟩
    have y0_4 := bb y0_3 b4
    clear k3_0_0_0 k3_0_0_1 k3_0_0_2 k3_0_1_0 k3_0_1_1 k3_0_1_2
    obtain ⟨⟨k4_0_0_0, k4_0_0_1, k4_0_0_2⟩, ⟨k4_0_1_0, k4_0_1_1, k4_0_1_2⟩⟩ := HS.out _ y0_4
    go_wp2_with fail
    refine (O4.out _).mono ?_
    rintro _ w5 ⟨rs5, rA5, rn5, rc5, rD5, rm5, rd5, rfl, u4, b5⟩
    have y0_5 := bb y0_4 b5
    clear k4_0_0_0 k4_0_0_1 k4_0_0_2 k4_0_1_0 k4_0_1_1 k4_0_1_2
    obtain ⟨⟨k5_0_0_0, k5_0_0_1, k5_0_0_2⟩, ⟨k5_0_1_0, k5_0_1_1, k5_0_1_2⟩⟩ := HS.out _ y0_5
    go_wp2_with fail
    refine (rat_sameT (u3.below b5) u4 s2 zp (by omega) E2.out).mono ?_
    rintro _ w6 ⟨rfl, b6⟩
    have y0_6 := bb y0_5 b6
    clear k5_0_0_0 k5_0_0_1 k5_0_0_2 k5_0_1_0 k5_0_1_1 k5_0_1_2
    obtain ⟨⟨k6_0_0_0, k6_0_0_1, k6_0_0_2⟩, ⟨k6_0_1_0, k6_0_1_1, k6_0_1_2⟩⟩ := HS.out _ y0_6
    go_wp2_with fail
    refine (rat_sub (qx.below y0_6) (qy.below y0_6) za zb (by omega)).mono ?_
    rintro _ w7 ⟨rs7, rA7, rn7, rc7, rD7, rm7, rd7, rfl, u5, b7⟩
    have y0_7 := bb y0_6 b7
    clear k6_0_0_0 k6_0_0_1 k6_0_0_2 k6_0_1_0 k6_0_1_1 k6_0_1_2
    obtain ⟨⟨k7_0_0_0, k7_0_0_1, k7_0_0_2⟩, ⟨k7_0_1_0, k7_0_1_1, k7_0_1_2⟩⟩ := HS.out _ y0_7
    go_wp2_with fail
    refine (O5.out _).mono ?_
    rintro _ w8 ⟨rs8, rA8, rn8, rc8, rD8, rm8, rd8, rfl, u6, b8⟩
    have y0_8 := bb y0_7 b8
    clear k7_0_0_0 k7_0_0_1 k7_0_0_2 k7_0_1_0 k7_0_1_1 k7_0_1_2
    obtain ⟨⟨k8_0_0_0, k8_0_0_1, k8_0_0_2⟩, ⟨k8_0_1_0, k8_0_1_1, k8_0_1_2⟩⟩ := HS.out _ y0_8
    go_wp2_with fail
    refine (rat_sameT (u5.below b8) u6 s3 zd (by omega) E3.out).mono ?_
    rintro _ w9 ⟨rfl, b9⟩
    have y0_9 := bb y0_8 b9
    clear k8_0_0_0 k8_0_0_1 k8_0_0_2 k8_0_1_0 k8_0_1_1 k8_0_1_2
    obtain ⟨⟨k9_0_0_0, k9_0_0_1, k9_0_0_2⟩, ⟨k9_0_1_0, k9_0_1_1, k9_0_1_2⟩⟩ := HS.out _ y0_9
    go_wp2_with fail
    refine (rat_cmpE (qx.below y0_9) (qy.below y0_9) za zb (by omega) cm HEC.out).mono ?_
    rintro _ w10 ⟨rfl, b10⟩
    have y0_10 := bb y0_9 b10
    clear k9_0_0_0 k9_0_0_1 k9_0_0_2 k9_0_1_0 k9_0_1_1 k9_0_1_2
    obtain ⟨⟨k10_0_0_0, k10_0_0_1, k10_0_0_2⟩, ⟨k10_0_1_0, k10_0_1_1, k10_0_1_2⟩⟩ := HS.out _ y0_10
    clear ep m1 m2
    go_wp2_with fail
    refine (rat_negE (qx.below y0_10) za (by omega)).mono ?_
    rintro _ w11 ⟨rs11, rA11, rn11, rc11, rD11, rm11, rd11, rfl, u7, b11⟩
    have y0_11 := bb y0_10 b11
    clear k10_0_0_0 k10_0_0_1 k10_0_0_2 k10_0_1_0 k10_0_1_1 k10_0_1_2
    obtain ⟨⟨k11_0_0_0, k11_0_0_1, k11_0_0_2⟩, ⟨k11_0_1_0, k11_0_1_1, k11_0_1_2⟩⟩ := HS.out _ y0_11
    go_wp2_with fail
    refine (O6.out _).mono ?_
    rintro _ w12 ⟨rs12, rA12, rn12, rc12, rD12, rm12, rd12, rfl, u8, b12⟩
    have y0_12 := bb y0_11 b12
    clear k11_0_0_0 k11_0_0_1 k11_0_0_2 k11_0_1_0 k11_0_1_1 k11_0_1_2
    obtain ⟨⟨k12_0_0_0, k12_0_0_1, k12_0_0_2⟩, ⟨k12_0_1_0, k12_0_1_1, k12_0_1_2⟩⟩ := HS.out _ y0_12
    go_wp2_with fail
    refine (rat_sameT (u7.below b12) u8 s4 zn (by omega) E4.out).mono ?_
    rintro _ w13 ⟨rfl, b13⟩
    have y0_13 := bb y0_12 b13
    clear k12_0_0_0 k12_0_0_1 k12_0_0_2 k12_0_1_0 k12_0_1_1 k12_0_1_2
    obtain ⟨⟨k13_0_0_0, k13_0_0_1, k13_0_0_2⟩, ⟨k13_0_1_0, k13_0_1_1, k13_0_1_2⟩⟩ := HS.out _ y0_13
    go_wp2_with fail
    refine (same07 _).mono ?_
    rintro _ w14 ⟨rfl, b14⟩
    have y0_14 := bb y0_13 b14
    clear k13_0_0_0 k13_0_0_1 k13_0_0_2 k13_0_1_0 k13_0_1_1 k13_0_1_2
    obtain ⟨⟨k14_0_0_0, k14_0_0_1, k14_0_0_2⟩, ⟨k14_0_1_0, k14_0_1_1, k14_0_1_2⟩⟩ := HS.out _ y0_14
    go_wp2_with fail
    go_ret
    exact ⟨rfl, bb hb0 y0_14⟩
  · have h1 : ¬ cm < 0 := by rw [decide_eq_false hab, decide_eq_false_iff_not] at hcc; exact hcc
    have h2 : decide (cm < 0) = false := decide_eq_false h1
    have h3 : decide (a < b) = false := decide_eq_false hab
    clear hcc
    go_enter Try.func7, Try.ntmps7
    go_wp2_with fail
    refine (O1.out _).mono ?_
    rintro _ v1 ⟨rsa, rAa, rna, rca, rDa, rma, rda, rfl, qx, c1⟩
    go_wp2_with fail
    refine (O2.out _).mono ?_
    rintro _ v2 ⟨rsb, rAb, rnb, rcb, rDb, rmb, rdb, rfl, qy, c2⟩
    obtain ⟨V, hV, B0, B1, c3⟩ := boxes1 24 v2 #[.bool rsa, .slice rAa rna rca, .slice rDa rma rda] #[.bool rsb, .slice rAb rnb rcb, .slice rDb rmb rdb]
    replace qx := (qx.below c2).below c3
    replace qy := qy.below c3
    have hb0 := bb c1 (bb c2 c3)
    have HS := Lib.hid (fun (w' : World) (hb : Below V.heap.size V w') => (⟨(B0.below' hb).three.1, (B1.below' hb).three.1⟩ : (w'.cell? ⟨v2.heap.size, 0, none⟩ = some (.bool rsa) ∧ w'.cell? ⟨v2.heap.size, 1, none⟩ = some (.slice rAa rna rca) ∧ w'.cell? ⟨v2.heap.size, 2, none⟩ = some (.slice rDa rma rda)) ∧ (w'.cell? ⟨v2.heap.size + 1, 0, none⟩ = some (.bool rsb) ∧ w'.cell? ⟨v2.heap.size + 1, 1, none⟩ = some (.slice rAb rnb rcb) ∧ w'.cell? ⟨v2.heap.size + 1, 2, none⟩ = some (.slice rDb rmb rdb))))
    have HV := Lib.hid hV
    clear hV B0 B1 c1 c2 c3
    go_wp2_with fail
    rw [HV.out]
    clear HV
    have y0_0 : Below V.heap.size V V := Below.refl _ _
    obtain ⟨⟨k0_0_0_0, k0_0_0_1, k0_0_0_2⟩, ⟨k0_0_1_0, k0_0_1_1, k0_0_1_2⟩⟩ := HS.out _ y0_0
    refine (rat_add qx qy za zb (by omega)).mono ?_
    rintro _ w1 ⟨rs1, rA1, rn1, rc1, rD1, rm1, rd1, rfl, u1, b1⟩
    have y0_1 := bb y0_0 b1
    clear k0_0_0_0 k0_0_0_1 k0_0_0_2 k0_0_1_0 k0_0_1_1 k0_0_1_2
    obtain ⟨⟨k1_0_0_0, k1_0_0_1, k1_0_0_2⟩, ⟨k1_0_1_0, k1_0_1_1, k1_0_1_2⟩⟩ := HS.out _ y0_1
    go_wp2_with fail
    refine (O3.out _).mono ?_
    rintro _ w2 ⟨rs2, rA2, rn2, rc2, rD2, rm2, rd2, rfl, u2, b2⟩
    have y0_2 := bb y0_1 b2
    clear k1_0_0_0 k1_0_0_1 k1_0_0_2 k1_0_1_0 k1_0_1_1 k1_0_1_2
    obtain ⟨⟨k2_0_0_0, k2_0_0_1, k2_0_0_2⟩, ⟨k2_0_1_0, k2_0_1_1, k2_0_1_2⟩⟩ := HS.out _ y0_2
    go_wp2_with fail
    refine (rat_sameT (u1.below b2) u2 s1 ys (by omega) E1.out).mono ?_
    rintro _ w3 ⟨rfl, b3⟩
    have y0_3 := bb y0_2 b3
    clear k2_0_0_0 k2_0_0_1 k2_0_0_2 k2_0_1_0 k2_0_1_1 k2_0_1_2
    obtain ⟨⟨k3_0_0_0, k3_0_0_1, k3_0_0_2⟩, ⟨k3_0_1_0, k3_0_1_1, k3_0_1_2⟩⟩ := HS.out _ y0_3
    go_wp2_with fail
    refine (rat_mul (qx.below y0_3) (qy.below y0_3) za zb (by omega)).mono ?_
    rintro _ w4 ⟨rs4, rA4, rn4, rc4, rD4, rm4, rd4, rfl, u3, b4⟩
    have y0_4 := bb y0_3 b4
    clear k3_0_0_0 k3_0_0_1 k3_0_0_2 k3_0_1_0 k3_0_1_1 k3_0_1_2
    obtain ⟨⟨k4_0_0_0, k4_0_0_1, k4_0_0_2⟩, ⟨k4_0_1_0, k4_0_1_1, k4_0_1_2⟩⟩ := HS.out _ y0_4
    go_wp2_with fail
    refine (O4.out _).mono ?_
    rintro _ w5 ⟨rs5, rA5, rn5, rc5, rD5, rm5, rd5, rfl, u4, b5⟩
    have y0_5 := bb y0_4 b5
    clear k4_0_0_0 k4_0_0_1 k4_0_0_2 k4_0_1_0 k4_0_1_1 k4_0_1_2
    obtain ⟨⟨k5_0_0_0, k5_0_0_1, k5_0_0_2⟩, ⟨k5_0_1_0, k5_0_1_1, k5_0_1_2⟩⟩ := HS.out _ y0_5
    go_wp2_with fail
    refine (rat_sameT (u3.below b5) u4 s2 zp (by omega) E2.out).mono ?_
    rintro _ w6 ⟨rfl, b6⟩
    have y0_6 := bb y0_5 b6
    clear k5_0_0_0 k5_0_0_1 k5_0_0_2 k5_0_1_0 k5_0_1_1 k5_0_1_2
    obtain ⟨⟨k6_0_0_0, k6_0_0_1, k6_0_0_2⟩, ⟨k6_0_1_0, k6_0_1_1, k6_0_1_2⟩⟩ := HS.out _ y0_6
    go_wp2_with fail
    refine (rat_sub (qx.below y0_6) (qy.below y0_6) za zb (by omega)).mono ?_
    rintro _ w7 ⟨rs7, rA7, rn7, rc7, rD7, rm7, rd7, rfl, u5, b7⟩
    have y0_7 := bb y0_6 b7
    clear k6_0_0_0 k6_0_0_1 k6_0_0_2 k6_0_1_0 k6_0_1_1 k6_0_1_2
    obtain ⟨⟨k7_0_0_0, k7_0_0_1, k7_0_0_2⟩, ⟨k7_0_1_0, k7_0_1_1, k7_0_1_2⟩⟩ := HS.out _ y0_7
    go_wp2_with fail
    refine (O5.out _).mono ?_
    rintro _ w8 ⟨rs8, rA8, rn8, rc8, rD8, rm8, rd8, rfl, u6, b8⟩
    have y0_8 := bb y0_7 b8
    clear k7_0_0_0 k7_0_0_1 k7_0_0_2 k7_0_1_0 k7_0_1_1 k7_0_1_2
    obtain ⟨⟨k8_0_0_0, k8_0_0_1, k8_0_0_2⟩, ⟨k8_0_1_0, k8_0_1_1, k8_0_1_2⟩⟩ := HS.out _ y0_8
    go_wp2_with fail
    refine (rat_sameT (u5.below b8) u6 s3 zd (by omega) E3.out).mono ?_
    rintro _ w9 ⟨rfl, b9⟩
    have y0_9 := bb y0_8 b9
    clear k8_0_0_0 k8_0_0_1 k8_0_0_2 k8_0_1_0 k8_0_1_1 k8_0_1_2
    obtain ⟨⟨k9_0_0_0, k9_0_0_1, k9_0_0_2⟩, ⟨k9_0_1_0, k9_0_1_1, k9_0_1_2⟩⟩ := HS.out _ y0_9
    go_wp2_with fail
    refine (rat_cmpE (qx.below y0_9) (qy.below y0_9) za zb (by omega) cm HEC.out).mono ?_
    rintro _ w10 ⟨rfl, b10⟩
    have y0_10 := bb y0_9 b10
    clear k9_0_0_0 k9_0_0_1 k9_0_0_2 k9_0_1_0 k9_0_1_1 k9_0_1_2
    obtain ⟨⟨k10_0_0_0, k10_0_0_1, k10_0_0_2⟩, ⟨k10_0_1_0, k10_0_1_1, k10_0_1_2⟩⟩ := HS.out _ y0_10
    clear ep m1 m2
    go_wp2_with fail
    refine (rat_negE (qx.below y0_10) za (by omega)).mono ?_
    rintro _ w11 ⟨rs11, rA11, rn11, rc11, rD11, rm11, rd11, rfl, u7, b11⟩
    have y0_11 := bb y0_10 b11
    clear k10_0_0_0 k10_0_0_1 k10_0_0_2 k10_0_1_0 k10_0_1_1 k10_0_1_2
    obtain ⟨⟨k11_0_0_0, k11_0_0_1, k11_0_0_2⟩, ⟨k11_0_1_0, k11_0_1_1, k11_0_1_2⟩⟩ := HS.out _ y0_11
    go_wp2_with fail
    refine (O6.out _).mono ?_
    rintro _ w12 ⟨rs12, rA12, rn12, rc12, rD12, rm12, rd12, rfl, u8, b12⟩
    have y0_12 := bb y0_11 b12
    clear k11_0_0_0 k11_0_0_1 k11_0_0_2 k11_0_1_0 k11_0_1_1 k11_0_1_2
    obtain ⟨⟨k12_0_0_0, k12_0_0_1, k12_0_0_2⟩, ⟨k12_0_1_0, k12_0_1_1, k12_0_1_2⟩⟩ := HS.out _ y0_12
    go_wp2_with fail
    refine (rat_sameT (u7.below b12) u8 s4 zn (by omega) E4.out).mono ?_
    rintro _ w13 ⟨rfl, b13⟩
    have y0_13 := bb y0_12 b13
    clear k12_0_0_0 k12_0_0_1 k12_0_0_2 k12_0_1_0 k12_0_1_1 k12_0_1_2
    obtain ⟨⟨k13_0_0_0, k13_0_0_1, k13_0_0_2⟩, ⟨k13_0_1_0, k13_0_1_1, k13_0_1_2⟩⟩ := HS.out _ y0_13
    go_wp2_with fail
    refine (same07 _).mono ?_
    rintro _ w14 ⟨rfl, b14⟩
    have y0_14 := bb y0_13 b14
    clear k13_0_0_0 k13_0_0_1 k13_0_0_2 k13_0_1_0 k13_0_1_1 k13_0_1_2
    obtain ⟨⟨k14_0_0_0, k14_0_0_1, k14_0_0_2⟩, ⟨k14_0_1_0, k14_0_1_1, k14_0_1_2⟩⟩ := HS.out _ y0_14
    go_wp2_with fail
    go_ret
    exact ⟨rfl, bb hb0 y0_14⟩

end Go.Proofs.Ytnheefhbchkbdaa
