/-
  The law RatTells: sums, differences, products, quotients, and how two numbers stand to one another.
-/
import Derived.Test.YtnheefhbchkbdaaRatLaws
namespace Go.Proofs.Ytnheefhbchkbdaa
open Go.RowKit
set_option linter.unusedVariables false
set_option linter.unusedSimpArgs false

set_option maxRecDepth 100000 in
set_option maxHeartbeats 8000000 in
theorem ratTells_valid {w V : World} {s0 : Bool} {a0 e0 : Option Addr} {len0 cap0 lem0 cab0 : Nat} {X : Rat} {s1 : Bool} {a1 e1 : Option Addr} {len1 cap1 lem1 cab1 : Nat} {Y : Rat} (hV : (w.alloc (.cells #[.bool s0, .slice a0 len0 cap0, .slice e0 lem0 cab0] 24)).alloc (.cells #[.bool s1, .slice a1 len1 cap1, .slice e1 lem1 cab1] 24) = V) (B0 : Box 24 V (w.heap.size) #[.bool s0, .slice a0 len0 cap0, .slice e0 lem0 cab0]) (B1 : Box 24 V (w.heap.size + 1) #[.bool s1, .slice a1 len1 cap1, .slice e1 lem1 cab1]) (hb0 : Below w.heap.size w V) (R0 : ∀ w1, Below w.heap.size w w1 → Calls Try.prog 19 #[.agg #[.bool s0, .slice a0 len0 cap0, .slice e0 lem0 cab0]] w1 (RetBl true w1)) (R1 : ∀ w1, Below w.heap.size w w1 → Calls Try.prog 19 #[.agg #[.bool s1, .slice a1 len1 cap1, .slice e1 lem1 cab1]] w1 (RetBl true w1)) (g0 : Q w s0 a0 len0 cap0 e0 lem0 cab0 X) (n0 : Sz X 6) (g1 : Q w s1 a1 len1 cap1 e1 lem1 cab1 Y) (n1 : Sz Y 6) :
    Calls Try.prog 4 #[.agg #[.bool s0, .slice a0 len0 cap0, .slice e0 lem0 cab0], .agg #[.bool s1, .slice a1 len1 cap1, .slice e1 lem1 cab1]] w fun e w' => e = .returned (.bool true) ∧ Below w.heap.size w w' := by
  have qx := g0.below hb0
  have zx : Sz X 100 := n0.mono (by omega)
  have qy := g1.below hb0
  have zy : Sz Y 100 := n1.mono (by omega)
  have HS := Lib.hid (fun (w' : World) (hb : Below V.heap.size V w') => (⟨(B0.below' hb).three.1, (B1.below' hb).three.1⟩ : (w'.cell? ⟨w.heap.size, 0, none⟩ = some (.bool s0) ∧ w'.cell? ⟨w.heap.size, 1, none⟩ = some (.slice a0 len0 cap0) ∧ w'.cell? ⟨w.heap.size, 2, none⟩ = some (.slice e0 lem0 cab0)) ∧ (w'.cell? ⟨w.heap.size + 1, 0, none⟩ = some (.bool s1) ∧ w'.cell? ⟨w.heap.size + 1, 1, none⟩ = some (.slice a1 len1 cap1) ∧ w'.cell? ⟨w.heap.size + 1, 2, none⟩ = some (.slice e1 lem1 cab1))))
  have HL := Lib.hid (fun (w' : World) (hb : Below V.heap.size V w') => (⟨(B0.below' hb).lt, (B1.below' hb).lt⟩ : w.heap.size < w'.heap.size ∧ w.heap.size + 1 < w'.heap.size))
  have HR0 := Lib.hid R0
  have HR1 := Lib.hid R1
  have HV := Lib.hid hV
  clear hV B0 R0 g0 B1 R1 g1
  have zxy := (n0.add n1).mono (show 6 + 6 + 1 ≤ 100 by omega)
  have dxy := (n0.sub n1).mono (show 6 + 6 + 1 ≤ 100 by omega)
  have wxy := (n0.mul n1).mono (show 6 + 6 ≤ 100 by omega)
  have iy := n1.inv.mono (show 6 ≤ 100 by omega)
  have qxy : Sz (X / Y) 100 := by rw [Rat.div_def]; exact (n0.mul n1.inv).mono (show 6 + 6 ≤ 100 by omega)
  have nx := zx.neg
  have e1 : ((1 : Int) : Rat) / Y = Y⁻¹ := by rw [Rat.div_def]; exact Rat.one_mul _
  have zO : Sz ((1 : Int) : Rat) 100 := (sz_of 1 (by omega) (by omega)).mono (by omega)
  have OF := fun w1 => ref_of 1 (by omega) (by omega) w1
  generalize ((1 : Int) : Rat) = O at *
  have HE1 := Lib.hid e1
  have HOF := Lib.hid OF
  have siy : Sz (O / Y) 100 := by rw [e1]; exact iy
  clear e1 OF
  obtain ⟨x, ex⟩ : ∃ x, cmpQ X Y = x := ⟨_, rfl⟩
  obtain ⟨sg, es⟩ : ∃ sg, sgnQ X = sg := ⟨_, rfl⟩
  have HEX := Lib.hid ex
  have HES := Lib.hid es
  clear ex es
  by_cases h0 : Y = 0
  · have HY := Lib.hid h0
    clear h0
    go_enter Try.func4, Try.ntmps4
    go_wp2_with fail
    rw [HV.out]
    clear HV
    have y0_0 : Below V.heap.size V V := Below.refl _ _
    obtain ⟨⟨k0_0_0_0, k0_0_0_1, k0_0_0_2⟩, ⟨k0_0_1_0, k0_0_1_1, k0_0_1_2⟩⟩ := HS.out _ y0_0
    refine (HR0.out _ (bb hb0 y0_0)).mono ?_
    rintro _ w1 ⟨rfl, b1⟩
    have y0_1 := bb y0_0 b1
    clear k0_0_0_0 k0_0_0_1 k0_0_0_2 k0_0_1_0 k0_0_1_1 k0_0_1_2
    obtain ⟨⟨k1_0_0_0, k1_0_0_1, k1_0_0_2⟩, ⟨k1_0_1_0, k1_0_1_1, k1_0_1_2⟩⟩ := HS.out _ y0_1
    go_wp2_with fail
    refine (HR1.out _ (bb hb0 y0_1)).mono ?_
    rintro _ w2 ⟨rfl, b2⟩
    have y0_2 := bb y0_1 b2
    clear k1_0_0_0 k1_0_0_1 k1_0_0_2 k1_0_1_0 k1_0_1_1 k1_0_1_2
    obtain ⟨⟨k2_0_0_0, k2_0_0_1, k2_0_0_2⟩, ⟨k2_0_1_0, k2_0_1_1, k2_0_1_2⟩⟩ := HS.out _ y0_2
    go_wp2_with fail
    refine (rat_div_zero (qx.below y0_2) (qy.below y0_2) zx zy (by omega) HY.out).mono ?_
    rintro _ w3 ⟨rfl, b3⟩
    have y0_3 := bb y0_2 b3
    clear k2_0_0_0 k2_0_0_1 k2_0_0_2 k2_0_1_0 k2_0_1_1 k2_0_1_2
    obtain ⟨⟨k3_0_0_0, k3_0_0_1, k3_0_0_2⟩, ⟨k3_0_1_0, k3_0_1_1, k3_0_1_2⟩⟩ := HS.out _ y0_3
    have z3_HL := HL.out _ y0_3
    obtain ⟨w4, hV4, B4, b4⟩ := box0 24 w3 #[.bool false, .slice none 0 0, .slice none 0 0]
    have HV4 := Lib.hid hV4
    clear hV4
    go_wp2_with fail
    rw [HV4.out]
    clear HV4
    have y0_4 := bb y0_3 b4
    clear z3_HL
    have HQ1 := Lib.hid (fun (w' : World) (hb : Below w4.heap.size w4 w') => (B4.below' hb).three.1)
    have HQ1l := Lib.hid (fun (w' : World) (hb : Below w4.heap.size w4 w') => (B4.below' hb).lt)
    clear B4
    have y4_4 : Below w4.heap.size w4 w4 := Below.refl _ _
    clear k3_0_0_0 k3_0_0_1 k3_0_0_2 k3_0_1_0 k3_0_1_1 k3_0_1_2
    obtain ⟨⟨k4_0_0_0, k4_0_0_1, k4_0_0_2⟩, ⟨k4_0_1_0, k4_0_1_1, k4_0_1_2⟩⟩ := HS.out _ y0_4
    obtain ⟨k4_1_0_0, k4_1_0_1, k4_1_0_2⟩ := HQ1.out _ y4_4
    refine (rat_inv_zero (qy.below y0_4) zy (by omega) HY.out).mono ?_
    rintro _ w5 ⟨rfl, b5⟩
    have y0_5 := bb y0_4 b5
    have y4_5 := bb y4_4 b5
    clear k4_0_0_0 k4_0_0_1 k4_0_0_2 k4_0_1_0 k4_0_1_1 k4_0_1_2 k4_1_0_0 k4_1_0_1 k4_1_0_2
    obtain ⟨⟨k5_0_0_0, k5_0_0_1, k5_0_0_2⟩, ⟨k5_0_1_0, k5_0_1_1, k5_0_1_2⟩⟩ := HS.out _ y0_5
    obtain ⟨k5_1_0_0, k5_1_0_1, k5_1_0_2⟩ := HQ1.out _ y4_5
    have z5_HL := HL.out _ y0_5
    have z5_HQ1l := HQ1l.out _ y4_5
    obtain ⟨w6, hV6, B6, b6⟩ := box0 24 w5 #[.bool false, .slice none 0 0, .slice none 0 0]
    have HV6 := Lib.hid hV6
    clear hV6
    go_wp2_with fail
    rw [HV6.out]
    clear HV6
    have y0_6 := bb y0_5 b6
    have y4_6 := bb y4_5 b6
    clear z5_HL
    clear z5_HQ1l
    have HQ2 := Lib.hid (fun (w' : World) (hb : Below w6.heap.size w6 w') => (B6.below' hb).three.1)
    have HQ2l := Lib.hid (fun (w' : World) (hb : Below w6.heap.size w6 w') => (B6.below' hb).lt)
    clear B6
    have y6_6 : Below w6.heap.size w6 w6 := Below.refl _ _
    clear k5_0_0_0 k5_0_0_1 k5_0_0_2 k5_0_1_0 k5_0_1_1 k5_0_1_2 k5_1_0_0 k5_1_0_1 k5_1_0_2
    obtain ⟨⟨k6_0_0_0, k6_0_0_1, k6_0_0_2⟩, ⟨k6_0_1_0, k6_0_1_1, k6_0_1_2⟩⟩ := HS.out _ y0_6
    obtain ⟨k6_1_0_0, k6_1_0_1, k6_1_0_2⟩ := HQ1.out _ y4_6
    obtain ⟨k6_2_0_0, k6_2_0_1, k6_2_0_2⟩ := HQ2.out _ y6_6
    refine (ref_zeroE (qy.below y0_6) zy true (decide_eq_true HY.out)).mono ?_
    rintro _ w7 ⟨rfl, b7⟩
    have y0_7 := bb y0_6 b7
    have y4_7 := bb y4_6 b7
    have y6_7 := bb y6_6 b7
    clear k6_0_0_0 k6_0_0_1 k6_0_0_2 k6_0_1_0 k6_0_1_1 k6_0_1_2 k6_1_0_0 k6_1_0_1 k6_1_0_2 k6_2_0_0 k6_2_0_1 k6_2_0_2
    obtain ⟨⟨k7_0_0_0, k7_0_0_1, k7_0_0_2⟩, ⟨k7_0_1_0, k7_0_1_1, k7_0_1_2⟩⟩ := HS.out _ y0_7
    obtain ⟨k7_1_0_0, k7_1_0_1, k7_1_0_2⟩ := HQ1.out _ y4_7
    obtain ⟨k7_2_0_0, k7_2_0_1, k7_2_0_2⟩ := HQ2.out _ y6_7
    go_wp2_with fail
    refine (ref_sameZ _).mono ?_
    rintro _ w8 ⟨rfl, b8⟩
    have y0_8 := bb y0_7 b8
    have y4_8 := bb y4_7 b8
    have y6_8 := bb y6_7 b8
    clear k7_0_0_0 k7_0_0_1 k7_0_0_2 k7_0_1_0 k7_0_1_1 k7_0_1_2 k7_1_0_0 k7_1_0_1 k7_1_0_2 k7_2_0_0 k7_2_0_1 k7_2_0_2
    obtain ⟨⟨k8_0_0_0, k8_0_0_1, k8_0_0_2⟩, ⟨k8_0_1_0, k8_0_1_1, k8_0_1_2⟩⟩ := HS.out _ y0_8
    obtain ⟨k8_1_0_0, k8_1_0_1, k8_1_0_2⟩ := HQ1.out _ y4_8
    obtain ⟨k8_2_0_0, k8_2_0_1, k8_2_0_2⟩ := HQ2.out _ y6_8
    go_wp2_with fail
    refine (ref_sameZ _).mono ?_
    rintro _ w9 ⟨rfl, b9⟩
    have y0_9 := bb y0_8 b9
    have y4_9 := bb y4_8 b9
    have y6_9 := bb y6_8 b9
    clear k8_0_0_0 k8_0_0_1 k8_0_0_2 k8_0_1_0 k8_0_1_1 k8_0_1_2 k8_1_0_0 k8_1_0_1 k8_1_0_2 k8_2_0_0 k8_2_0_1 k8_2_0_2
    obtain ⟨⟨k9_0_0_0, k9_0_0_1, k9_0_0_2⟩, ⟨k9_0_1_0, k9_0_1_1, k9_0_1_2⟩⟩ := HS.out _ y0_9
    obtain ⟨k9_1_0_0, k9_1_0_1, k9_1_0_2⟩ := HQ1.out _ y4_9
    obtain ⟨k9_2_0_0, k9_2_0_1, k9_2_0_2⟩ := HQ2.out _ y6_9
    go_wp2_with fail
    go_region_held3 (fun w' => (w'.cell? ⟨w.heap.size, 0, none⟩ = some (.bool s0) ∧ w'.cell? ⟨w.heap.size, 1, none⟩ = some (.slice a0 len0 cap0) ∧ w'.cell? ⟨w.heap.size, 2, none⟩ = some (.slice e0 lem0 cab0)) ∧ (w'.cell? ⟨w.heap.size + 1, 0, none⟩ = some (.bool s1) ∧ w'.cell? ⟨w.heap.size + 1, 1, none⟩ = some (.slice a1 len1 cap1) ∧ w'.cell? ⟨w.heap.size + 1, 2, none⟩ = some (.slice e1 lem1 cab1)) ∧ (w'.cell? ⟨w3.heap.size, 0, none⟩ = some (.bool false) ∧ w'.cell? ⟨w3.heap.size, 1, none⟩ = some (.slice none 0 0) ∧ w'.cell? ⟨w3.heap.size, 2, none⟩ = some (.slice none 0 0)) ∧ (w'.cell? ⟨w5.heap.size, 0, none⟩ = some (.bool false) ∧ w'.cell? ⟨w5.heap.size, 1, none⟩ = some (.slice none 0 0) ∧ w'.cell? ⟨w5.heap.size, 2, none⟩ = some (.slice none 0 0))) (first | exact ⟨(HS.out _ y0_9.drew).1, (HS.out _ y0_9.drew).2, HQ1.out _ y4_9.drew, HQ2.out _ y6_9.drew⟩ | exact ⟨(HS.out _ y0_18).1, (HS.out _ y0_18).2, HQ1.out _ y4_18, HQ2.out _ y6_18⟩ | exact ⟨(HS.out _ y0_17).1, (HS.out _ y0_17).2, HQ1.out _ y4_17, HQ2.out _ y6_17⟩ | exact ⟨(HS.out _ y0_16).1, (HS.out _ y0_16).2, HQ1.out _ y4_16, HQ2.out _ y6_16⟩ | exact ⟨(HS.out _ y0_15).1, (HS.out _ y0_15).2, HQ1.out _ y4_15, HQ2.out _ y6_15⟩ | exact ⟨(HS.out _ y0_14).1, (HS.out _ y0_14).2, HQ1.out _ y4_14, HQ2.out _ y6_14⟩ | exact ⟨(HS.out _ y0_13).1, (HS.out _ y0_13).2, HQ1.out _ y4_13, HQ2.out _ y6_13⟩ | exact ⟨(HS.out _ y0_12).1, (HS.out _ y0_12).2, HQ1.out _ y4_12, HQ2.out _ y6_12⟩ | exact ⟨(HS.out _ y0_11).1, (HS.out _ y0_11).2, HQ1.out _ y4_11, HQ2.out _ y6_11⟩ | exact ⟨(HS.out _ y0_10).1, (HS.out _ y0_10).2, HQ1.out _ y4_10, HQ2.out _ y6_10⟩ | fail)
      (first
        | (go_at_call 24; (with_reducible refine (rat_add ?hq1 ?hq2 zx zy (by omega)).mono ?_); (case hq1 => (have hh := (qx.below y0_9); exact hh)); (case hq2 => (have hh := (qy.below y0_9); exact hh)); rintro _ w10 ⟨rs10, rA10, rn10, rc10, rD10, rm10, rd10, rfl, u1, b10⟩; have b10 := Below.undrew b10; have y0_10 := bb y0_9 b10; have y4_10 := bb y4_9 b10; have y6_10 := bb y6_9 b10)
        | (go_at_call 25; (with_reducible refine (ref_qadd (qx.below y0_10) (qy.below y0_10) zx zy (by omega)).mono ?_); rintro _ w11 ⟨rs11, rA11, rn11, rc11, rD11, rm11, rd11, rfl, u2, b11⟩; have y0_11 := bb y0_10 b11; have y4_11 := bb y4_10 b11; have y6_11 := bb y6_10 b11)
        | (go_at_call 12; (with_reducible refine (ref_sameT (u1.below b11) u2 zxy zxy (by omega) rfl).mono ?_); rintro _ w12 ⟨rfl, b12⟩; have y0_12 := bb y0_11 b12; have y4_12 := bb y4_11 b12; have y6_12 := bb y6_11 b12)
        | (go_at_call 26; (with_reducible refine (rat_sub (qx.below y0_12) (qy.below y0_12) zx zy (by omega)).mono ?_); rintro _ w13 ⟨rs13, rA13, rn13, rc13, rD13, rm13, rd13, rfl, u3, b13⟩; have y0_13 := bb y0_12 b13; have y4_13 := bb y4_12 b13; have y6_13 := bb y6_12 b13)
        | (go_at_call 27; (with_reducible refine (ref_qsub (qx.below y0_13) (qy.below y0_13) zx zy (by omega)).mono ?_); rintro _ w14 ⟨rs14, rA14, rn14, rc14, rD14, rm14, rd14, rfl, u4, b14⟩; have y0_14 := bb y0_13 b14; have y4_14 := bb y4_13 b14; have y6_14 := bb y6_13 b14)
        | (go_at_call 12; (with_reducible refine (ref_sameT (u3.below b14) u4 dxy dxy (by omega) rfl).mono ?_); rintro _ w15 ⟨rfl, b15⟩; have y0_15 := bb y0_14 b15; have y4_15 := bb y4_14 b15; have y6_15 := bb y6_14 b15)
        | (go_at_call 28; (with_reducible refine (rat_mul (qx.below y0_15) (qy.below y0_15) zx zy (by omega)).mono ?_); rintro _ w16 ⟨rs16, rA16, rn16, rc16, rD16, rm16, rd16, rfl, u5, b16⟩; have y0_16 := bb y0_15 b16; have y4_16 := bb y4_15 b16; have y6_16 := bb y6_15 b16)
        | (go_at_call 29; (with_reducible refine (ref_qmul (qx.below y0_16) (qy.below y0_16) zx zy (by omega)).mono ?_); rintro _ w17 ⟨rs17, rA17, rn17, rc17, rD17, rm17, rd17, rfl, u6, b17⟩; have y0_17 := bb y0_16 b17; have y4_17 := bb y4_16 b17; have y6_17 := bb y6_16 b17)
        | (go_at_call 12; (with_reducible refine (ref_sameT (u5.below b17) u6 wxy wxy (by omega) rfl).mono ?_); rintro _ w18 ⟨rfl, b18⟩; have y0_18 := bb y0_17 b18; have y4_18 := bb y4_17 b18; have y6_18 := bb y6_17 b18))
    obtain ⟨⟨k18_0_0_0, k18_0_0_1, k18_0_0_2⟩, ⟨k18_0_1_0, k18_0_1_1, k18_0_1_2⟩⟩ := HS.out _ y0_18
    obtain ⟨k18_1_0_0, k18_1_0_1, k18_1_0_2⟩ := HQ1.out _ y4_18
    obtain ⟨k18_2_0_0, k18_2_0_1, k18_2_0_2⟩ := HQ2.out _ y6_18
    go_wp2_with fail
    go_region_held3 (fun w' => (w'.cell? ⟨w.heap.size, 0, none⟩ = some (.bool s0) ∧ w'.cell? ⟨w.heap.size, 1, none⟩ = some (.slice a0 len0 cap0) ∧ w'.cell? ⟨w.heap.size, 2, none⟩ = some (.slice e0 lem0 cab0)) ∧ (w'.cell? ⟨w.heap.size + 1, 0, none⟩ = some (.bool s1) ∧ w'.cell? ⟨w.heap.size + 1, 1, none⟩ = some (.slice a1 len1 cap1) ∧ w'.cell? ⟨w.heap.size + 1, 2, none⟩ = some (.slice e1 lem1 cab1)) ∧ (w'.cell? ⟨w3.heap.size, 0, none⟩ = some (.bool false) ∧ w'.cell? ⟨w3.heap.size, 1, none⟩ = some (.slice none 0 0) ∧ w'.cell? ⟨w3.heap.size, 2, none⟩ = some (.slice none 0 0)) ∧ (w'.cell? ⟨w5.heap.size, 0, none⟩ = some (.bool false) ∧ w'.cell? ⟨w5.heap.size, 1, none⟩ = some (.slice none 0 0) ∧ w'.cell? ⟨w5.heap.size, 2, none⟩ = some (.slice none 0 0))) (first | exact ⟨(HS.out _ y0_18.drew).1, (HS.out _ y0_18.drew).2, HQ1.out _ y4_18.drew, HQ2.out _ y6_18.drew⟩ | exact ⟨(HS.out _ y0_26).1, (HS.out _ y0_26).2, HQ1.out _ y4_26, HQ2.out _ y6_26⟩ | exact ⟨(HS.out _ y0_25).1, (HS.out _ y0_25).2, HQ1.out _ y4_25, HQ2.out _ y6_25⟩ | exact ⟨(HS.out _ y0_24).1, (HS.out _ y0_24).2, HQ1.out _ y4_24, HQ2.out _ y6_24⟩ | exact ⟨(HS.out _ y0_23).1, (HS.out _ y0_23).2, HQ1.out _ y4_23, HQ2.out _ y6_23⟩ | exact ⟨(HS.out _ y0_22).1, (HS.out _ y0_22).2, HQ1.out _ y4_22, HQ2.out _ y6_22⟩ | exact ⟨(HS.out _ y0_21).1, (HS.out _ y0_21).2, HQ1.out _ y4_21, HQ2.out _ y6_21⟩ | exact ⟨(HS.out _ y0_20).1, (HS.out _ y0_20).2, HQ1.out _ y4_20, HQ2.out _ y6_20⟩ | exact ⟨(HS.out _ y0_19).1, (HS.out _ y0_19).2, HQ1.out _ y4_19, HQ2.out _ y6_19⟩ | fail)
      (first
        | (go_at_call 30; (with_reducible refine (rat_negE ?hq3 zx (by omega)).mono ?_); (case hq3 => (have hh := (qx.below y0_18); exact hh)); rintro _ w19 ⟨rs19, rA19, rn19, rc19, rD19, rm19, rd19, rfl, u7, b19⟩; have b19 := Below.undrew b19; have y0_19 := bb y0_18 b19; have y4_19 := bb y4_18 b19; have y6_19 := bb y6_18 b19)
        | (go_at_call 31; (with_reducible refine (ref_neg (qx.below y0_19) zx (by omega)).mono ?_); rintro _ w20 ⟨rs20, rA20, rn20, rc20, rD20, rm20, rd20, rfl, u8, b20⟩; have y0_20 := bb y0_19 b20; have y4_20 := bb y4_19 b20; have y6_20 := bb y6_19 b20)
        | (go_at_call 12; (with_reducible refine (ref_sameT (u7.below b20) u8 nx nx (by omega) rfl).mono ?_); rintro _ w21 ⟨rfl, b21⟩; have y0_21 := bb y0_20 b21; have y4_21 := bb y4_20 b21; have y6_21 := bb y6_20 b21)
        | (go_at_call 32; (with_reducible refine (rat_cmpE (qx.below y0_21) (qy.below y0_21) zx zy (by omega) x HEX.out).mono ?_); rintro _ w22 ⟨rfl, b22⟩; have y0_22 := bb y0_21 b22; have y4_22 := bb y4_21 b22; have y6_22 := bb y6_21 b22)
        | (go_at_call 33; (with_reducible refine (ref_cmpE (qx.below y0_22) (qy.below y0_22) zx zy (by omega) x HEX.out).mono ?_); rintro _ w23 ⟨rfl, b23⟩; have y0_23 := bb y0_22 b23; have y4_23 := bb y4_22 b23; have y6_23 := bb y6_22 b23)
        | (go_at_call 34; (with_reducible refine (rat_signE (qx.below y0_23) zx (by omega) sg HES.out).mono ?_); rintro _ w24 ⟨rfl, b24⟩; have y0_24 := bb y0_23 b24; have y4_24 := bb y4_23 b24; have y6_24 := bb y6_23 b24)
        | (go_at_call 35; (with_reducible refine (ref_signE (qx.below y0_24) zx sg HES.out).mono ?_); rintro _ w25 ⟨rfl, b25⟩; have y0_25 := bb y0_24 b25; have y4_25 := bb y4_24 b25; have y6_25 := bb y6_24 b25)
        | (go_at_call 9; (with_reducible refine (same07 _).mono ?_); rintro _ w26 ⟨rfl, b26⟩; have y0_26 := bb y0_25 b26; have y4_26 := bb y4_25 b26; have y6_26 := bb y6_25 b26))
    obtain ⟨⟨k26_0_0_0, k26_0_0_1, k26_0_0_2⟩, ⟨k26_0_1_0, k26_0_1_1, k26_0_1_2⟩⟩ := HS.out _ y0_26
    obtain ⟨k26_1_0_0, k26_1_0_1, k26_1_0_2⟩ := HQ1.out _ y4_26
    obtain ⟨k26_2_0_0, k26_2_0_1, k26_2_0_2⟩ := HQ2.out _ y6_26
    go_wp2_with fail
    go_ret
    exact ⟨rfl, bb hb0 y0_26⟩
  · have HY := Lib.hid h0
    clear h0
    go_enter Try.func4, Try.ntmps4
    go_wp2_with fail
    rw [HV.out]
    clear HV
    have y0_0 : Below V.heap.size V V := Below.refl _ _
    obtain ⟨⟨k0_0_0_0, k0_0_0_1, k0_0_0_2⟩, ⟨k0_0_1_0, k0_0_1_1, k0_0_1_2⟩⟩ := HS.out _ y0_0
    refine (HR0.out _ (bb hb0 y0_0)).mono ?_
    rintro _ w1 ⟨rfl, b1⟩
    have y0_1 := bb y0_0 b1
    clear k0_0_0_0 k0_0_0_1 k0_0_0_2 k0_0_1_0 k0_0_1_1 k0_0_1_2
    obtain ⟨⟨k1_0_0_0, k1_0_0_1, k1_0_0_2⟩, ⟨k1_0_1_0, k1_0_1_1, k1_0_1_2⟩⟩ := HS.out _ y0_1
    go_wp2_with fail
    refine (HR1.out _ (bb hb0 y0_1)).mono ?_
    rintro _ w2 ⟨rfl, b2⟩
    have y0_2 := bb y0_1 b2
    clear k1_0_0_0 k1_0_0_1 k1_0_0_2 k1_0_1_0 k1_0_1_1 k1_0_1_2
    obtain ⟨⟨k2_0_0_0, k2_0_0_1, k2_0_0_2⟩, ⟨k2_0_1_0, k2_0_1_1, k2_0_1_2⟩⟩ := HS.out _ y0_2
    go_wp2_with fail
    refine (rat_div (qx.below y0_2) (qy.below y0_2) zx zy (by omega) HY.out).mono ?_
    rintro _ w3 ⟨rs3, rA3, rn3, rc3, rD3, rm3, rd3, rfl, v1, b3⟩
    have y0_3 := bb y0_2 b3
    clear k2_0_0_0 k2_0_0_1 k2_0_0_2 k2_0_1_0 k2_0_1_1 k2_0_1_2
    obtain ⟨⟨k3_0_0_0, k3_0_0_1, k3_0_0_2⟩, ⟨k3_0_1_0, k3_0_1_1, k3_0_1_2⟩⟩ := HS.out _ y0_3
    have z3_HL := HL.out _ y0_3
    obtain ⟨w4, hV4, B4, b4⟩ := box0 24 w3 #[.bool rs3, .slice rA3 rn3 rc3, .slice rD3 rm3 rd3]
    have HV4 := Lib.hid hV4
    clear hV4
    go_wp2_with fail
    rw [HV4.out]
    clear HV4
    have y0_4 := bb y0_3 b4
    clear z3_HL
    have HQ1 := Lib.hid (fun (w' : World) (hb : Below w4.heap.size w4 w') => (B4.below' hb).three.1)
    have HQ1l := Lib.hid (fun (w' : World) (hb : Below w4.heap.size w4 w') => (B4.below' hb).lt)
    clear B4
    have y4_4 : Below w4.heap.size w4 w4 := Below.refl _ _
    clear k3_0_0_0 k3_0_0_1 k3_0_0_2 k3_0_1_0 k3_0_1_1 k3_0_1_2
    obtain ⟨⟨k4_0_0_0, k4_0_0_1, k4_0_0_2⟩, ⟨k4_0_1_0, k4_0_1_1, k4_0_1_2⟩⟩ := HS.out _ y0_4
    obtain ⟨k4_1_0_0, k4_1_0_1, k4_1_0_2⟩ := HQ1.out _ y4_4
    refine (rat_inv (qy.below y0_4) zy (by omega) HY.out).mono ?_
    rintro _ w5 ⟨rs5, rA5, rn5, rc5, rD5, rm5, rd5, rfl, v2, b5⟩
    have y0_5 := bb y0_4 b5
    have y4_5 := bb y4_4 b5
    clear k4_0_0_0 k4_0_0_1 k4_0_0_2 k4_0_1_0 k4_0_1_1 k4_0_1_2 k4_1_0_0 k4_1_0_1 k4_1_0_2
    obtain ⟨⟨k5_0_0_0, k5_0_0_1, k5_0_0_2⟩, ⟨k5_0_1_0, k5_0_1_1, k5_0_1_2⟩⟩ := HS.out _ y0_5
    obtain ⟨k5_1_0_0, k5_1_0_1, k5_1_0_2⟩ := HQ1.out _ y4_5
    have z5_HL := HL.out _ y0_5
    have z5_HQ1l := HQ1l.out _ y4_5
    obtain ⟨w6, hV6, B6, b6⟩ := box0 24 w5 #[.bool rs5, .slice rA5 rn5 rc5, .slice rD5 rm5 rd5]
    have HV6 := Lib.hid hV6
    clear hV6
    go_wp2_with fail
    rw [HV6.out]
    clear HV6
    have y0_6 := bb y0_5 b6
    have y4_6 := bb y4_5 b6
    clear z5_HL
    clear z5_HQ1l
    have HQ2 := Lib.hid (fun (w' : World) (hb : Below w6.heap.size w6 w') => (B6.below' hb).three.1)
    have HQ2l := Lib.hid (fun (w' : World) (hb : Below w6.heap.size w6 w') => (B6.below' hb).lt)
    clear B6
    have y6_6 : Below w6.heap.size w6 w6 := Below.refl _ _
    clear k5_0_0_0 k5_0_0_1 k5_0_0_2 k5_0_1_0 k5_0_1_1 k5_0_1_2 k5_1_0_0 k5_1_0_1 k5_1_0_2
    obtain ⟨⟨k6_0_0_0, k6_0_0_1, k6_0_0_2⟩, ⟨k6_0_1_0, k6_0_1_1, k6_0_1_2⟩⟩ := HS.out _ y0_6
    obtain ⟨k6_1_0_0, k6_1_0_1, k6_1_0_2⟩ := HQ1.out _ y4_6
    obtain ⟨k6_2_0_0, k6_2_0_1, k6_2_0_2⟩ := HQ2.out _ y6_6
    refine (ref_zeroE (qy.below y0_6) zy false (decide_eq_false HY.out)).mono ?_
    rintro _ w7 ⟨rfl, b7⟩
    have y0_7 := bb y0_6 b7
    have y4_7 := bb y4_6 b7
    have y6_7 := bb y6_6 b7
    clear k6_0_0_0 k6_0_0_1 k6_0_0_2 k6_0_1_0 k6_0_1_1 k6_0_1_2 k6_1_0_0 k6_1_0_1 k6_1_0_2 k6_2_0_0 k6_2_0_1 k6_2_0_2
    obtain ⟨⟨k7_0_0_0, k7_0_0_1, k7_0_0_2⟩, ⟨k7_0_1_0, k7_0_1_1, k7_0_1_2⟩⟩ := HS.out _ y0_7
    obtain ⟨k7_1_0_0, k7_1_0_1, k7_1_0_2⟩ := HQ1.out _ y4_7
    obtain ⟨k7_2_0_0, k7_2_0_1, k7_2_0_2⟩ := HQ2.out _ y6_7
    go_wp2_with fail
    go_region_held3 (fun w' => (w'.cell? ⟨w.heap.size, 0, none⟩ = some (.bool s0) ∧ w'.cell? ⟨w.heap.size, 1, none⟩ = some (.slice a0 len0 cap0) ∧ w'.cell? ⟨w.heap.size, 2, none⟩ = some (.slice e0 lem0 cab0)) ∧ (w'.cell? ⟨w.heap.size + 1, 0, none⟩ = some (.bool s1) ∧ w'.cell? ⟨w.heap.size + 1, 1, none⟩ = some (.slice a1 len1 cap1) ∧ w'.cell? ⟨w.heap.size + 1, 2, none⟩ = some (.slice e1 lem1 cab1)) ∧ (w'.cell? ⟨w3.heap.size, 0, none⟩ = some (.bool rs3) ∧ w'.cell? ⟨w3.heap.size, 1, none⟩ = some (.slice rA3 rn3 rc3) ∧ w'.cell? ⟨w3.heap.size, 2, none⟩ = some (.slice rD3 rm3 rd3)) ∧ (w'.cell? ⟨w5.heap.size, 0, none⟩ = some (.bool rs5) ∧ w'.cell? ⟨w5.heap.size, 1, none⟩ = some (.slice rA5 rn5 rc5) ∧ w'.cell? ⟨w5.heap.size, 2, none⟩ = some (.slice rD5 rm5 rd5))) (first | exact ⟨(HS.out _ y0_7.drew).1, (HS.out _ y0_7.drew).2, HQ1.out _ y4_7.drew, HQ2.out _ y6_7.drew⟩ | exact ⟨(HS.out _ y0_12).1, (HS.out _ y0_12).2, HQ1.out _ y4_12, HQ2.out _ y6_12⟩ | exact ⟨(HS.out _ y0_11).1, (HS.out _ y0_11).2, HQ1.out _ y4_11, HQ2.out _ y6_11⟩ | exact ⟨(HS.out _ y0_10).1, (HS.out _ y0_10).2, HQ1.out _ y4_10, HQ2.out _ y6_10⟩ | exact ⟨(HS.out _ y0_9).1, (HS.out _ y0_9).2, HQ1.out _ y4_9, HQ2.out _ y6_9⟩ | exact ⟨(HS.out _ y0_8).1, (HS.out _ y0_8).2, HQ1.out _ y4_8, HQ2.out _ y6_8⟩ | fail)
      (first
        | (go_at_call 23; (with_reducible refine (ref_qdiv ?hq1 ?hq2 zx zy (by omega) HY.out).mono ?_); (case hq1 => (have hh := (qx.below y0_7); exact hh)); (case hq2 => (have hh := (qy.below y0_7); exact hh)); rintro _ w8 ⟨rs8, rA8, rn8, rc8, rD8, rm8, rd8, rfl, v3, b8⟩; have b8 := Below.undrew b8; have y0_8 := bb y0_7 b8; have y4_8 := bb y4_7 b8; have y6_8 := bb y6_7 b8)
        | (go_at_call 12; (with_reducible refine (ref_sameT (((((v1.below b4).below b5).below b6).below b7).below b8) v3 qxy qxy (by omega) rfl).mono ?_); rintro _ w9 ⟨rfl, b9⟩; have y0_9 := bb y0_8 b9; have y4_9 := bb y4_8 b9; have y6_9 := bb y6_8 b9)
        | (go_at_call 16; (with_reducible refine (HOF.out _).mono ?_); rintro _ w10 ⟨rs10, rA10, rn10, rc10, rD10, rm10, rd10, rfl, v4, b10⟩; have y0_10 := bb y0_9 b10; have y4_10 := bb y4_9 b10; have y6_10 := bb y6_9 b10)
        | (go_at_call 23; (with_reducible refine (ref_qdiv v4 (qy.below y0_10) zO zy (by omega) HY.out).mono ?_); rintro _ w11 ⟨rs11, rA11, rn11, rc11, rD11, rm11, rd11, rfl, v5, b11⟩; have y0_11 := bb y0_10 b11; have y4_11 := bb y4_10 b11; have y6_11 := bb y6_10 b11)
        | (go_at_call 12; (with_reducible refine (ref_sameT ((((((v2.below b6).below b7).below b8).below b9).below b10).below b11) v5 iy siy (by omega) HE1.out.symm).mono ?_); rintro _ w12 ⟨rfl, b12⟩; have y0_12 := bb y0_11 b12; have y4_12 := bb y4_11 b12; have y6_12 := bb y6_11 b12))
    obtain ⟨⟨k12_0_0_0, k12_0_0_1, k12_0_0_2⟩, ⟨k12_0_1_0, k12_0_1_1, k12_0_1_2⟩⟩ := HS.out _ y0_12
    obtain ⟨k12_1_0_0, k12_1_0_1, k12_1_0_2⟩ := HQ1.out _ y4_12
    obtain ⟨k12_2_0_0, k12_2_0_1, k12_2_0_2⟩ := HQ2.out _ y6_12
    go_wp2_with fail
    go_region_held3 (fun w' => (w'.cell? ⟨w.heap.size, 0, none⟩ = some (.bool s0) ∧ w'.cell? ⟨w.heap.size, 1, none⟩ = some (.slice a0 len0 cap0) ∧ w'.cell? ⟨w.heap.size, 2, none⟩ = some (.slice e0 lem0 cab0)) ∧ (w'.cell? ⟨w.heap.size + 1, 0, none⟩ = some (.bool s1) ∧ w'.cell? ⟨w.heap.size + 1, 1, none⟩ = some (.slice a1 len1 cap1) ∧ w'.cell? ⟨w.heap.size + 1, 2, none⟩ = some (.slice e1 lem1 cab1)) ∧ (w'.cell? ⟨w3.heap.size, 0, none⟩ = some (.bool rs3) ∧ w'.cell? ⟨w3.heap.size, 1, none⟩ = some (.slice rA3 rn3 rc3) ∧ w'.cell? ⟨w3.heap.size, 2, none⟩ = some (.slice rD3 rm3 rd3)) ∧ (w'.cell? ⟨w5.heap.size, 0, none⟩ = some (.bool rs5) ∧ w'.cell? ⟨w5.heap.size, 1, none⟩ = some (.slice rA5 rn5 rc5) ∧ w'.cell? ⟨w5.heap.size, 2, none⟩ = some (.slice rD5 rm5 rd5))) (first | exact ⟨(HS.out _ y0_12.drew).1, (HS.out _ y0_12.drew).2, HQ1.out _ y4_12.drew, HQ2.out _ y6_12.drew⟩ | exact ⟨(HS.out _ y0_21).1, (HS.out _ y0_21).2, HQ1.out _ y4_21, HQ2.out _ y6_21⟩ | exact ⟨(HS.out _ y0_20).1, (HS.out _ y0_20).2, HQ1.out _ y4_20, HQ2.out _ y6_20⟩ | exact ⟨(HS.out _ y0_19).1, (HS.out _ y0_19).2, HQ1.out _ y4_19, HQ2.out _ y6_19⟩ | exact ⟨(HS.out _ y0_18).1, (HS.out _ y0_18).2, HQ1.out _ y4_18, HQ2.out _ y6_18⟩ | exact ⟨(HS.out _ y0_17).1, (HS.out _ y0_17).2, HQ1.out _ y4_17, HQ2.out _ y6_17⟩ | exact ⟨(HS.out _ y0_16).1, (HS.out _ y0_16).2, HQ1.out _ y4_16, HQ2.out _ y6_16⟩ | exact ⟨(HS.out _ y0_15).1, (HS.out _ y0_15).2, HQ1.out _ y4_15, HQ2.out _ y6_15⟩ | exact ⟨(HS.out _ y0_14).1, (HS.out _ y0_14).2, HQ1.out _ y4_14, HQ2.out _ y6_14⟩ | exact ⟨(HS.out _ y0_13).1, (HS.out _ y0_13).2, HQ1.out _ y4_13, HQ2.out _ y6_13⟩ | fail)
      (first
        | (go_at_call 24; (with_reducible refine (rat_add ?hq3 ?hq4 zx zy (by omega)).mono ?_); (case hq3 => (have hh := (qx.below y0_12); exact hh)); (case hq4 => (have hh := (qy.below y0_12); exact hh)); rintro _ w13 ⟨rs13, rA13, rn13, rc13, rD13, rm13, rd13, rfl, u1, b13⟩; have b13 := Below.undrew b13; have y0_13 := bb y0_12 b13; have y4_13 := bb y4_12 b13; have y6_13 := bb y6_12 b13)
        | (go_at_call 25; (with_reducible refine (ref_qadd (qx.below y0_13) (qy.below y0_13) zx zy (by omega)).mono ?_); rintro _ w14 ⟨rs14, rA14, rn14, rc14, rD14, rm14, rd14, rfl, u2, b14⟩; have y0_14 := bb y0_13 b14; have y4_14 := bb y4_13 b14; have y6_14 := bb y6_13 b14)
        | (go_at_call 12; (with_reducible refine (ref_sameT (u1.below b14) u2 zxy zxy (by omega) rfl).mono ?_); rintro _ w15 ⟨rfl, b15⟩; have y0_15 := bb y0_14 b15; have y4_15 := bb y4_14 b15; have y6_15 := bb y6_14 b15)
        | (go_at_call 26; (with_reducible refine (rat_sub (qx.below y0_15) (qy.below y0_15) zx zy (by omega)).mono ?_); rintro _ w16 ⟨rs16, rA16, rn16, rc16, rD16, rm16, rd16, rfl, u3, b16⟩; have y0_16 := bb y0_15 b16; have y4_16 := bb y4_15 b16; have y6_16 := bb y6_15 b16)
        | (go_at_call 27; (with_reducible refine (ref_qsub (qx.below y0_16) (qy.below y0_16) zx zy (by omega)).mono ?_); rintro _ w17 ⟨rs17, rA17, rn17, rc17, rD17, rm17, rd17, rfl, u4, b17⟩; have y0_17 := bb y0_16 b17; have y4_17 := bb y4_16 b17; have y6_17 := bb y6_16 b17)
        | (go_at_call 12; (with_reducible refine (ref_sameT (u3.below b17) u4 dxy dxy (by omega) rfl).mono ?_); rintro _ w18 ⟨rfl, b18⟩; have y0_18 := bb y0_17 b18; have y4_18 := bb y4_17 b18; have y6_18 := bb y6_17 b18)
        | (go_at_call 28; (with_reducible refine (rat_mul (qx.below y0_18) (qy.below y0_18) zx zy (by omega)).mono ?_); rintro _ w19 ⟨rs19, rA19, rn19, rc19, rD19, rm19, rd19, rfl, u5, b19⟩; have y0_19 := bb y0_18 b19; have y4_19 := bb y4_18 b19; have y6_19 := bb y6_18 b19)
        | (go_at_call 29; (with_reducible refine (ref_qmul (qx.below y0_19) (qy.below y0_19) zx zy (by omega)).mono ?_); rintro _ w20 ⟨rs20, rA20, rn20, rc20, rD20, rm20, rd20, rfl, u6, b20⟩; have y0_20 := bb y0_19 b20; have y4_20 := bb y4_19 b20; have y6_20 := bb y6_19 b20)
        | (go_at_call 12; (with_reducible refine (ref_sameT (u5.below b20) u6 wxy wxy (by omega) rfl).mono ?_); rintro _ w21 ⟨rfl, b21⟩; have y0_21 := bb y0_20 b21; have y4_21 := bb y4_20 b21; have y6_21 := bb y6_20 b21))
    obtain ⟨⟨k21_0_0_0, k21_0_0_1, k21_0_0_2⟩, ⟨k21_0_1_0, k21_0_1_1, k21_0_1_2⟩⟩ := HS.out _ y0_21
    obtain ⟨k21_1_0_0, k21_1_0_1, k21_1_0_2⟩ := HQ1.out _ y4_21
    obtain ⟨k21_2_0_0, k21_2_0_1, k21_2_0_2⟩ := HQ2.out _ y6_21
    go_wp2_with fail
    go_region_held3 (fun w' => (w'.cell? ⟨w.heap.size, 0, none⟩ = some (.bool s0) ∧ w'.cell? ⟨w.heap.size, 1, none⟩ = some (.slice a0 len0 cap0) ∧ w'.cell? ⟨w.heap.size, 2, none⟩ = some (.slice e0 lem0 cab0)) ∧ (w'.cell? ⟨w.heap.size + 1, 0, none⟩ = some (.bool s1) ∧ w'.cell? ⟨w.heap.size + 1, 1, none⟩ = some (.slice a1 len1 cap1) ∧ w'.cell? ⟨w.heap.size + 1, 2, none⟩ = some (.slice e1 lem1 cab1)) ∧ (w'.cell? ⟨w3.heap.size, 0, none⟩ = some (.bool rs3) ∧ w'.cell? ⟨w3.heap.size, 1, none⟩ = some (.slice rA3 rn3 rc3) ∧ w'.cell? ⟨w3.heap.size, 2, none⟩ = some (.slice rD3 rm3 rd3)) ∧ (w'.cell? ⟨w5.heap.size, 0, none⟩ = some (.bool rs5) ∧ w'.cell? ⟨w5.heap.size, 1, none⟩ = some (.slice rA5 rn5 rc5) ∧ w'.cell? ⟨w5.heap.size, 2, none⟩ = some (.slice rD5 rm5 rd5))) (first | exact ⟨(HS.out _ y0_21.drew).1, (HS.out _ y0_21.drew).2, HQ1.out _ y4_21.drew, HQ2.out _ y6_21.drew⟩ | exact ⟨(HS.out _ y0_29).1, (HS.out _ y0_29).2, HQ1.out _ y4_29, HQ2.out _ y6_29⟩ | exact ⟨(HS.out _ y0_28).1, (HS.out _ y0_28).2, HQ1.out _ y4_28, HQ2.out _ y6_28⟩ | exact ⟨(HS.out _ y0_27).1, (HS.out _ y0_27).2, HQ1.out _ y4_27, HQ2.out _ y6_27⟩ | exact ⟨(HS.out _ y0_26).1, (HS.out _ y0_26).2, HQ1.out _ y4_26, HQ2.out _ y6_26⟩ | exact ⟨(HS.out _ y0_25).1, (HS.out _ y0_25).2, HQ1.out _ y4_25, HQ2.out _ y6_25⟩ | exact ⟨(HS.out _ y0_24).1, (HS.out _ y0_24).2, HQ1.out _ y4_24, HQ2.out _ y6_24⟩ | exact ⟨(HS.out _ y0_23).1, (HS.out _ y0_23).2, HQ1.out _ y4_23, HQ2.out _ y6_23⟩ | exact ⟨(HS.out _ y0_22).1, (HS.out _ y0_22).2, HQ1.out _ y4_22, HQ2.out _ y6_22⟩ | fail)
      (first
        | (go_at_call 30; (with_reducible refine (rat_negE ?hq5 zx (by omega)).mono ?_); (case hq5 => (have hh := (qx.below y0_21); exact hh)); rintro _ w22 ⟨rs22, rA22, rn22, rc22, rD22, rm22, rd22, rfl, u7, b22⟩; have b22 := Below.undrew b22; have y0_22 := bb y0_21 b22; have y4_22 := bb y4_21 b22; have y6_22 := bb y6_21 b22)
        | (go_at_call 31; (with_reducible refine (ref_neg (qx.below y0_22) zx (by omega)).mono ?_); rintro _ w23 ⟨rs23, rA23, rn23, rc23, rD23, rm23, rd23, rfl, u8, b23⟩; have y0_23 := bb y0_22 b23; have y4_23 := bb y4_22 b23; have y6_23 := bb y6_22 b23)
        | (go_at_call 12; (with_reducible refine (ref_sameT (u7.below b23) u8 nx nx (by omega) rfl).mono ?_); rintro _ w24 ⟨rfl, b24⟩; have y0_24 := bb y0_23 b24; have y4_24 := bb y4_23 b24; have y6_24 := bb y6_23 b24)
        | (go_at_call 32; (with_reducible refine (rat_cmpE (qx.below y0_24) (qy.below y0_24) zx zy (by omega) x HEX.out).mono ?_); rintro _ w25 ⟨rfl, b25⟩; have y0_25 := bb y0_24 b25; have y4_25 := bb y4_24 b25; have y6_25 := bb y6_24 b25)
        | (go_at_call 33; (with_reducible refine (ref_cmpE (qx.below y0_25) (qy.below y0_25) zx zy (by omega) x HEX.out).mono ?_); rintro _ w26 ⟨rfl, b26⟩; have y0_26 := bb y0_25 b26; have y4_26 := bb y4_25 b26; have y6_26 := bb y6_25 b26)
        | (go_at_call 34; (with_reducible refine (rat_signE (qx.below y0_26) zx (by omega) sg HES.out).mono ?_); rintro _ w27 ⟨rfl, b27⟩; have y0_27 := bb y0_26 b27; have y4_27 := bb y4_26 b27; have y6_27 := bb y6_26 b27)
        | (go_at_call 35; (with_reducible refine (ref_signE (qx.below y0_27) zx sg HES.out).mono ?_); rintro _ w28 ⟨rfl, b28⟩; have y0_28 := bb y0_27 b28; have y4_28 := bb y4_27 b28; have y6_28 := bb y6_27 b28)
        | (go_at_call 9; (with_reducible refine (same07 _).mono ?_); rintro _ w29 ⟨rfl, b29⟩; have y0_29 := bb y0_28 b29; have y4_29 := bb y4_28 b29; have y6_29 := bb y6_28 b29))
    obtain ⟨⟨k29_0_0_0, k29_0_0_1, k29_0_0_2⟩, ⟨k29_0_1_0, k29_0_1_1, k29_0_1_2⟩⟩ := HS.out _ y0_29
    obtain ⟨k29_1_0_0, k29_1_0_1, k29_1_0_2⟩ := HQ1.out _ y4_29
    obtain ⟨k29_2_0_0, k29_2_0_1, k29_2_0_2⟩ := HQ2.out _ y6_29
    go_wp2_with fail
    go_ret
    exact ⟨rfl, bb hb0 y0_29⟩

set_option maxRecDepth 100000 in
set_option maxHeartbeats 8000000 in
theorem ratTells_walk (s0 : Bool) (a0 : Option Addr) (len0 cap0 : Nat) (z0 : List Int) (e0 : Option Addr) (lem0 cab0 : Nat) (y0 : List Int) (s1 : Bool) (a1 : Option Addr) (len1 cap1 : Nat) (z1 : List Int) (e1 : Option Addr) (lem1 cab1 : Nat) (y1 : List Int) (w : World) (w0 : IsRow .u64 w a0 len0 cap0 z0) (v0 : IsRow .u64 w e0 lem0 cab0 y0) (w1 : IsRow .u64 w a1 len1 cap1 z1) (v1 : IsRow .u64 w e1 lem1 cab1 y1) :
    Calls Try.prog 4 #[.agg #[.bool s0, .slice a0 len0 cap0, .slice e0 lem0 cab0], .agg #[.bool s1, .slice a1 len1 cap1, .slice e1 lem1 cab1]] w fun e w' => e = .returned (.bool true) ∧ Below w.heap.size w w' := by
  obtain ⟨p0, _⟩ := w0.sl
  obtain ⟨r0, _⟩ := v0.sl
  generalize z0.take len0 = xs0 at p0
  generalize y0.take lem0 = ys0 at r0
  obtain ⟨p1, _⟩ := w1.sl
  obtain ⟨r1, _⟩ := v1.sl
  generalize z1.take len1 = xs1 at p1
  generalize y1.take lem1 = ys1 at r1
  obtain ⟨V, hV, B0, B1, hb0⟩ := boxes1 24 w #[.bool s0, .slice a0 len0 cap0, .slice e0 lem0 cab0] #[.bool s1, .slice a1 len1 cap1, .slice e1 lem1 cab1]
  have R0 := fun w1 (hb : Below w.heap.size w w1) => right07 (s := s0) (p0.below hb) (r0.below hb)
  obtain ⟨t0, et0⟩ : ∃ t, (decide (len0 ≤ 6 ∧ lem0 ≤ 6) && rightB s0 xs0 ys0) = t := ⟨_, rfl⟩
  rw [et0] at R0
  have HR0 := Lib.hid R0
  clear R0
  have R1 := fun w1 (hb : Below w.heap.size w w1) => right07 (s := s1) (p1.below hb) (r1.below hb)
  obtain ⟨t1, et1⟩ : ∃ t, (decide (len1 ≤ 6 ∧ lem1 ≤ 6) && rightB s1 xs1 ys1) = t := ⟨_, rfl⟩
  rw [et1] at R1
  have HR1 := Lib.hid R1
  clear R1
  have HV := Lib.hid hV
  clear hV
  cases t0
  · clear et0 et1
    go_enter Try.func4, Try.ntmps4
    go_wp2_with fail
    rw [HV.out]
    clear HV
    refine (HR0.out _ hb0).mono ?_
    rintro _ w90 ⟨rfl, c0⟩
    have x0 := c0
    obtain ⟨⟨k0_0, l0_0, m0_0⟩, _, _, _⟩ := (B0.below' x0).three
    obtain ⟨⟨k0_1, l0_1, m0_1⟩, _, _, _⟩ := (B1.below' x0).three
    go_wp2_with fail
    refine (same07 _).mono ?_
    rintro _ w99 ⟨rfl, c9⟩
    go_wp2_with fail
    go_ret
    exact ⟨rfl, bb (bb hb0 x0) c9⟩
  · skip
    cases t1
    · clear et0 et1
      go_enter Try.func4, Try.ntmps4
      go_wp2_with fail
      rw [HV.out]
      clear HV
      refine (HR0.out _ hb0).mono ?_
      rintro _ w90 ⟨rfl, c0⟩
      have x0 := c0
      obtain ⟨⟨k0_0, l0_0, m0_0⟩, _, _, _⟩ := (B0.below' x0).three
      obtain ⟨⟨k0_1, l0_1, m0_1⟩, _, _, _⟩ := (B1.below' x0).three
      go_wp2_with fail
      refine (HR1.out _ (bb hb0 x0)).mono ?_
      rintro _ w91 ⟨rfl, c1⟩
      have x1 := bb x0 c1
      obtain ⟨⟨k1_0, l1_0, m1_0⟩, _, _, _⟩ := (B0.below' x1).three
      obtain ⟨⟨k1_1, l1_1, m1_1⟩, _, _, _⟩ := (B1.below' x1).three
      go_wp2_with fail
      refine (same07 _).mono ?_
      rintro _ w99 ⟨rfl, c9⟩
      go_wp2_with fail
      go_ret
      exact ⟨rfl, bb (bb hb0 x1) c9⟩
    · obtain ⟨X0, q0, n0⟩ := right07_Q p0 r0 et0
      obtain ⟨X1, q1, n1⟩ := right07_Q p1 r1 et1
      exact ratTells_valid HV.out B0 B1 hb0 (fun w1 hb => HR0.out w1 hb) (fun w1 hb => HR1.out w1 hb) q0 n0 q1 n1

end Go.Proofs.Ytnheefhbchkbdaa
