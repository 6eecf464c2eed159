/-
  The law RatOrder: numbers stand in one order, which sums keep, and products with what is above 0.
-/
import Derived.Test.YtnheefhbchkbdaaRatLaws
namespace Go.Proofs.Ytnheefhbchkbdaa
open Go.RowKit
set_option linter.unusedVariables false
set_option linter.unusedSimpArgs false

set_option maxRecDepth 100000 in
set_option maxHeartbeats 8000000 in
theorem ratOrder_valid {w V : World} {s0 : Bool} {a0 e0 : Option Addr} {len0 cap0 lem0 cab0 : Nat} {X : Rat} {s1 : Bool} {a1 e1 : Option Addr} {len1 cap1 lem1 cab1 : Nat} {Y : Rat} {s2 : Bool} {a2 e2 : Option Addr} {len2 cap2 lem2 cab2 : Nat} {Z : Rat} (hV : ((w.alloc (.cells #[.bool s0, .slice a0 len0 cap0, .slice e0 lem0 cab0] 24)).alloc (.cells #[.bool s1, .slice a1 len1 cap1, .slice e1 lem1 cab1] 24)).alloc (.cells #[.bool s2, .slice a2 len2 cap2, .slice e2 lem2 cab2] 24) = V) (B0 : Box 24 V (w.heap.size) #[.bool s0, .slice a0 len0 cap0, .slice e0 lem0 cab0]) (B1 : Box 24 V (w.heap.size + 1) #[.bool s1, .slice a1 len1 cap1, .slice e1 lem1 cab1]) (B2 : Box 24 V (w.heap.size + 1 + 1) #[.bool s2, .slice a2 len2 cap2, .slice e2 lem2 cab2]) (hb0 : Below w.heap.size w V) (R0 : ∀ w1, Below w.heap.size w w1 → Calls Try.prog 19 #[.agg #[.bool s0, .slice a0 len0 cap0, .slice e0 lem0 cab0]] w1 (RetBl true w1)) (R1 : ∀ w1, Below w.heap.size w w1 → Calls Try.prog 19 #[.agg #[.bool s1, .slice a1 len1 cap1, .slice e1 lem1 cab1]] w1 (RetBl true w1)) (R2 : ∀ w1, Below w.heap.size w w1 → Calls Try.prog 19 #[.agg #[.bool s2, .slice a2 len2 cap2, .slice e2 lem2 cab2]] w1 (RetBl true w1)) (g0 : Q w s0 a0 len0 cap0 e0 lem0 cab0 X) (n0 : Sz X 6) (g1 : Q w s1 a1 len1 cap1 e1 lem1 cab1 Y) (n1 : Sz Y 6) (g2 : Q w s2 a2 len2 cap2 e2 lem2 cab2 Z) (n2 : Sz Z 6) :
    Calls Try.prog 6 #[.agg #[.bool s0, .slice a0 len0 cap0, .slice e0 lem0 cab0], .agg #[.bool s1, .slice a1 len1 cap1, .slice e1 lem1 cab1], .agg #[.bool s2, .slice a2 len2 cap2, .slice e2 lem2 cab2]] w fun e w' => e = .returned (.bool true) ∧ Below w.heap.size w w' := by
  have qx := g0.below hb0
  have zx : Sz X 100 := n0.mono (by omega)
  have qy := g1.below hb0
  have zy : Sz Y 100 := n1.mono (by omega)
  have qz := g2.below hb0
  have zz : Sz Z 100 := n2.mono (by omega)
  have HS := Lib.hid (fun (w' : World) (hb : Below V.heap.size V w') => (⟨(B0.below' hb).three.1, (B1.below' hb).three.1, (B2.below' hb).three.1⟩ : (w'.cell? ⟨w.heap.size, 0, none⟩ = some (.bool s0) ∧ w'.cell? ⟨w.heap.size, 1, none⟩ = some (.slice a0 len0 cap0) ∧ w'.cell? ⟨w.heap.size, 2, none⟩ = some (.slice e0 lem0 cab0)) ∧ (w'.cell? ⟨w.heap.size + 1, 0, none⟩ = some (.bool s1) ∧ w'.cell? ⟨w.heap.size + 1, 1, none⟩ = some (.slice a1 len1 cap1) ∧ w'.cell? ⟨w.heap.size + 1, 2, none⟩ = some (.slice e1 lem1 cab1)) ∧ (w'.cell? ⟨w.heap.size + 1 + 1, 0, none⟩ = some (.bool s2) ∧ w'.cell? ⟨w.heap.size + 1 + 1, 1, none⟩ = some (.slice a2 len2 cap2) ∧ w'.cell? ⟨w.heap.size + 1 + 1, 2, none⟩ = some (.slice e2 lem2 cab2))))
  have HL := Lib.hid (fun (w' : World) (hb : Below V.heap.size V w') => (⟨(B0.below' hb).lt, (B1.below' hb).lt, (B2.below' hb).lt⟩ : w.heap.size < w'.heap.size ∧ w.heap.size + 1 < w'.heap.size ∧ w.heap.size + 1 + 1 < w'.heap.size))
  have HR0 := Lib.hid R0
  have HR1 := Lib.hid R1
  have HR2 := Lib.hid R2
  have HV := Lib.hid hV
  clear hV B0 R0 g0 B1 R1 g1 B2 R2 g2
  obtain ⟨x, ex⟩ : ∃ x, cmpQ X Y = x := ⟨_, rfl⟩
  have exf : cmpQ Y X = -x := by rw [cmpQ_flip, ex]
  have xr := cmpQ_range X Y
  rw [ex] at xr
  have ez : decide (X = Y) = decide (x = 0) := by rw [Bool.eq_iff_iff]; simp only [decide_eq_true_eq]; rw [← ex]; exact (cmpQ_zero X Y).symm
  have zxz := (n0.add n2).mono (show 6 + 6 + 1 ≤ 100 by omega)
  have zyz := (n1.add n2).mono (show 6 + 6 + 1 ≤ 100 by omega)
  have wxz := (n0.mul n2).mono (show 6 + 6 ≤ 100 by omega)
  have wyz := (n1.mul n2).mono (show 6 + 6 ≤ 100 by omega)
  obtain ⟨y, ey⟩ : ∃ y, cmpQ Y Z = y := ⟨_, rfl⟩
  obtain ⟨v, ev⟩ : ∃ v, cmpQ X Z = v := ⟨_, rfl⟩
  obtain ⟨sg, es⟩ : ∃ sg, sgnQ Z = sg := ⟨_, rfl⟩
  have htr : x ≤ 0 → y ≤ 0 → v ≤ 0 := by rw [← ex, ← ey, ← ev]; exact cmpQ_trans
  have hmul : 0 < sg → cmpQ (X * Z) (Y * Z) = x := by
    intro hp
    rw [← es] at hp
    rw [cmpQ_mul X Y Z ((sgnQ_pos Z).1 hp), ex]
  have hadd : cmpQ (X + Z) (Y + Z) = x := by rw [cmpQ_add, ex]
  have ew : IntKind.i64.wrap (0 - -x) = x := by rw [IntWalk.i64_in _ (by omega)]; omega
  have ew2 : IntKind.i64.wrap (0 + x) = x := by rw [IntWalk.i64_in _ (by omega)]; omega
  have HEX := Lib.hid ex
  have HEXF := Lib.hid exf
  have HEZ := Lib.hid ez
  have HEY := Lib.hid ey
  have HEV := Lib.hid ev
  have HES := Lib.hid es
  have HMU := Lib.hid hmul
  have HAD := Lib.hid hadd
  clear ex exf ez ey ev es hmul hadd
  have sr := sgnQ_range Z
  rw [HES.out] at sr
  have sc : sg = 1 ∨ sg = 0 ∨ sg = -1 := by omega
  clear sr
  rcases sc with rfl | rfl | rfl
  · have hp : (0 : Int) < 1 := by omega
    by_cases hx : x ≤ 0
    · by_cases hy : y ≤ 0
      · have hv : ¬ 0 < v := by have := htr hx hy; omega
        have hv2 : decide (0 < v) = false := decide_eq_false hv
        have hx2 : decide (x ≤ 0) = true := decide_eq_true hx
        have hy2 : decide (y ≤ 0) = true := decide_eq_true hy
        clear htr
        go_enter Try.func6, Try.ntmps6
        go_wp2_with fail
        rw [HV.out]
        clear HV
        have y0_0 : Below V.heap.size V V := Below.refl _ _
        obtain ⟨⟨k0_0_0_0, k0_0_0_1, k0_0_0_2⟩, ⟨k0_0_1_0, k0_0_1_1, k0_0_1_2⟩, ⟨k0_0_2_0, k0_0_2_1, k0_0_2_2⟩⟩ := HS.out _ y0_0
        refine (HR0.out _ (bb hb0 y0_0)).mono ?_
        rintro _ w1 ⟨rfl, b1⟩
        have y0_1 := bb y0_0 b1
        clear k0_0_0_0 k0_0_0_1 k0_0_0_2 k0_0_1_0 k0_0_1_1 k0_0_1_2 k0_0_2_0 k0_0_2_1 k0_0_2_2
        obtain ⟨⟨k1_0_0_0, k1_0_0_1, k1_0_0_2⟩, ⟨k1_0_1_0, k1_0_1_1, k1_0_1_2⟩, ⟨k1_0_2_0, k1_0_2_1, k1_0_2_2⟩⟩ := HS.out _ y0_1
        go_wp2_with fail
        refine (HR1.out _ (bb hb0 y0_1)).mono ?_
        rintro _ w2 ⟨rfl, b2⟩
        have y0_2 := bb y0_1 b2
        clear k1_0_0_0 k1_0_0_1 k1_0_0_2 k1_0_1_0 k1_0_1_1 k1_0_1_2 k1_0_2_0 k1_0_2_1 k1_0_2_2
        obtain ⟨⟨k2_0_0_0, k2_0_0_1, k2_0_0_2⟩, ⟨k2_0_1_0, k2_0_1_1, k2_0_1_2⟩, ⟨k2_0_2_0, k2_0_2_1, k2_0_2_2⟩⟩ := HS.out _ y0_2
        go_wp2_with fail
        refine (HR2.out _ (bb hb0 y0_2)).mono ?_
        rintro _ w3 ⟨rfl, b3⟩
        have y0_3 := bb y0_2 b3
        clear k2_0_0_0 k2_0_0_1 k2_0_0_2 k2_0_1_0 k2_0_1_1 k2_0_1_2 k2_0_2_0 k2_0_2_1 k2_0_2_2
        obtain ⟨⟨k3_0_0_0, k3_0_0_1, k3_0_0_2⟩, ⟨k3_0_1_0, k3_0_1_1, k3_0_1_2⟩, ⟨k3_0_2_0, k3_0_2_1, k3_0_2_2⟩⟩ := HS.out _ y0_3
        go_wp2_with fail
        refine (rat_cmpE (qx.below y0_3) (qy.below y0_3) zx zy (by omega) x HEX.out).mono ?_
        rintro _ w4 ⟨rfl, b4⟩
        have y0_4 := bb y0_3 b4
        clear k3_0_0_0 k3_0_0_1 k3_0_0_2 k3_0_1_0 k3_0_1_1 k3_0_1_2 k3_0_2_0 k3_0_2_1 k3_0_2_2
        obtain ⟨⟨k4_0_0_0, k4_0_0_1, k4_0_0_2⟩, ⟨k4_0_1_0, k4_0_1_1, k4_0_1_2⟩, ⟨k4_0_2_0, k4_0_2_1, k4_0_2_2⟩⟩ := HS.out _ y0_4
        go_wp2_with fail
        refine (rat_cmpE (qy.below y0_4) (qx.below y0_4) zy zx (by omega) (-x) HEXF.out).mono ?_
        rintro _ w5 ⟨rfl, b5⟩
        have y0_5 := bb y0_4 b5
        clear k4_0_0_0 k4_0_0_1 k4_0_0_2 k4_0_1_0 k4_0_1_1 k4_0_1_2 k4_0_2_0 k4_0_2_1 k4_0_2_2
        obtain ⟨⟨k5_0_0_0, k5_0_0_1, k5_0_0_2⟩, ⟨k5_0_1_0, k5_0_1_1, k5_0_1_2⟩, ⟨k5_0_2_0, k5_0_2_1, k5_0_2_2⟩⟩ := HS.out _ y0_5
        go_wp2_with fail
        refine (rat_sameE (qx.below y0_5) (qy.below y0_5) zx zy (by omega) (decide (x = 0)) HEZ.out).mono ?_
        rintro _ w6 ⟨rfl, b6⟩
        have y0_6 := bb y0_5 b6
        clear k5_0_0_0 k5_0_0_1 k5_0_0_2 k5_0_1_0 k5_0_1_1 k5_0_1_2 k5_0_2_0 k5_0_2_1 k5_0_2_2
        obtain ⟨⟨k6_0_0_0, k6_0_0_1, k6_0_0_2⟩, ⟨k6_0_1_0, k6_0_1_1, k6_0_1_2⟩, ⟨k6_0_2_0, k6_0_2_1, k6_0_2_2⟩⟩ := HS.out _ y0_6
        go_wp2_with fail
        refine (rat_cmpE (qy.below y0_6) (qz.below y0_6) zy zz (by omega) y HEY.out).mono ?_
        rintro _ w7 ⟨rfl, b7⟩
        have y0_7 := bb y0_6 b7
        clear k6_0_0_0 k6_0_0_1 k6_0_0_2 k6_0_1_0 k6_0_1_1 k6_0_1_2 k6_0_2_0 k6_0_2_1 k6_0_2_2
        obtain ⟨⟨k7_0_0_0, k7_0_0_1, k7_0_0_2⟩, ⟨k7_0_1_0, k7_0_1_1, k7_0_1_2⟩, ⟨k7_0_2_0, k7_0_2_1, k7_0_2_2⟩⟩ := HS.out _ y0_7
        go_wp2_with fail
        refine (rat_cmpE (qx.below y0_7) (qz.below y0_7) zx zz (by omega) v HEV.out).mono ?_
        rintro _ w8 ⟨rfl, b8⟩
        have y0_8 := bb y0_7 b8
        clear k7_0_0_0 k7_0_0_1 k7_0_0_2 k7_0_1_0 k7_0_1_1 k7_0_1_2 k7_0_2_0 k7_0_2_1 k7_0_2_2
        obtain ⟨⟨k8_0_0_0, k8_0_0_1, k8_0_0_2⟩, ⟨k8_0_1_0, k8_0_1_1, k8_0_1_2⟩, ⟨k8_0_2_0, k8_0_2_1, k8_0_2_2⟩⟩ := HS.out _ y0_8
        go_wp2_with fail
        go_region_held3 (fun w' => (w'.cell? ⟨w.heap.size, 0, none⟩ = some (.bool s0) ∧ w'.cell? ⟨w.heap.size, 1, none⟩ = some (.slice a0 len0 cap0) ∧ w'.cell? ⟨w.heap.size, 2, none⟩ = some (.slice e0 lem0 cab0)) ∧ (w'.cell? ⟨w.heap.size + 1, 0, none⟩ = some (.bool s1) ∧ w'.cell? ⟨w.heap.size + 1, 1, none⟩ = some (.slice a1 len1 cap1) ∧ w'.cell? ⟨w.heap.size + 1, 2, none⟩ = some (.slice e1 lem1 cab1)) ∧ (w'.cell? ⟨w.heap.size + 1 + 1, 0, none⟩ = some (.bool s2) ∧ w'.cell? ⟨w.heap.size + 1 + 1, 1, none⟩ = some (.slice a2 len2 cap2) ∧ w'.cell? ⟨w.heap.size + 1 + 1, 2, none⟩ = some (.slice e2 lem2 cab2))) (first | exact HS.out _ y0_8.drew | exact HS.out _ y0_11 | exact HS.out _ y0_10 | exact HS.out _ y0_9 | fail)
          (first
            | (go_at_call 24; (with_reducible refine (rat_add ?hq1 ?hq2 zx zz (by omega)).mono ?_); (case hq1 => (have hh := (qx.below y0_8); exact hh)); (case hq2 => (have hh := (qz.below y0_8); exact hh)); rintro _ w9 ⟨rs9, rA9, rn9, rc9, rD9, rm9, rd9, rfl, u1, b9⟩; have b9 := Below.undrew b9; have y0_9 := bb y0_8 b9)
            | (go_at_call 24; (with_reducible refine (rat_add (qy.below y0_9) (qz.below y0_9) zy zz (by omega)).mono ?_); rintro _ w10 ⟨rs10, rA10, rn10, rc10, rD10, rm10, rd10, rfl, u2, b10⟩; have y0_10 := bb y0_9 b10)
            | (go_at_call 32; (with_reducible refine (rat_cmpE (u1.below b10) u2 zxz zyz (by omega) x HAD.out).mono ?_); rintro _ w11 ⟨rfl, b11⟩; have y0_11 := bb y0_10 b11))
        obtain ⟨⟨k11_0_0_0, k11_0_0_1, k11_0_0_2⟩, ⟨k11_0_1_0, k11_0_1_1, k11_0_1_2⟩, ⟨k11_0_2_0, k11_0_2_1, k11_0_2_2⟩⟩ := HS.out _ y0_11
        go_wp2_with fail
        go_region_held3 (fun w' => (w'.cell? ⟨w.heap.size, 0, none⟩ = some (.bool s0) ∧ w'.cell? ⟨w.heap.size, 1, none⟩ = some (.slice a0 len0 cap0) ∧ w'.cell? ⟨w.heap.size, 2, none⟩ = some (.slice e0 lem0 cab0)) ∧ (w'.cell? ⟨w.heap.size + 1, 0, none⟩ = some (.bool s1) ∧ w'.cell? ⟨w.heap.size + 1, 1, none⟩ = some (.slice a1 len1 cap1) ∧ w'.cell? ⟨w.heap.size + 1, 2, none⟩ = some (.slice e1 lem1 cab1)) ∧ (w'.cell? ⟨w.heap.size + 1 + 1, 0, none⟩ = some (.bool s2) ∧ w'.cell? ⟨w.heap.size + 1 + 1, 1, none⟩ = some (.slice a2 len2 cap2) ∧ w'.cell? ⟨w.heap.size + 1 + 1, 2, none⟩ = some (.slice e2 lem2 cab2))) (first | exact HS.out _ y0_11.drew | exact HS.out _ y0_16 | exact HS.out _ y0_15 | exact HS.out _ y0_14 | exact HS.out _ y0_13 | exact HS.out _ y0_12 | fail)
          (first
            | (go_at_call 34; (with_reducible refine (rat_signE ?hq3 zz (by omega) _ HES.out).mono ?_); (case hq3 => (have hh := (qz.below y0_11); exact hh)); rintro _ w12 ⟨rfl, b12⟩; have b12 := Below.undrew b12; have y0_12 := bb y0_11 b12)
            | (go_at_call 28; (with_reducible refine (rat_mul (qx.below y0_12) (qz.below y0_12) zx zz (by omega)).mono ?_); rintro _ w13 ⟨rs13, rA13, rn13, rc13, rD13, rm13, rd13, rfl, u3, b13⟩; have y0_13 := bb y0_12 b13)
            | (go_at_call 28; (with_reducible refine (rat_mul (qy.below y0_13) (qz.below y0_13) zy zz (by omega)).mono ?_); rintro _ w14 ⟨rs14, rA14, rn14, rc14, rD14, rm14, rd14, rfl, u4, b14⟩; have y0_14 := bb y0_13 b14)
            | (go_at_call 32; (with_reducible refine (rat_cmpE (u3.below b14) u4 wxz wyz (by omega) x (HMU.out hp)).mono ?_); rintro _ w15 ⟨rfl, b15⟩; have y0_15 := bb y0_14 b15)
            | (go_at_call 9; (with_reducible refine (same07 _).mono ?_); rintro _ w16 ⟨rfl, b16⟩; have y0_16 := bb y0_15 b16))
        obtain ⟨⟨k16_0_0_0, k16_0_0_1, k16_0_0_2⟩, ⟨k16_0_1_0, k16_0_1_1, k16_0_1_2⟩, ⟨k16_0_2_0, k16_0_2_1, k16_0_2_2⟩⟩ := HS.out _ y0_16
        go_wp2_with fail
        go_ret
        exact ⟨rfl, bb hb0 y0_16⟩
      · have hy2 : decide (y ≤ 0) = false := decide_eq_false hy
        have hx2 : decide (x ≤ 0) = true := decide_eq_true hx
        clear htr
        go_enter Try.func6, Try.ntmps6
        go_wp2_with fail
        rw [HV.out]
        clear HV
        have y0_0 : Below V.heap.size V V := Below.refl _ _
        obtain ⟨⟨k0_0_0_0, k0_0_0_1, k0_0_0_2⟩, ⟨k0_0_1_0, k0_0_1_1, k0_0_1_2⟩, ⟨k0_0_2_0, k0_0_2_1, k0_0_2_2⟩⟩ := HS.out _ y0_0
        refine (HR0.out _ (bb hb0 y0_0)).mono ?_
        rintro _ w1 ⟨rfl, b1⟩
        have y0_1 := bb y0_0 b1
        clear k0_0_0_0 k0_0_0_1 k0_0_0_2 k0_0_1_0 k0_0_1_1 k0_0_1_2 k0_0_2_0 k0_0_2_1 k0_0_2_2
        obtain ⟨⟨k1_0_0_0, k1_0_0_1, k1_0_0_2⟩, ⟨k1_0_1_0, k1_0_1_1, k1_0_1_2⟩, ⟨k1_0_2_0, k1_0_2_1, k1_0_2_2⟩⟩ := HS.out _ y0_1
        go_wp2_with fail
        refine (HR1.out _ (bb hb0 y0_1)).mono ?_
        rintro _ w2 ⟨rfl, b2⟩
        have y0_2 := bb y0_1 b2
        clear k1_0_0_0 k1_0_0_1 k1_0_0_2 k1_0_1_0 k1_0_1_1 k1_0_1_2 k1_0_2_0 k1_0_2_1 k1_0_2_2
        obtain ⟨⟨k2_0_0_0, k2_0_0_1, k2_0_0_2⟩, ⟨k2_0_1_0, k2_0_1_1, k2_0_1_2⟩, ⟨k2_0_2_0, k2_0_2_1, k2_0_2_2⟩⟩ := HS.out _ y0_2
        go_wp2_with fail
        refine (HR2.out _ (bb hb0 y0_2)).mono ?_
        rintro _ w3 ⟨rfl, b3⟩
        have y0_3 := bb y0_2 b3
        clear k2_0_0_0 k2_0_0_1 k2_0_0_2 k2_0_1_0 k2_0_1_1 k2_0_1_2 k2_0_2_0 k2_0_2_1 k2_0_2_2
        obtain ⟨⟨k3_0_0_0, k3_0_0_1, k3_0_0_2⟩, ⟨k3_0_1_0, k3_0_1_1, k3_0_1_2⟩, ⟨k3_0_2_0, k3_0_2_1, k3_0_2_2⟩⟩ := HS.out _ y0_3
        go_wp2_with fail
        refine (rat_cmpE (qx.below y0_3) (qy.below y0_3) zx zy (by omega) x HEX.out).mono ?_
        rintro _ w4 ⟨rfl, b4⟩
        have y0_4 := bb y0_3 b4
        clear k3_0_0_0 k3_0_0_1 k3_0_0_2 k3_0_1_0 k3_0_1_1 k3_0_1_2 k3_0_2_0 k3_0_2_1 k3_0_2_2
        obtain ⟨⟨k4_0_0_0, k4_0_0_1, k4_0_0_2⟩, ⟨k4_0_1_0, k4_0_1_1, k4_0_1_2⟩, ⟨k4_0_2_0, k4_0_2_1, k4_0_2_2⟩⟩ := HS.out _ y0_4
        go_wp2_with fail
        refine (rat_cmpE (qy.below y0_4) (qx.below y0_4) zy zx (by omega) (-x) HEXF.out).mono ?_
        rintro _ w5 ⟨rfl, b5⟩
        have y0_5 := bb y0_4 b5
        clear k4_0_0_0 k4_0_0_1 k4_0_0_2 k4_0_1_0 k4_0_1_1 k4_0_1_2 k4_0_2_0 k4_0_2_1 k4_0_2_2
        obtain ⟨⟨k5_0_0_0, k5_0_0_1, k5_0_0_2⟩, ⟨k5_0_1_0, k5_0_1_1, k5_0_1_2⟩, ⟨k5_0_2_0, k5_0_2_1, k5_0_2_2⟩⟩ := HS.out _ y0_5
        go_wp2_with fail
        refine (rat_sameE (qx.below y0_5) (qy.below y0_5) zx zy (by omega) (decide (x = 0)) HEZ.out).mono ?_
        rintro _ w6 ⟨rfl, b6⟩
        have y0_6 := bb y0_5 b6
        clear k5_0_0_0 k5_0_0_1 k5_0_0_2 k5_0_1_0 k5_0_1_1 k5_0_1_2 k5_0_2_0 k5_0_2_1 k5_0_2_2
        obtain ⟨⟨k6_0_0_0, k6_0_0_1, k6_0_0_2⟩, ⟨k6_0_1_0, k6_0_1_1, k6_0_1_2⟩, ⟨k6_0_2_0, k6_0_2_1, k6_0_2_2⟩⟩ := HS.out _ y0_6
        go_wp2_with fail
        refine (rat_cmpE (qy.below y0_6) (qz.below y0_6) zy zz (by omega) y HEY.out).mono ?_
        rintro _ w7 ⟨rfl, b7⟩
        have y0_7 := bb y0_6 b7
        clear k6_0_0_0 k6_0_0_1 k6_0_0_2 k6_0_1_0 k6_0_1_1 k6_0_1_2 k6_0_2_0 k6_0_2_1 k6_0_2_2
        obtain ⟨⟨k7_0_0_0, k7_0_0_1, k7_0_0_2⟩, ⟨k7_0_1_0, k7_0_1_1, k7_0_1_2⟩, ⟨k7_0_2_0, k7_0_2_1, k7_0_2_2⟩⟩ := HS.out _ y0_7
        go_wp2_with fail
        go_region_held3 (fun w' => (w'.cell? ⟨w.heap.size, 0, none⟩ = some (.bool s0) ∧ w'.cell? ⟨w.heap.size, 1, none⟩ = some (.slice a0 len0 cap0) ∧ w'.cell? ⟨w.heap.size, 2, none⟩ = some (.slice e0 lem0 cab0)) ∧ (w'.cell? ⟨w.heap.size + 1, 0, none⟩ = some (.bool s1) ∧ w'.cell? ⟨w.heap.size + 1, 1, none⟩ = some (.slice a1 len1 cap1) ∧ w'.cell? ⟨w.heap.size + 1, 2, none⟩ = some (.slice e1 lem1 cab1)) ∧ (w'.cell? ⟨w.heap.size + 1 + 1, 0, none⟩ = some (.bool s2) ∧ w'.cell? ⟨w.heap.size + 1 + 1, 1, none⟩ = some (.slice a2 len2 cap2) ∧ w'.cell? ⟨w.heap.size + 1 + 1, 2, none⟩ = some (.slice e2 lem2 cab2))) (first | exact HS.out _ y0_7.drew | exact HS.out _ y0_10 | exact HS.out _ y0_9 | exact HS.out _ y0_8 | fail)
          (first
            | (go_at_call 24; (with_reducible refine (rat_add ?hq1 ?hq2 zx zz (by omega)).mono ?_); (case hq1 => (have hh := (qx.below y0_7); exact hh)); (case hq2 => (have hh := (qz.below y0_7); exact hh)); rintro _ w8 ⟨rs8, rA8, rn8, rc8, rD8, rm8, rd8, rfl, u1, b8⟩; have b8 := Below.undrew b8; have y0_8 := bb y0_7 b8)
            | (go_at_call 24; (with_reducible refine (rat_add (qy.below y0_8) (qz.below y0_8) zy zz (by omega)).mono ?_); rintro _ w9 ⟨rs9, rA9, rn9, rc9, rD9, rm9, rd9, rfl, u2, b9⟩; have y0_9 := bb y0_8 b9)
            | (go_at_call 32; (with_reducible refine (rat_cmpE (u1.below b9) u2 zxz zyz (by omega) x HAD.out).mono ?_); rintro _ w10 ⟨rfl, b10⟩; have y0_10 := bb y0_9 b10))
        obtain ⟨⟨k10_0_0_0, k10_0_0_1, k10_0_0_2⟩, ⟨k10_0_1_0, k10_0_1_1, k10_0_1_2⟩, ⟨k10_0_2_0, k10_0_2_1, k10_0_2_2⟩⟩ := HS.out _ y0_10
        go_wp2_with fail
        go_region_held3 (fun w' => (w'.cell? ⟨w.heap.size, 0, none⟩ = some (.bool s0) ∧ w'.cell? ⟨w.heap.size, 1, none⟩ = some (.slice a0 len0 cap0) ∧ w'.cell? ⟨w.heap.size, 2, none⟩ = some (.slice e0 lem0 cab0)) ∧ (w'.cell? ⟨w.heap.size + 1, 0, none⟩ = some (.bool s1) ∧ w'.cell? ⟨w.heap.size + 1, 1, none⟩ = some (.slice a1 len1 cap1) ∧ w'.cell? ⟨w.heap.size + 1, 2, none⟩ = some (.slice e1 lem1 cab1)) ∧ (w'.cell? ⟨w.heap.size + 1 + 1, 0, none⟩ = some (.bool s2) ∧ w'.cell? ⟨w.heap.size + 1 + 1, 1, none⟩ = some (.slice a2 len2 cap2) ∧ w'.cell? ⟨w.heap.size + 1 + 1, 2, none⟩ = some (.slice e2 lem2 cab2))) (first | exact HS.out _ y0_10.drew | exact HS.out _ y0_15 | exact HS.out _ y0_14 | exact HS.out _ y0_13 | exact HS.out _ y0_12 | exact HS.out _ y0_11 | fail)
          (first
            | (go_at_call 34; (with_reducible refine (rat_signE ?hq3 zz (by omega) _ HES.out).mono ?_); (case hq3 => (have hh := (qz.below y0_10); exact hh)); rintro _ w11 ⟨rfl, b11⟩; have b11 := Below.undrew b11; have y0_11 := bb y0_10 b11)
            | (go_at_call 28; (with_reducible refine (rat_mul (qx.below y0_11) (qz.below y0_11) zx zz (by omega)).mono ?_); rintro _ w12 ⟨rs12, rA12, rn12, rc12, rD12, rm12, rd12, rfl, u3, b12⟩; have y0_12 := bb y0_11 b12)
            | (go_at_call 28; (with_reducible refine (rat_mul (qy.below y0_12) (qz.below y0_12) zy zz (by omega)).mono ?_); rintro _ w13 ⟨rs13, rA13, rn13, rc13, rD13, rm13, rd13, rfl, u4, b13⟩; have y0_13 := bb y0_12 b13)
            | (go_at_call 32; (with_reducible refine (rat_cmpE (u3.below b13) u4 wxz wyz (by omega) x (HMU.out hp)).mono ?_); rintro _ w14 ⟨rfl, b14⟩; have y0_14 := bb y0_13 b14)
            | (go_at_call 9; (with_reducible refine (same07 _).mono ?_); rintro _ w15 ⟨rfl, b15⟩; have y0_15 := bb y0_14 b15))
        obtain ⟨⟨k15_0_0_0, k15_0_0_1, k15_0_0_2⟩, ⟨k15_0_1_0, k15_0_1_1, k15_0_1_2⟩, ⟨k15_0_2_0, k15_0_2_1, k15_0_2_2⟩⟩ := HS.out _ y0_15
        go_wp2_with fail
        go_ret
        exact ⟨rfl, bb hb0 y0_15⟩
    · have hx2 : decide (x ≤ 0) = false := decide_eq_false hx
      clear htr
      go_enter Try.func6, Try.ntmps6
      go_wp2_with fail
      rw [HV.out]
      clear HV
      have y0_0 : Below V.heap.size V V := Below.refl _ _
      obtain ⟨⟨k0_0_0_0, k0_0_0_1, k0_0_0_2⟩, ⟨k0_0_1_0, k0_0_1_1, k0_0_1_2⟩, ⟨k0_0_2_0, k0_0_2_1, k0_0_2_2⟩⟩ := HS.out _ y0_0
      refine (HR0.out _ (bb hb0 y0_0)).mono ?_
      rintro _ w1 ⟨rfl, b1⟩
      have y0_1 := bb y0_0 b1
      clear k0_0_0_0 k0_0_0_1 k0_0_0_2 k0_0_1_0 k0_0_1_1 k0_0_1_2 k0_0_2_0 k0_0_2_1 k0_0_2_2
      obtain ⟨⟨k1_0_0_0, k1_0_0_1, k1_0_0_2⟩, ⟨k1_0_1_0, k1_0_1_1, k1_0_1_2⟩, ⟨k1_0_2_0, k1_0_2_1, k1_0_2_2⟩⟩ := HS.out _ y0_1
      go_wp2_with fail
      refine (HR1.out _ (bb hb0 y0_1)).mono ?_
      rintro _ w2 ⟨rfl, b2⟩
      have y0_2 := bb y0_1 b2
      clear k1_0_0_0 k1_0_0_1 k1_0_0_2 k1_0_1_0 k1_0_1_1 k1_0_1_2 k1_0_2_0 k1_0_2_1 k1_0_2_2
      obtain ⟨⟨k2_0_0_0, k2_0_0_1, k2_0_0_2⟩, ⟨k2_0_1_0, k2_0_1_1, k2_0_1_2⟩, ⟨k2_0_2_0, k2_0_2_1, k2_0_2_2⟩⟩ := HS.out _ y0_2
      go_wp2_with fail
      refine (HR2.out _ (bb hb0 y0_2)).mono ?_
      rintro _ w3 ⟨rfl, b3⟩
      have y0_3 := bb y0_2 b3
      clear k2_0_0_0 k2_0_0_1 k2_0_0_2 k2_0_1_0 k2_0_1_1 k2_0_1_2 k2_0_2_0 k2_0_2_1 k2_0_2_2
      obtain ⟨⟨k3_0_0_0, k3_0_0_1, k3_0_0_2⟩, ⟨k3_0_1_0, k3_0_1_1, k3_0_1_2⟩, ⟨k3_0_2_0, k3_0_2_1, k3_0_2_2⟩⟩ := HS.out _ y0_3
      go_wp2_with fail
      refine (rat_cmpE (qx.below y0_3) (qy.below y0_3) zx zy (by omega) x HEX.out).mono ?_
      rintro _ w4 ⟨rfl, b4⟩
      have y0_4 := bb y0_3 b4
      clear k3_0_0_0 k3_0_0_1 k3_0_0_2 k3_0_1_0 k3_0_1_1 k3_0_1_2 k3_0_2_0 k3_0_2_1 k3_0_2_2
      obtain ⟨⟨k4_0_0_0, k4_0_0_1, k4_0_0_2⟩, ⟨k4_0_1_0, k4_0_1_1, k4_0_1_2⟩, ⟨k4_0_2_0, k4_0_2_1, k4_0_2_2⟩⟩ := HS.out _ y0_4
      go_wp2_with fail
      refine (rat_cmpE (qy.below y0_4) (qx.below y0_4) zy zx (by omega) (-x) HEXF.out).mono ?_
      rintro _ w5 ⟨rfl, b5⟩
      have y0_5 := bb y0_4 b5
      clear k4_0_0_0 k4_0_0_1 k4_0_0_2 k4_0_1_0 k4_0_1_1 k4_0_1_2 k4_0_2_0 k4_0_2_1 k4_0_2_2
      obtain ⟨⟨k5_0_0_0, k5_0_0_1, k5_0_0_2⟩, ⟨k5_0_1_0, k5_0_1_1, k5_0_1_2⟩, ⟨k5_0_2_0, k5_0_2_1, k5_0_2_2⟩⟩ := HS.out _ y0_5
      go_wp2_with fail
      refine (rat_sameE (qx.below y0_5) (qy.below y0_5) zx zy (by omega) (decide (x = 0)) HEZ.out).mono ?_
      rintro _ w6 ⟨rfl, b6⟩
      have y0_6 := bb y0_5 b6
      clear k5_0_0_0 k5_0_0_1 k5_0_0_2 k5_0_1_0 k5_0_1_1 k5_0_1_2 k5_0_2_0 k5_0_2_1 k5_0_2_2
      obtain ⟨⟨k6_0_0_0, k6_0_0_1, k6_0_0_2⟩, ⟨k6_0_1_0, k6_0_1_1, k6_0_1_2⟩, ⟨k6_0_2_0, k6_0_2_1, k6_0_2_2⟩⟩ := HS.out _ y0_6
      go_wp2_with fail
      go_region_held3 (fun w' => (w'.cell? ⟨w.heap.size, 0, none⟩ = some (.bool s0) ∧ w'.cell? ⟨w.heap.size, 1, none⟩ = some (.slice a0 len0 cap0) ∧ w'.cell? ⟨w.heap.size, 2, none⟩ = some (.slice e0 lem0 cab0)) ∧ (w'.cell? ⟨w.heap.size + 1, 0, none⟩ = some (.bool s1) ∧ w'.cell? ⟨w.heap.size + 1, 1, none⟩ = some (.slice a1 len1 cap1) ∧ w'.cell? ⟨w.heap.size + 1, 2, none⟩ = some (.slice e1 lem1 cab1)) ∧ (w'.cell? ⟨w.heap.size + 1 + 1, 0, none⟩ = some (.bool s2) ∧ w'.cell? ⟨w.heap.size + 1 + 1, 1, none⟩ = some (.slice a2 len2 cap2) ∧ w'.cell? ⟨w.heap.size + 1 + 1, 2, none⟩ = some (.slice e2 lem2 cab2))) (first | exact HS.out _ y0_6.drew | exact HS.out _ y0_9 | exact HS.out _ y0_8 | exact HS.out _ y0_7 | fail)
        (first
          | (go_at_call 24; (with_reducible refine (rat_add ?hq1 ?hq2 zx zz (by omega)).mono ?_); (case hq1 => (have hh := (qx.below y0_6); exact hh)); (case hq2 => (have hh := (qz.below y0_6); exact hh)); rintro _ w7 ⟨rs7, rA7, rn7, rc7, rD7, rm7, rd7, rfl, u1, b7⟩; have b7 := Below.undrew b7; have y0_7 := bb y0_6 b7)
          | (go_at_call 24; (with_reducible refine (rat_add (qy.below y0_7) (qz.below y0_7) zy zz (by omega)).mono ?_); rintro _ w8 ⟨rs8, rA8, rn8, rc8, rD8, rm8, rd8, rfl, u2, b8⟩; have y0_8 := bb y0_7 b8)
          | (go_at_call 32; (with_reducible refine (rat_cmpE (u1.below b8) u2 zxz zyz (by omega) x HAD.out).mono ?_); rintro _ w9 ⟨rfl, b9⟩; have y0_9 := bb y0_8 b9))
      obtain ⟨⟨k9_0_0_0, k9_0_0_1, k9_0_0_2⟩, ⟨k9_0_1_0, k9_0_1_1, k9_0_1_2⟩, ⟨k9_0_2_0, k9_0_2_1, k9_0_2_2⟩⟩ := HS.out _ y0_9
      go_wp2_with fail
      go_region_held3 (fun w' => (w'.cell? ⟨w.heap.size, 0, none⟩ = some (.bool s0) ∧ w'.cell? ⟨w.heap.size, 1, none⟩ = some (.slice a0 len0 cap0) ∧ w'.cell? ⟨w.heap.size, 2, none⟩ = some (.slice e0 lem0 cab0)) ∧ (w'.cell? ⟨w.heap.size + 1, 0, none⟩ = some (.bool s1) ∧ w'.cell? ⟨w.heap.size + 1, 1, none⟩ = some (.slice a1 len1 cap1) ∧ w'.cell? ⟨w.heap.size + 1, 2, none⟩ = some (.slice e1 lem1 cab1)) ∧ (w'.cell? ⟨w.heap.size + 1 + 1, 0, none⟩ = some (.bool s2) ∧ w'.cell? ⟨w.heap.size + 1 + 1, 1, none⟩ = some (.slice a2 len2 cap2) ∧ w'.cell? ⟨w.heap.size + 1 + 1, 2, none⟩ = some (.slice e2 lem2 cab2))) (first | exact HS.out _ y0_9.drew | exact HS.out _ y0_14 | exact HS.out _ y0_13 | exact HS.out _ y0_12 | exact HS.out _ y0_11 | exact HS.out _ y0_10 | fail)
        (first
          | (go_at_call 34; (with_reducible refine (rat_signE ?hq3 zz (by omega) _ HES.out).mono ?_); (case hq3 => (have hh := (qz.below y0_9); exact hh)); rintro _ w10 ⟨rfl, b10⟩; have b10 := Below.undrew b10; have y0_10 := bb y0_9 b10)
          | (go_at_call 28; (with_reducible refine (rat_mul (qx.below y0_10) (qz.below y0_10) zx zz (by omega)).mono ?_); rintro _ w11 ⟨rs11, rA11, rn11, rc11, rD11, rm11, rd11, rfl, u3, b11⟩; have y0_11 := bb y0_10 b11)
          | (go_at_call 28; (with_reducible refine (rat_mul (qy.below y0_11) (qz.below y0_11) zy zz (by omega)).mono ?_); rintro _ w12 ⟨rs12, rA12, rn12, rc12, rD12, rm12, rd12, rfl, u4, b12⟩; have y0_12 := bb y0_11 b12)
          | (go_at_call 32; (with_reducible refine (rat_cmpE (u3.below b12) u4 wxz wyz (by omega) x (HMU.out hp)).mono ?_); rintro _ w13 ⟨rfl, b13⟩; have y0_13 := bb y0_12 b13)
          | (go_at_call 9; (with_reducible refine (same07 _).mono ?_); rintro _ w14 ⟨rfl, b14⟩; have y0_14 := bb y0_13 b14))
      obtain ⟨⟨k14_0_0_0, k14_0_0_1, k14_0_0_2⟩, ⟨k14_0_1_0, k14_0_1_1, k14_0_1_2⟩, ⟨k14_0_2_0, k14_0_2_1, k14_0_2_2⟩⟩ := HS.out _ y0_14
      go_wp2_with fail
      go_ret
      exact ⟨rfl, bb hb0 y0_14⟩
  · skip
    by_cases hx : x ≤ 0
    · by_cases hy : y ≤ 0
      · have hv : ¬ 0 < v := by have := htr hx hy; omega
        have hv2 : decide (0 < v) = false := decide_eq_false hv
        have hx2 : decide (x ≤ 0) = true := decide_eq_true hx
        have hy2 : decide (y ≤ 0) = true := decide_eq_true hy
        clear htr
        go_enter Try.func6, Try.ntmps6
        go_wp2_with fail
        rw [HV.out]
        clear HV
        have y0_0 : Below V.heap.size V V := Below.refl _ _
        obtain ⟨⟨k0_0_0_0, k0_0_0_1, k0_0_0_2⟩, ⟨k0_0_1_0, k0_0_1_1, k0_0_1_2⟩, ⟨k0_0_2_0, k0_0_2_1, k0_0_2_2⟩⟩ := HS.out _ y0_0
        refine (HR0.out _ (bb hb0 y0_0)).mono ?_
        rintro _ w1 ⟨rfl, b1⟩
        have y0_1 := bb y0_0 b1
        clear k0_0_0_0 k0_0_0_1 k0_0_0_2 k0_0_1_0 k0_0_1_1 k0_0_1_2 k0_0_2_0 k0_0_2_1 k0_0_2_2
        obtain ⟨⟨k1_0_0_0, k1_0_0_1, k1_0_0_2⟩, ⟨k1_0_1_0, k1_0_1_1, k1_0_1_2⟩, ⟨k1_0_2_0, k1_0_2_1, k1_0_2_2⟩⟩ := HS.out _ y0_1
        go_wp2_with fail
        refine (HR1.out _ (bb hb0 y0_1)).mono ?_
        rintro _ w2 ⟨rfl, b2⟩
        have y0_2 := bb y0_1 b2
        clear k1_0_0_0 k1_0_0_1 k1_0_0_2 k1_0_1_0 k1_0_1_1 k1_0_1_2 k1_0_2_0 k1_0_2_1 k1_0_2_2
        obtain ⟨⟨k2_0_0_0, k2_0_0_1, k2_0_0_2⟩, ⟨k2_0_1_0, k2_0_1_1, k2_0_1_2⟩, ⟨k2_0_2_0, k2_0_2_1, k2_0_2_2⟩⟩ := HS.out _ y0_2
        go_wp2_with fail
        refine (HR2.out _ (bb hb0 y0_2)).mono ?_
        rintro _ w3 ⟨rfl, b3⟩
        have y0_3 := bb y0_2 b3
        clear k2_0_0_0 k2_0_0_1 k2_0_0_2 k2_0_1_0 k2_0_1_1 k2_0_1_2 k2_0_2_0 k2_0_2_1 k2_0_2_2
        obtain ⟨⟨k3_0_0_0, k3_0_0_1, k3_0_0_2⟩, ⟨k3_0_1_0, k3_0_1_1, k3_0_1_2⟩, ⟨k3_0_2_0, k3_0_2_1, k3_0_2_2⟩⟩ := HS.out _ y0_3
        go_wp2_with fail
        refine (rat_cmpE (qx.below y0_3) (qy.below y0_3) zx zy (by omega) x HEX.out).mono ?_
        rintro _ w4 ⟨rfl, b4⟩
        have y0_4 := bb y0_3 b4
        clear k3_0_0_0 k3_0_0_1 k3_0_0_2 k3_0_1_0 k3_0_1_1 k3_0_1_2 k3_0_2_0 k3_0_2_1 k3_0_2_2
        obtain ⟨⟨k4_0_0_0, k4_0_0_1, k4_0_0_2⟩, ⟨k4_0_1_0, k4_0_1_1, k4_0_1_2⟩, ⟨k4_0_2_0, k4_0_2_1, k4_0_2_2⟩⟩ := HS.out _ y0_4
        go_wp2_with fail
        refine (rat_cmpE (qy.below y0_4) (qx.below y0_4) zy zx (by omega) (-x) HEXF.out).mono ?_
        rintro _ w5 ⟨rfl, b5⟩
        have y0_5 := bb y0_4 b5
        clear k4_0_0_0 k4_0_0_1 k4_0_0_2 k4_0_1_0 k4_0_1_1 k4_0_1_2 k4_0_2_0 k4_0_2_1 k4_0_2_2
        obtain ⟨⟨k5_0_0_0, k5_0_0_1, k5_0_0_2⟩, ⟨k5_0_1_0, k5_0_1_1, k5_0_1_2⟩, ⟨k5_0_2_0, k5_0_2_1, k5_0_2_2⟩⟩ := HS.out _ y0_5
        go_wp2_with fail
        refine (rat_sameE (qx.below y0_5) (qy.below y0_5) zx zy (by omega) (decide (x = 0)) HEZ.out).mono ?_
        rintro _ w6 ⟨rfl, b6⟩
        have y0_6 := bb y0_5 b6
        clear k5_0_0_0 k5_0_0_1 k5_0_0_2 k5_0_1_0 k5_0_1_1 k5_0_1_2 k5_0_2_0 k5_0_2_1 k5_0_2_2
        obtain ⟨⟨k6_0_0_0, k6_0_0_1, k6_0_0_2⟩, ⟨k6_0_1_0, k6_0_1_1, k6_0_1_2⟩, ⟨k6_0_2_0, k6_0_2_1, k6_0_2_2⟩⟩ := HS.out _ y0_6
        go_wp2_with fail
        refine (rat_cmpE (qy.below y0_6) (qz.below y0_6) zy zz (by omega) y HEY.out).mono ?_
        rintro _ w7 ⟨rfl, b7⟩
        have y0_7 := bb y0_6 b7
        clear k6_0_0_0 k6_0_0_1 k6_0_0_2 k6_0_1_0 k6_0_1_1 k6_0_1_2 k6_0_2_0 k6_0_2_1 k6_0_2_2
        obtain ⟨⟨k7_0_0_0, k7_0_0_1, k7_0_0_2⟩, ⟨k7_0_1_0, k7_0_1_1, k7_0_1_2⟩, ⟨k7_0_2_0, k7_0_2_1, k7_0_2_2⟩⟩ := HS.out _ y0_7
        go_wp2_with fail
        refine (rat_cmpE (qx.below y0_7) (qz.below y0_7) zx zz (by omega) v HEV.out).mono ?_
        rintro _ w8 ⟨rfl, b8⟩
        have y0_8 := bb y0_7 b8
        clear k7_0_0_0 k7_0_0_1 k7_0_0_2 k7_0_1_0 k7_0_1_1 k7_0_1_2 k7_0_2_0 k7_0_2_1 k7_0_2_2
        obtain ⟨⟨k8_0_0_0, k8_0_0_1, k8_0_0_2⟩, ⟨k8_0_1_0, k8_0_1_1, k8_0_1_2⟩, ⟨k8_0_2_0, k8_0_2_1, k8_0_2_2⟩⟩ := HS.out _ y0_8
        go_wp2_with fail
        go_region_held3 (fun w' => (w'.cell? ⟨w.heap.size, 0, none⟩ = some (.bool s0) ∧ w'.cell? ⟨w.heap.size, 1, none⟩ = some (.slice a0 len0 cap0) ∧ w'.cell? ⟨w.heap.size, 2, none⟩ = some (.slice e0 lem0 cab0)) ∧ (w'.cell? ⟨w.heap.size + 1, 0, none⟩ = some (.bool s1) ∧ w'.cell? ⟨w.heap.size + 1, 1, none⟩ = some (.slice a1 len1 cap1) ∧ w'.cell? ⟨w.heap.size + 1, 2, none⟩ = some (.slice e1 lem1 cab1)) ∧ (w'.cell? ⟨w.heap.size + 1 + 1, 0, none⟩ = some (.bool s2) ∧ w'.cell? ⟨w.heap.size + 1 + 1, 1, none⟩ = some (.slice a2 len2 cap2) ∧ w'.cell? ⟨w.heap.size + 1 + 1, 2, none⟩ = some (.slice e2 lem2 cab2))) (first | exact HS.out _ y0_8.drew | exact HS.out _ y0_11 | exact HS.out _ y0_10 | exact HS.out _ y0_9 | fail)
          (first
            | (go_at_call 24; (with_reducible refine (rat_add ?hq1 ?hq2 zx zz (by omega)).mono ?_); (case hq1 => (have hh := (qx.below y0_8); exact hh)); (case hq2 => (have hh := (qz.below y0_8); exact hh)); rintro _ w9 ⟨rs9, rA9, rn9, rc9, rD9, rm9, rd9, rfl, u1, b9⟩; have b9 := Below.undrew b9; have y0_9 := bb y0_8 b9)
            | (go_at_call 24; (with_reducible refine (rat_add (qy.below y0_9) (qz.below y0_9) zy zz (by omega)).mono ?_); rintro _ w10 ⟨rs10, rA10, rn10, rc10, rD10, rm10, rd10, rfl, u2, b10⟩; have y0_10 := bb y0_9 b10)
            | (go_at_call 32; (with_reducible refine (rat_cmpE (u1.below b10) u2 zxz zyz (by omega) x HAD.out).mono ?_); rintro _ w11 ⟨rfl, b11⟩; have y0_11 := bb y0_10 b11))
        obtain ⟨⟨k11_0_0_0, k11_0_0_1, k11_0_0_2⟩, ⟨k11_0_1_0, k11_0_1_1, k11_0_1_2⟩, ⟨k11_0_2_0, k11_0_2_1, k11_0_2_2⟩⟩ := HS.out _ y0_11
        go_wp2_with fail
        refine wp_region_held_drew (S := fun w' => (w'.cell? ⟨w.heap.size, 0, none⟩ = some (.bool s0) ∧ w'.cell? ⟨w.heap.size, 1, none⟩ = some (.slice a0 len0 cap0) ∧ w'.cell? ⟨w.heap.size, 2, none⟩ = some (.slice e0 lem0 cab0)) ∧ (w'.cell? ⟨w.heap.size + 1, 0, none⟩ = some (.bool s1) ∧ w'.cell? ⟨w.heap.size + 1, 1, none⟩ = some (.slice a1 len1 cap1) ∧ w'.cell? ⟨w.heap.size + 1, 2, none⟩ = some (.slice e1 lem1 cab1)) ∧ (w'.cell? ⟨w.heap.size + 1 + 1, 0, none⟩ = some (.bool s2) ∧ w'.cell? ⟨w.heap.size + 1 + 1, 1, none⟩ = some (.slice a2 len2 cap2) ∧ w'.cell? ⟨w.heap.size + 1 + 1, 2, none⟩ = some (.slice e2 lem2 cab2))) (by kernel_rfl) ?_ (fun hHeld => ?_)
        · exact HS.out _ y0_11.drew
        refine wpAnyH_take (i := 0) (v := ?_) rfl (by kernel_rfl) (by kernel_rfl) (by kernel_rfl) (fun _ _ _ h => h) (Or.inl ⟨by kernel_rfl, ?_⟩) (by assumption) ?_
        rotate_left
        · intro w hSw
          (try dsimp only at hSw)
          go_simp
          (try with_reducible rfl)
        try simp only [Act.put, List.setIfInBounds_toArray, List.set_cons_zero, List.set_cons_succ, List.getElem_toArray, List.getElem_cons_zero, List.getElem_cons_succ]
        refine wpAnyH_ready (rs := [1]) (by kernel_rfl) (by simp) ?_
        refine AllReadyH.cons rfl (fun K hK => ?_) AllReadyH.nil
        go_simp
        refine (rat_signE ?hq3 zz (by omega) _ HES.out).mono ?_
        case hq3 => (have hh := (qz.below y0_11); exact hh)
        rintro _ w12 ⟨rfl, b12⟩
        have b12 := Below.undrew b12
        have y0_12 := bb y0_11 b12
        (try go_wp2_with fail)
        refine hK.out _ _ ?_ (fun hHeld => ?_)
        · exact HS.out _ y0_12
        clear hK K
        try simp only [Act.put, List.setIfInBounds_toArray, List.set_cons_zero, List.set_cons_succ, List.getElem_toArray, List.getElem_cons_zero, List.getElem_cons_succ]
        refine wpAnyH_take (i := 2) (v := ?_) rfl (by kernel_rfl) (by kernel_rfl) (by kernel_rfl) (fun _ _ _ h => h) (Or.inl ⟨by kernel_rfl, ?_⟩) (by assumption) ?_
        rotate_left
        · intro w hSw
          (try dsimp only at hSw)
          go_simp
          (try with_reducible rfl)
        try simp only [Act.put, List.setIfInBounds_toArray, List.set_cons_zero, List.set_cons_succ, List.getElem_toArray, List.getElem_cons_zero, List.getElem_cons_succ]
        refine wpAnyH_take (i := 3) (v := ?_) rfl (by kernel_rfl) (by kernel_rfl) (by kernel_rfl) (fun _ _ _ h => h) (Or.inl ⟨by kernel_rfl, ?_⟩) (by assumption) ?_
        rotate_left
        · intro w hSw
          (try dsimp only at hSw)
          go_simp
          (try with_reducible rfl)
        try simp only [Act.put, List.setIfInBounds_toArray, List.set_cons_zero, List.set_cons_succ, List.getElem_toArray, List.getElem_cons_zero, List.getElem_cons_succ]
        refine wpAnyH_take (i := 4) (v := undef) rfl (by kernel_rfl) (by kernel_rfl) (by kernel_rfl) (fun _ _ _ h => h) (Or.inr ⟨by kernel_rfl, rfl⟩) (by assumption) ?_
        try simp only [Act.put, List.setIfInBounds_toArray, List.set_cons_zero, List.set_cons_succ, List.getElem_toArray, List.getElem_cons_zero, List.getElem_cons_succ]
        refine wpAnyH_take (i := 5) (v := undef) rfl (by kernel_rfl) (by kernel_rfl) (by kernel_rfl) (fun _ _ _ h => h) (Or.inr ⟨by kernel_rfl, rfl⟩) (by assumption) ?_
        try simp only [Act.put, List.setIfInBounds_toArray, List.set_cons_zero, List.set_cons_succ, List.getElem_toArray, List.getElem_cons_zero, List.getElem_cons_succ]
        refine wpAnyH_take (i := 6) (v := undef) rfl (by kernel_rfl) (by kernel_rfl) (by kernel_rfl) (fun _ _ _ h => h) (Or.inr ⟨by kernel_rfl, rfl⟩) (by assumption) ?_
        try simp only [Act.put, List.setIfInBounds_toArray, List.set_cons_zero, List.set_cons_succ, List.getElem_toArray, List.getElem_cons_zero, List.getElem_cons_succ]
        refine wpAnyH_take (i := 7) (v := undef) rfl (by kernel_rfl) (by kernel_rfl) (by kernel_rfl) (fun _ _ _ h => h) (Or.inr ⟨by kernel_rfl, rfl⟩) (by assumption) ?_
        try simp only [Act.put, List.setIfInBounds_toArray, List.set_cons_zero, List.set_cons_succ, List.getElem_toArray, List.getElem_cons_zero, List.getElem_cons_succ]
        refine wpAnyH_take (i := 8) (v := undef) rfl (by kernel_rfl) (by kernel_rfl) (by kernel_rfl) (fun _ _ _ h => h) (Or.inr ⟨by kernel_rfl, rfl⟩) (by assumption) ?_
        try simp only [Act.put, List.setIfInBounds_toArray, List.set_cons_zero, List.set_cons_succ, List.getElem_toArray, List.getElem_cons_zero, List.getElem_cons_succ]
        refine wpAnyH_take (i := 9) (v := undef) rfl (by kernel_rfl) (by kernel_rfl) (by kernel_rfl) (fun _ _ _ h => h) (Or.inr ⟨by kernel_rfl, rfl⟩) (by assumption) ?_
        try simp only [Act.put, List.setIfInBounds_toArray, List.set_cons_zero, List.set_cons_succ, List.getElem_toArray, List.getElem_cons_zero, List.getElem_cons_succ]
        refine wpAnyH_take (i := 10) (v := undef) rfl (by kernel_rfl) (by kernel_rfl) (by kernel_rfl) (fun _ _ _ h => h) (Or.inr ⟨by kernel_rfl, rfl⟩) (by assumption) ?_
        try simp only [Act.put, List.setIfInBounds_toArray, List.set_cons_zero, List.set_cons_succ, List.getElem_toArray, List.getElem_cons_zero, List.getElem_cons_succ]
        refine wpAnyH_take (i := 11) (v := undef) rfl (by kernel_rfl) (by kernel_rfl) (by kernel_rfl) (fun _ _ _ h => h) (Or.inr ⟨by kernel_rfl, rfl⟩) (by assumption) ?_
        try simp only [Act.put, List.setIfInBounds_toArray, List.set_cons_zero, List.set_cons_succ, List.getElem_toArray, List.getElem_cons_zero, List.getElem_cons_succ]
        refine wpAnyH_take (i := 12) (v := undef) rfl (by kernel_rfl) (by kernel_rfl) (by kernel_rfl) (fun _ _ _ h => h) (Or.inr ⟨by kernel_rfl, rfl⟩) (by assumption) ?_
        try simp only [Act.put, List.setIfInBounds_toArray, List.set_cons_zero, List.set_cons_succ, List.getElem_toArray, List.getElem_cons_zero, List.getElem_cons_succ]
        refine wpAnyH_take (i := 13) (v := ?_) rfl (by kernel_rfl) (by kernel_rfl) (by kernel_rfl) (fun _ _ _ h => h) (Or.inl ⟨by kernel_rfl, ?_⟩) (by assumption) ?_
        rotate_left
        · intro w hSw
          (try dsimp only at hSw)
          go_simp
          (try with_reducible rfl)
        try simp only [Act.put, List.setIfInBounds_toArray, List.set_cons_zero, List.set_cons_succ, List.getElem_toArray, List.getElem_cons_zero, List.getElem_cons_succ]
        refine wpAnyH_take (i := 14) (v := ?_) rfl (by kernel_rfl) (by kernel_rfl) (by kernel_rfl) (fun _ _ _ h => h) (Or.inl ⟨by kernel_rfl, ?_⟩) (by assumption) ?_
        rotate_left
        · intro w hSw
          (try dsimp only at hSw)
          go_simp
          (try with_reducible rfl)
        try simp only [Act.put, List.setIfInBounds_toArray, List.set_cons_zero, List.set_cons_succ, List.getElem_toArray, List.getElem_cons_zero, List.getElem_cons_succ]
        refine wpAnyH_ready (rs := [15]) (by kernel_rfl) (by simp) ?_
        refine AllReadyH.cons rfl (fun K hK => ?_) AllReadyH.nil
        go_simp
        refine (same07 _).mono ?_
        rintro _ w13 ⟨rfl, b13⟩
        have y0_13 := bb y0_12 b13
        (try go_wp2_with fail)
        refine hK.out _ _ ?_ (fun hHeld => ?_)
        · exact HS.out _ y0_13
        clear hK K
        try simp only [Act.put, List.setIfInBounds_toArray, List.set_cons_zero, List.set_cons_succ, List.getElem_toArray, List.getElem_cons_zero, List.getElem_cons_succ]
        refine wpAnyH_take (i := 16) (v := ?_) rfl (by kernel_rfl) (by kernel_rfl) (by kernel_rfl) (fun _ _ _ h => h) (Or.inl ⟨by kernel_rfl, ?_⟩) (by assumption) ?_
        rotate_left
        · intro w hSw
          (try dsimp only at hSw)
          go_simp
          (try with_reducible rfl)
        try simp only [Act.put, List.setIfInBounds_toArray, List.set_cons_zero, List.set_cons_succ, List.getElem_toArray, List.getElem_cons_zero, List.getElem_cons_succ]
        refine wpAnyH_take (i := 17) (v := ?_) rfl (by kernel_rfl) (by kernel_rfl) (by kernel_rfl) (fun _ _ _ h => h) (Or.inl ⟨by kernel_rfl, ?_⟩) (by assumption) ?_
        rotate_left
        · intro w hSw
          (try dsimp only at hSw)
          go_simp
          (try with_reducible rfl)
        try simp only [Act.put, List.setIfInBounds_toArray, List.set_cons_zero, List.set_cons_succ, List.getElem_toArray, List.getElem_cons_zero, List.getElem_cons_succ]
        refine wpAnyH_done (by kernel_rfl) ?_ _
        obtain ⟨⟨k13_0_0_0, k13_0_0_1, k13_0_0_2⟩, ⟨k13_0_1_0, k13_0_1_1, k13_0_1_2⟩, ⟨k13_0_2_0, k13_0_2_1, k13_0_2_2⟩⟩ := HS.out _ y0_13
        go_wp2_with fail
        go_ret
        exact ⟨by kernel_rfl, bb hb0 y0_13⟩
      · have hy2 : decide (y ≤ 0) = false := decide_eq_false hy
        have hx2 : decide (x ≤ 0) = true := decide_eq_true hx
        clear htr
        go_enter Try.func6, Try.ntmps6
        go_wp2_with fail
        rw [HV.out]
        clear HV
        have y0_0 : Below V.heap.size V V := Below.refl _ _
        obtain ⟨⟨k0_0_0_0, k0_0_0_1, k0_0_0_2⟩, ⟨k0_0_1_0, k0_0_1_1, k0_0_1_2⟩, ⟨k0_0_2_0, k0_0_2_1, k0_0_2_2⟩⟩ := HS.out _ y0_0
        refine (HR0.out _ (bb hb0 y0_0)).mono ?_
        rintro _ w1 ⟨rfl, b1⟩
        have y0_1 := bb y0_0 b1
        clear k0_0_0_0 k0_0_0_1 k0_0_0_2 k0_0_1_0 k0_0_1_1 k0_0_1_2 k0_0_2_0 k0_0_2_1 k0_0_2_2
        obtain ⟨⟨k1_0_0_0, k1_0_0_1, k1_0_0_2⟩, ⟨k1_0_1_0, k1_0_1_1, k1_0_1_2⟩, ⟨k1_0_2_0, k1_0_2_1, k1_0_2_2⟩⟩ := HS.out _ y0_1
        go_wp2_with fail
        refine (HR1.out _ (bb hb0 y0_1)).mono ?_
        rintro _ w2 ⟨rfl, b2⟩
        have y0_2 := bb y0_1 b2
        clear k1_0_0_0 k1_0_0_1 k1_0_0_2 k1_0_1_0 k1_0_1_1 k1_0_1_2 k1_0_2_0 k1_0_2_1 k1_0_2_2
        obtain ⟨⟨k2_0_0_0, k2_0_0_1, k2_0_0_2⟩, ⟨k2_0_1_0, k2_0_1_1, k2_0_1_2⟩, ⟨k2_0_2_0, k2_0_2_1, k2_0_2_2⟩⟩ := HS.out _ y0_2
        go_wp2_with fail
        refine (HR2.out _ (bb hb0 y0_2)).mono ?_
        rintro _ w3 ⟨rfl, b3⟩
        have y0_3 := bb y0_2 b3
        clear k2_0_0_0 k2_0_0_1 k2_0_0_2 k2_0_1_0 k2_0_1_1 k2_0_1_2 k2_0_2_0 k2_0_2_1 k2_0_2_2
        obtain ⟨⟨k3_0_0_0, k3_0_0_1, k3_0_0_2⟩, ⟨k3_0_1_0, k3_0_1_1, k3_0_1_2⟩, ⟨k3_0_2_0, k3_0_2_1, k3_0_2_2⟩⟩ := HS.out _ y0_3
        go_wp2_with fail
        refine (rat_cmpE (qx.below y0_3) (qy.below y0_3) zx zy (by omega) x HEX.out).mono ?_
        rintro _ w4 ⟨rfl, b4⟩
        have y0_4 := bb y0_3 b4
        clear k3_0_0_0 k3_0_0_1 k3_0_0_2 k3_0_1_0 k3_0_1_1 k3_0_1_2 k3_0_2_0 k3_0_2_1 k3_0_2_2
        obtain ⟨⟨k4_0_0_0, k4_0_0_1, k4_0_0_2⟩, ⟨k4_0_1_0, k4_0_1_1, k4_0_1_2⟩, ⟨k4_0_2_0, k4_0_2_1, k4_0_2_2⟩⟩ := HS.out _ y0_4
        go_wp2_with fail
        refine (rat_cmpE (qy.below y0_4) (qx.below y0_4) zy zx (by omega) (-x) HEXF.out).mono ?_
        rintro _ w5 ⟨rfl, b5⟩
        have y0_5 := bb y0_4 b5
        clear k4_0_0_0 k4_0_0_1 k4_0_0_2 k4_0_1_0 k4_0_1_1 k4_0_1_2 k4_0_2_0 k4_0_2_1 k4_0_2_2
        obtain ⟨⟨k5_0_0_0, k5_0_0_1, k5_0_0_2⟩, ⟨k5_0_1_0, k5_0_1_1, k5_0_1_2⟩, ⟨k5_0_2_0, k5_0_2_1, k5_0_2_2⟩⟩ := HS.out _ y0_5
        go_wp2_with fail
        refine (rat_sameE (qx.below y0_5) (qy.below y0_5) zx zy (by omega) (decide (x = 0)) HEZ.out).mono ?_
        rintro _ w6 ⟨rfl, b6⟩
        have y0_6 := bb y0_5 b6
        clear k5_0_0_0 k5_0_0_1 k5_0_0_2 k5_0_1_0 k5_0_1_1 k5_0_1_2 k5_0_2_0 k5_0_2_1 k5_0_2_2
        obtain ⟨⟨k6_0_0_0, k6_0_0_1, k6_0_0_2⟩, ⟨k6_0_1_0, k6_0_1_1, k6_0_1_2⟩, ⟨k6_0_2_0, k6_0_2_1, k6_0_2_2⟩⟩ := HS.out _ y0_6
        go_wp2_with fail
        refine (rat_cmpE (qy.below y0_6) (qz.below y0_6) zy zz (by omega) y HEY.out).mono ?_
        rintro _ w7 ⟨rfl, b7⟩
        have y0_7 := bb y0_6 b7
        clear k6_0_0_0 k6_0_0_1 k6_0_0_2 k6_0_1_0 k6_0_1_1 k6_0_1_2 k6_0_2_0 k6_0_2_1 k6_0_2_2
        obtain ⟨⟨k7_0_0_0, k7_0_0_1, k7_0_0_2⟩, ⟨k7_0_1_0, k7_0_1_1, k7_0_1_2⟩, ⟨k7_0_2_0, k7_0_2_1, k7_0_2_2⟩⟩ := HS.out _ y0_7
        go_wp2_with fail
        go_region_held3 (fun w' => (w'.cell? ⟨w.heap.size, 0, none⟩ = some (.bool s0) ∧ w'.cell? ⟨w.heap.size, 1, none⟩ = some (.slice a0 len0 cap0) ∧ w'.cell? ⟨w.heap.size, 2, none⟩ = some (.slice e0 lem0 cab0)) ∧ (w'.cell? ⟨w.heap.size + 1, 0, none⟩ = some (.bool s1) ∧ w'.cell? ⟨w.heap.size + 1, 1, none⟩ = some (.slice a1 len1 cap1) ∧ w'.cell? ⟨w.heap.size + 1, 2, none⟩ = some (.slice e1 lem1 cab1)) ∧ (w'.cell? ⟨w.heap.size + 1 + 1, 0, none⟩ = some (.bool s2) ∧ w'.cell? ⟨w.heap.size + 1 + 1, 1, none⟩ = some (.slice a2 len2 cap2) ∧ w'.cell? ⟨w.heap.size + 1 + 1, 2, none⟩ = some (.slice e2 lem2 cab2))) (first | exact HS.out _ y0_7.drew | exact HS.out _ y0_10 | exact HS.out _ y0_9 | exact HS.out _ y0_8 | fail)
          (first
            | (go_at_call 24; (with_reducible refine (rat_add ?hq1 ?hq2 zx zz (by omega)).mono ?_); (case hq1 => (have hh := (qx.below y0_7); exact hh)); (case hq2 => (have hh := (qz.below y0_7); exact hh)); rintro _ w8 ⟨rs8, rA8, rn8, rc8, rD8, rm8, rd8, rfl, u1, b8⟩; have b8 := Below.undrew b8; have y0_8 := bb y0_7 b8)
            | (go_at_call 24; (with_reducible refine (rat_add (qy.below y0_8) (qz.below y0_8) zy zz (by omega)).mono ?_); rintro _ w9 ⟨rs9, rA9, rn9, rc9, rD9, rm9, rd9, rfl, u2, b9⟩; have y0_9 := bb y0_8 b9)
            | (go_at_call 32; (with_reducible refine (rat_cmpE (u1.below b9) u2 zxz zyz (by omega) x HAD.out).mono ?_); rintro _ w10 ⟨rfl, b10⟩; have y0_10 := bb y0_9 b10))
        obtain ⟨⟨k10_0_0_0, k10_0_0_1, k10_0_0_2⟩, ⟨k10_0_1_0, k10_0_1_1, k10_0_1_2⟩, ⟨k10_0_2_0, k10_0_2_1, k10_0_2_2⟩⟩ := HS.out _ y0_10
        go_wp2_with fail
        refine wp_region_held_drew (S := fun w' => (w'.cell? ⟨w.heap.size, 0, none⟩ = some (.bool s0) ∧ w'.cell? ⟨w.heap.size, 1, none⟩ = some (.slice a0 len0 cap0) ∧ w'.cell? ⟨w.heap.size, 2, none⟩ = some (.slice e0 lem0 cab0)) ∧ (w'.cell? ⟨w.heap.size + 1, 0, none⟩ = some (.bool s1) ∧ w'.cell? ⟨w.heap.size + 1, 1, none⟩ = some (.slice a1 len1 cap1) ∧ w'.cell? ⟨w.heap.size + 1, 2, none⟩ = some (.slice e1 lem1 cab1)) ∧ (w'.cell? ⟨w.heap.size + 1 + 1, 0, none⟩ = some (.bool s2) ∧ w'.cell? ⟨w.heap.size + 1 + 1, 1, none⟩ = some (.slice a2 len2 cap2) ∧ w'.cell? ⟨w.heap.size + 1 + 1, 2, none⟩ = some (.slice e2 lem2 cab2))) (by kernel_rfl) ?_ (fun hHeld => ?_)
        · exact HS.out _ y0_10.drew
        refine wpAnyH_take (i := 0) (v := ?_) rfl (by kernel_rfl) (by kernel_rfl) (by kernel_rfl) (fun _ _ _ h => h) (Or.inl ⟨by kernel_rfl, ?_⟩) (by assumption) ?_
        rotate_left
        · intro w hSw
          (try dsimp only at hSw)
          go_simp
          (try with_reducible rfl)
        try simp only [Act.put, List.setIfInBounds_toArray, List.set_cons_zero, List.set_cons_succ, List.getElem_toArray, List.getElem_cons_zero, List.getElem_cons_succ]
        refine wpAnyH_ready (rs := [1]) (by kernel_rfl) (by simp) ?_
        refine AllReadyH.cons rfl (fun K hK => ?_) AllReadyH.nil
        go_simp
        refine (rat_signE ?hq3 zz (by omega) _ HES.out).mono ?_
        case hq3 => (have hh := (qz.below y0_10); exact hh)
        rintro _ w11 ⟨rfl, b11⟩
        have b11 := Below.undrew b11
        have y0_11 := bb y0_10 b11
        (try go_wp2_with fail)
        refine hK.out _ _ ?_ (fun hHeld => ?_)
        · exact HS.out _ y0_11
        clear hK K
        try simp only [Act.put, List.setIfInBounds_toArray, List.set_cons_zero, List.set_cons_succ, List.getElem_toArray, List.getElem_cons_zero, List.getElem_cons_succ]
        refine wpAnyH_take (i := 2) (v := ?_) rfl (by kernel_rfl) (by kernel_rfl) (by kernel_rfl) (fun _ _ _ h => h) (Or.inl ⟨by kernel_rfl, ?_⟩) (by assumption) ?_
        rotate_left
        · intro w hSw
          (try dsimp only at hSw)
          go_simp
          (try with_reducible rfl)
        try simp only [Act.put, List.setIfInBounds_toArray, List.set_cons_zero, List.set_cons_succ, List.getElem_toArray, List.getElem_cons_zero, List.getElem_cons_succ]
        refine wpAnyH_take (i := 3) (v := ?_) rfl (by kernel_rfl) (by kernel_rfl) (by kernel_rfl) (fun _ _ _ h => h) (Or.inl ⟨by kernel_rfl, ?_⟩) (by assumption) ?_
        rotate_left
        · intro w hSw
          (try dsimp only at hSw)
          go_simp
          (try with_reducible rfl)
        try simp only [Act.put, List.setIfInBounds_toArray, List.set_cons_zero, List.set_cons_succ, List.getElem_toArray, List.getElem_cons_zero, List.getElem_cons_succ]
        refine wpAnyH_take (i := 4) (v := undef) rfl (by kernel_rfl) (by kernel_rfl) (by kernel_rfl) (fun _ _ _ h => h) (Or.inr ⟨by kernel_rfl, rfl⟩) (by assumption) ?_
        try simp only [Act.put, List.setIfInBounds_toArray, List.set_cons_zero, List.set_cons_succ, List.getElem_toArray, List.getElem_cons_zero, List.getElem_cons_succ]
        refine wpAnyH_take (i := 5) (v := undef) rfl (by kernel_rfl) (by kernel_rfl) (by kernel_rfl) (fun _ _ _ h => h) (Or.inr ⟨by kernel_rfl, rfl⟩) (by assumption) ?_
        try simp only [Act.put, List.setIfInBounds_toArray, List.set_cons_zero, List.set_cons_succ, List.getElem_toArray, List.getElem_cons_zero, List.getElem_cons_succ]
        refine wpAnyH_take (i := 6) (v := undef) rfl (by kernel_rfl) (by kernel_rfl) (by kernel_rfl) (fun _ _ _ h => h) (Or.inr ⟨by kernel_rfl, rfl⟩) (by assumption) ?_
        try simp only [Act.put, List.setIfInBounds_toArray, List.set_cons_zero, List.set_cons_succ, List.getElem_toArray, List.getElem_cons_zero, List.getElem_cons_succ]
        refine wpAnyH_take (i := 7) (v := undef) rfl (by kernel_rfl) (by kernel_rfl) (by kernel_rfl) (fun _ _ _ h => h) (Or.inr ⟨by kernel_rfl, rfl⟩) (by assumption) ?_
        try simp only [Act.put, List.setIfInBounds_toArray, List.set_cons_zero, List.set_cons_succ, List.getElem_toArray, List.getElem_cons_zero, List.getElem_cons_succ]
        refine wpAnyH_take (i := 8) (v := undef) rfl (by kernel_rfl) (by kernel_rfl) (by kernel_rfl) (fun _ _ _ h => h) (Or.inr ⟨by kernel_rfl, rfl⟩) (by assumption) ?_
        try simp only [Act.put, List.setIfInBounds_toArray, List.set_cons_zero, List.set_cons_succ, List.getElem_toArray, List.getElem_cons_zero, List.getElem_cons_succ]
        refine wpAnyH_take (i := 9) (v := undef) rfl (by kernel_rfl) (by kernel_rfl) (by kernel_rfl) (fun _ _ _ h => h) (Or.inr ⟨by kernel_rfl, rfl⟩) (by assumption) ?_
        try simp only [Act.put, List.setIfInBounds_toArray, List.set_cons_zero, List.set_cons_succ, List.getElem_toArray, List.getElem_cons_zero, List.getElem_cons_succ]
        refine wpAnyH_take (i := 10) (v := undef) rfl (by kernel_rfl) (by kernel_rfl) (by kernel_rfl) (fun _ _ _ h => h) (Or.inr ⟨by kernel_rfl, rfl⟩) (by assumption) ?_
        try simp only [Act.put, List.setIfInBounds_toArray, List.set_cons_zero, List.set_cons_succ, List.getElem_toArray, List.getElem_cons_zero, List.getElem_cons_succ]
        refine wpAnyH_take (i := 11) (v := undef) rfl (by kernel_rfl) (by kernel_rfl) (by kernel_rfl) (fun _ _ _ h => h) (Or.inr ⟨by kernel_rfl, rfl⟩) (by assumption) ?_
        try simp only [Act.put, List.setIfInBounds_toArray, List.set_cons_zero, List.set_cons_succ, List.getElem_toArray, List.getElem_cons_zero, List.getElem_cons_succ]
        refine wpAnyH_take (i := 12) (v := undef) rfl (by kernel_rfl) (by kernel_rfl) (by kernel_rfl) (fun _ _ _ h => h) (Or.inr ⟨by kernel_rfl, rfl⟩) (by assumption) ?_
        try simp only [Act.put, List.setIfInBounds_toArray, List.set_cons_zero, List.set_cons_succ, List.getElem_toArray, List.getElem_cons_zero, List.getElem_cons_succ]
        refine wpAnyH_take (i := 13) (v := ?_) rfl (by kernel_rfl) (by kernel_rfl) (by kernel_rfl) (fun _ _ _ h => h) (Or.inl ⟨by kernel_rfl, ?_⟩) (by assumption) ?_
        rotate_left
        · intro w hSw
          (try dsimp only at hSw)
          go_simp
          (try with_reducible rfl)
        try simp only [Act.put, List.setIfInBounds_toArray, List.set_cons_zero, List.set_cons_succ, List.getElem_toArray, List.getElem_cons_zero, List.getElem_cons_succ]
        refine wpAnyH_take (i := 14) (v := ?_) rfl (by kernel_rfl) (by kernel_rfl) (by kernel_rfl) (fun _ _ _ h => h) (Or.inl ⟨by kernel_rfl, ?_⟩) (by assumption) ?_
        rotate_left
        · intro w hSw
          (try dsimp only at hSw)
          go_simp
          (try with_reducible rfl)
        try simp only [Act.put, List.setIfInBounds_toArray, List.set_cons_zero, List.set_cons_succ, List.getElem_toArray, List.getElem_cons_zero, List.getElem_cons_succ]
        refine wpAnyH_ready (rs := [15]) (by kernel_rfl) (by simp) ?_
        refine AllReadyH.cons rfl (fun K hK => ?_) AllReadyH.nil
        go_simp
        refine (same07 _).mono ?_
        rintro _ w12 ⟨rfl, b12⟩
        have y0_12 := bb y0_11 b12
        (try go_wp2_with fail)
        refine hK.out _ _ ?_ (fun hHeld => ?_)
        · exact HS.out _ y0_12
        clear hK K
        try simp only [Act.put, List.setIfInBounds_toArray, List.set_cons_zero, List.set_cons_succ, List.getElem_toArray, List.getElem_cons_zero, List.getElem_cons_succ]
        refine wpAnyH_take (i := 16) (v := ?_) rfl (by kernel_rfl) (by kernel_rfl) (by kernel_rfl) (fun _ _ _ h => h) (Or.inl ⟨by kernel_rfl, ?_⟩) (by assumption) ?_
        rotate_left
        · intro w hSw
          (try dsimp only at hSw)
          go_simp
          (try with_reducible rfl)
        try simp only [Act.put, List.setIfInBounds_toArray, List.set_cons_zero, List.set_cons_succ, List.getElem_toArray, List.getElem_cons_zero, List.getElem_cons_succ]
        refine wpAnyH_take (i := 17) (v := ?_) rfl (by kernel_rfl) (by kernel_rfl) (by kernel_rfl) (fun _ _ _ h => h) (Or.inl ⟨by kernel_rfl, ?_⟩) (by assumption) ?_
        rotate_left
        · intro w hSw
          (try dsimp only at hSw)
          go_simp
          (try with_reducible rfl)
        try simp only [Act.put, List.setIfInBounds_toArray, List.set_cons_zero, List.set_cons_succ, List.getElem_toArray, List.getElem_cons_zero, List.getElem_cons_succ]
        refine wpAnyH_done (by kernel_rfl) ?_ _
        obtain ⟨⟨k12_0_0_0, k12_0_0_1, k12_0_0_2⟩, ⟨k12_0_1_0, k12_0_1_1, k12_0_1_2⟩, ⟨k12_0_2_0, k12_0_2_1, k12_0_2_2⟩⟩ := HS.out _ y0_12
        go_wp2_with fail
        go_ret
        exact ⟨by kernel_rfl, bb hb0 y0_12⟩
    · have hx2 : decide (x ≤ 0) = false := decide_eq_false hx
      clear htr
      go_enter Try.func6, Try.ntmps6
      go_wp2_with fail
      rw [HV.out]
      clear HV
      have y0_0 : Below V.heap.size V V := Below.refl _ _
      obtain ⟨⟨k0_0_0_0, k0_0_0_1, k0_0_0_2⟩, ⟨k0_0_1_0, k0_0_1_1, k0_0_1_2⟩, ⟨k0_0_2_0, k0_0_2_1, k0_0_2_2⟩⟩ := HS.out _ y0_0
      refine (HR0.out _ (bb hb0 y0_0)).mono ?_
      rintro _ w1 ⟨rfl, b1⟩
      have y0_1 := bb y0_0 b1
      clear k0_0_0_0 k0_0_0_1 k0_0_0_2 k0_0_1_0 k0_0_1_1 k0_0_1_2 k0_0_2_0 k0_0_2_1 k0_0_2_2
      obtain ⟨⟨k1_0_0_0, k1_0_0_1, k1_0_0_2⟩, ⟨k1_0_1_0, k1_0_1_1, k1_0_1_2⟩, ⟨k1_0_2_0, k1_0_2_1, k1_0_2_2⟩⟩ := HS.out _ y0_1
      go_wp2_with fail
      refine (HR1.out _ (bb hb0 y0_1)).mono ?_
      rintro _ w2 ⟨rfl, b2⟩
      have y0_2 := bb y0_1 b2
      clear k1_0_0_0 k1_0_0_1 k1_0_0_2 k1_0_1_0 k1_0_1_1 k1_0_1_2 k1_0_2_0 k1_0_2_1 k1_0_2_2
      obtain ⟨⟨k2_0_0_0, k2_0_0_1, k2_0_0_2⟩, ⟨k2_0_1_0, k2_0_1_1, k2_0_1_2⟩, ⟨k2_0_2_0, k2_0_2_1, k2_0_2_2⟩⟩ := HS.out _ y0_2
      go_wp2_with fail
      refine (HR2.out _ (bb hb0 y0_2)).mono ?_
      rintro _ w3 ⟨rfl, b3⟩
      have y0_3 := bb y0_2 b3
      clear k2_0_0_0 k2_0_0_1 k2_0_0_2 k2_0_1_0 k2_0_1_1 k2_0_1_2 k2_0_2_0 k2_0_2_1 k2_0_2_2
      obtain ⟨⟨k3_0_0_0, k3_0_0_1, k3_0_0_2⟩, ⟨k3_0_1_0, k3_0_1_1, k3_0_1_2⟩, ⟨k3_0_2_0, k3_0_2_1, k3_0_2_2⟩⟩ := HS.out _ y0_3
      go_wp2_with fail
      refine (rat_cmpE (qx.below y0_3) (qy.below y0_3) zx zy (by omega) x HEX.out).mono ?_
      rintro _ w4 ⟨rfl, b4⟩
      have y0_4 := bb y0_3 b4
      clear k3_0_0_0 k3_0_0_1 k3_0_0_2 k3_0_1_0 k3_0_1_1 k3_0_1_2 k3_0_2_0 k3_0_2_1 k3_0_2_2
      obtain ⟨⟨k4_0_0_0, k4_0_0_1, k4_0_0_2⟩, ⟨k4_0_1_0, k4_0_1_1, k4_0_1_2⟩, ⟨k4_0_2_0, k4_0_2_1, k4_0_2_2⟩⟩ := HS.out _ y0_4
      go_wp2_with fail
      refine (rat_cmpE (qy.below y0_4) (qx.below y0_4) zy zx (by omega) (-x) HEXF.out).mono ?_
      rintro _ w5 ⟨rfl, b5⟩
      have y0_5 := bb y0_4 b5
      clear k4_0_0_0 k4_0_0_1 k4_0_0_2 k4_0_1_0 k4_0_1_1 k4_0_1_2 k4_0_2_0 k4_0_2_1 k4_0_2_2
      obtain ⟨⟨k5_0_0_0, k5_0_0_1, k5_0_0_2⟩, ⟨k5_0_1_0, k5_0_1_1, k5_0_1_2⟩, ⟨k5_0_2_0, k5_0_2_1, k5_0_2_2⟩⟩ := HS.out _ y0_5
      go_wp2_with fail
      refine (rat_sameE (qx.below y0_5) (qy.below y0_5) zx zy (by omega) (decide (x = 0)) HEZ.out).mono ?_
      rintro _ w6 ⟨rfl, b6⟩
      have y0_6 := bb y0_5 b6
      clear k5_0_0_0 k5_0_0_1 k5_0_0_2 k5_0_1_0 k5_0_1_1 k5_0_1_2 k5_0_2_0 k5_0_2_1 k5_0_2_2
      obtain ⟨⟨k6_0_0_0, k6_0_0_1, k6_0_0_2⟩, ⟨k6_0_1_0, k6_0_1_1, k6_0_1_2⟩, ⟨k6_0_2_0, k6_0_2_1, k6_0_2_2⟩⟩ := HS.out _ y0_6
      go_wp2_with fail
      go_region_held3 (fun w' => (w'.cell? ⟨w.heap.size, 0, none⟩ = some (.bool s0) ∧ w'.cell? ⟨w.heap.size, 1, none⟩ = some (.slice a0 len0 cap0) ∧ w'.cell? ⟨w.heap.size, 2, none⟩ = some (.slice e0 lem0 cab0)) ∧ (w'.cell? ⟨w.heap.size + 1, 0, none⟩ = some (.bool s1) ∧ w'.cell? ⟨w.heap.size + 1, 1, none⟩ = some (.slice a1 len1 cap1) ∧ w'.cell? ⟨w.heap.size + 1, 2, none⟩ = some (.slice e1 lem1 cab1)) ∧ (w'.cell? ⟨w.heap.size + 1 + 1, 0, none⟩ = some (.bool s2) ∧ w'.cell? ⟨w.heap.size + 1 + 1, 1, none⟩ = some (.slice a2 len2 cap2) ∧ w'.cell? ⟨w.heap.size + 1 + 1, 2, none⟩ = some (.slice e2 lem2 cab2))) (first | exact HS.out _ y0_6.drew | exact HS.out _ y0_9 | exact HS.out _ y0_8 | exact HS.out _ y0_7 | fail)
        (first
          | (go_at_call 24; (with_reducible refine (rat_add ?hq1 ?hq2 zx zz (by omega)).mono ?_); (case hq1 => (have hh := (qx.below y0_6); exact hh)); (case hq2 => (have hh := (qz.below y0_6); exact hh)); rintro _ w7 ⟨rs7, rA7, rn7, rc7, rD7, rm7, rd7, rfl, u1, b7⟩; have b7 := Below.undrew b7; have y0_7 := bb y0_6 b7)
          | (go_at_call 24; (with_reducible refine (rat_add (qy.below y0_7) (qz.below y0_7) zy zz (by omega)).mono ?_); rintro _ w8 ⟨rs8, rA8, rn8, rc8, rD8, rm8, rd8, rfl, u2, b8⟩; have y0_8 := bb y0_7 b8)
          | (go_at_call 32; (with_reducible refine (rat_cmpE (u1.below b8) u2 zxz zyz (by omega) x HAD.out).mono ?_); rintro _ w9 ⟨rfl, b9⟩; have y0_9 := bb y0_8 b9))
      obtain ⟨⟨k9_0_0_0, k9_0_0_1, k9_0_0_2⟩, ⟨k9_0_1_0, k9_0_1_1, k9_0_1_2⟩, ⟨k9_0_2_0, k9_0_2_1, k9_0_2_2⟩⟩ := HS.out _ y0_9
      go_wp2_with fail
      refine wp_region_held_drew (S := fun w' => (w'.cell? ⟨w.heap.size, 0, none⟩ = some (.bool s0) ∧ w'.cell? ⟨w.heap.size, 1, none⟩ = some (.slice a0 len0 cap0) ∧ w'.cell? ⟨w.heap.size, 2, none⟩ = some (.slice e0 lem0 cab0)) ∧ (w'.cell? ⟨w.heap.size + 1, 0, none⟩ = some (.bool s1) ∧ w'.cell? ⟨w.heap.size + 1, 1, none⟩ = some (.slice a1 len1 cap1) ∧ w'.cell? ⟨w.heap.size + 1, 2, none⟩ = some (.slice e1 lem1 cab1)) ∧ (w'.cell? ⟨w.heap.size + 1 + 1, 0, none⟩ = some (.bool s2) ∧ w'.cell? ⟨w.heap.size + 1 + 1, 1, none⟩ = some (.slice a2 len2 cap2) ∧ w'.cell? ⟨w.heap.size + 1 + 1, 2, none⟩ = some (.slice e2 lem2 cab2))) (by kernel_rfl) ?_ (fun hHeld => ?_)
      · exact HS.out _ y0_9.drew
      refine wpAnyH_take (i := 0) (v := ?_) rfl (by kernel_rfl) (by kernel_rfl) (by kernel_rfl) (fun _ _ _ h => h) (Or.inl ⟨by kernel_rfl, ?_⟩) (by assumption) ?_
      rotate_left
      · intro w hSw
        (try dsimp only at hSw)
        go_simp
        (try with_reducible rfl)
      try simp only [Act.put, List.setIfInBounds_toArray, List.set_cons_zero, List.set_cons_succ, List.getElem_toArray, List.getElem_cons_zero, List.getElem_cons_succ]
      refine wpAnyH_ready (rs := [1]) (by kernel_rfl) (by simp) ?_
      refine AllReadyH.cons rfl (fun K hK => ?_) AllReadyH.nil
      go_simp
      refine (rat_signE ?hq3 zz (by omega) _ HES.out).mono ?_
      case hq3 => (have hh := (qz.below y0_9); exact hh)
      rintro _ w10 ⟨rfl, b10⟩
      have b10 := Below.undrew b10
      have y0_10 := bb y0_9 b10
      (try go_wp2_with fail)
      refine hK.out _ _ ?_ (fun hHeld => ?_)
      · exact HS.out _ y0_10
      clear hK K
      try simp only [Act.put, List.setIfInBounds_toArray, List.set_cons_zero, List.set_cons_succ, List.getElem_toArray, List.getElem_cons_zero, List.getElem_cons_succ]
      refine wpAnyH_take (i := 2) (v := ?_) rfl (by kernel_rfl) (by kernel_rfl) (by kernel_rfl) (fun _ _ _ h => h) (Or.inl ⟨by kernel_rfl, ?_⟩) (by assumption) ?_
      rotate_left
      · intro w hSw
        (try dsimp only at hSw)
        go_simp
        (try with_reducible rfl)
      try simp only [Act.put, List.setIfInBounds_toArray, List.set_cons_zero, List.set_cons_succ, List.getElem_toArray, List.getElem_cons_zero, List.getElem_cons_succ]
      refine wpAnyH_take (i := 3) (v := ?_) rfl (by kernel_rfl) (by kernel_rfl) (by kernel_rfl) (fun _ _ _ h => h) (Or.inl ⟨by kernel_rfl, ?_⟩) (by assumption) ?_
      rotate_left
      · intro w hSw
        (try dsimp only at hSw)
        go_simp
        (try with_reducible rfl)
      try simp only [Act.put, List.setIfInBounds_toArray, List.set_cons_zero, List.set_cons_succ, List.getElem_toArray, List.getElem_cons_zero, List.getElem_cons_succ]
      refine wpAnyH_take (i := 4) (v := undef) rfl (by kernel_rfl) (by kernel_rfl) (by kernel_rfl) (fun _ _ _ h => h) (Or.inr ⟨by kernel_rfl, rfl⟩) (by assumption) ?_
      try simp only [Act.put, List.setIfInBounds_toArray, List.set_cons_zero, List.set_cons_succ, List.getElem_toArray, List.getElem_cons_zero, List.getElem_cons_succ]
      refine wpAnyH_take (i := 5) (v := undef) rfl (by kernel_rfl) (by kernel_rfl) (by kernel_rfl) (fun _ _ _ h => h) (Or.inr ⟨by kernel_rfl, rfl⟩) (by assumption) ?_
      try simp only [Act.put, List.setIfInBounds_toArray, List.set_cons_zero, List.set_cons_succ, List.getElem_toArray, List.getElem_cons_zero, List.getElem_cons_succ]
      refine wpAnyH_take (i := 6) (v := undef) rfl (by kernel_rfl) (by kernel_rfl) (by kernel_rfl) (fun _ _ _ h => h) (Or.inr ⟨by kernel_rfl, rfl⟩) (by assumption) ?_
      try simp only [Act.put, List.setIfInBounds_toArray, List.set_cons_zero, List.set_cons_succ, List.getElem_toArray, List.getElem_cons_zero, List.getElem_cons_succ]
      refine wpAnyH_take (i := 7) (v := undef) rfl (by kernel_rfl) (by kernel_rfl) (by kernel_rfl) (fun _ _ _ h => h) (Or.inr ⟨by kernel_rfl, rfl⟩) (by assumption) ?_
      try simp only [Act.put, List.setIfInBounds_toArray, List.set_cons_zero, List.set_cons_succ, List.getElem_toArray, List.getElem_cons_zero, List.getElem_cons_succ]
      refine wpAnyH_take (i := 8) (v := undef) rfl (by kernel_rfl) (by kernel_rfl) (by kernel_rfl) (fun _ _ _ h => h) (Or.inr ⟨by kernel_rfl, rfl⟩) (by assumption) ?_
      try simp only [Act.put, List.setIfInBounds_toArray, List.set_cons_zero, List.set_cons_succ, List.getElem_toArray, List.getElem_cons_zero, List.getElem_cons_succ]
      refine wpAnyH_take (i := 9) (v := undef) rfl (by kernel_rfl) (by kernel_rfl) (by kernel_rfl) (fun _ _ _ h => h) (Or.inr ⟨by kernel_rfl, rfl⟩) (by assumption) ?_
      try simp only [Act.put, List.setIfInBounds_toArray, List.set_cons_zero, List.set_cons_succ, List.getElem_toArray, List.getElem_cons_zero, List.getElem_cons_succ]
      refine wpAnyH_take (i := 10) (v := undef) rfl (by kernel_rfl) (by kernel_rfl) (by kernel_rfl) (fun _ _ _ h => h) (Or.inr ⟨by kernel_rfl, rfl⟩) (by assumption) ?_
      try simp only [Act.put, List.setIfInBounds_toArray, List.set_cons_zero, List.set_cons_succ, List.getElem_toArray, List.getElem_cons_zero, List.getElem_cons_succ]
      refine wpAnyH_take (i := 11) (v := undef) rfl (by kernel_rfl) (by kernel_rfl) (by kernel_rfl) (fun _ _ _ h => h) (Or.inr ⟨by kernel_rfl, rfl⟩) (by assumption) ?_
      try simp only [Act.put, List.setIfInBounds_toArray, List.set_cons_zero, List.set_cons_succ, List.getElem_toArray, List.getElem_cons_zero, List.getElem_cons_succ]
      refine wpAnyH_take (i := 12) (v := undef) rfl (by kernel_rfl) (by kernel_rfl) (by kernel_rfl) (fun _ _ _ h => h) (Or.inr ⟨by kernel_rfl, rfl⟩) (by assumption) ?_
      try simp only [Act.put, List.setIfInBounds_toArray, List.set_cons_zero, List.set_cons_succ, List.getElem_toArray, List.getElem_cons_zero, List.getElem_cons_succ]
      refine wpAnyH_take (i := 13) (v := ?_) rfl (by kernel_rfl) (by kernel_rfl) (by kernel_rfl) (fun _ _ _ h => h) (Or.inl ⟨by kernel_rfl, ?_⟩) (by assumption) ?_
      rotate_left
      · intro w hSw
        (try dsimp only at hSw)
        go_simp
        (try with_reducible rfl)
      try simp only [Act.put, List.setIfInBounds_toArray, List.set_cons_zero, List.set_cons_succ, List.getElem_toArray, List.getElem_cons_zero, List.getElem_cons_succ]
      refine wpAnyH_take (i := 14) (v := ?_) rfl (by kernel_rfl) (by kernel_rfl) (by kernel_rfl) (fun _ _ _ h => h) (Or.inl ⟨by kernel_rfl, ?_⟩) (by assumption) ?_
      rotate_left
      · intro w hSw
        (try dsimp only at hSw)
        go_simp
        (try with_reducible rfl)
      try simp only [Act.put, List.setIfInBounds_toArray, List.set_cons_zero, List.set_cons_succ, List.getElem_toArray, List.getElem_cons_zero, List.getElem_cons_succ]
      refine wpAnyH_ready (rs := [15]) (by kernel_rfl) (by simp) ?_
      refine AllReadyH.cons rfl (fun K hK => ?_) AllReadyH.nil
      go_simp
      refine (same07 _).mono ?_
      rintro _ w11 ⟨rfl, b11⟩
      have y0_11 := bb y0_10 b11
      (try go_wp2_with fail)
      refine hK.out _ _ ?_ (fun hHeld => ?_)
      · exact HS.out _ y0_11
      clear hK K
      try simp only [Act.put, List.setIfInBounds_toArray, List.set_cons_zero, List.set_cons_succ, List.getElem_toArray, List.getElem_cons_zero, List.getElem_cons_succ]
      refine wpAnyH_take (i := 16) (v := ?_) rfl (by kernel_rfl) (by kernel_rfl) (by kernel_rfl) (fun _ _ _ h => h) (Or.inl ⟨by kernel_rfl, ?_⟩) (by assumption) ?_
      rotate_left
      · intro w hSw
        (try dsimp only at hSw)
        go_simp
        (try with_reducible rfl)
      try simp only [Act.put, List.setIfInBounds_toArray, List.set_cons_zero, List.set_cons_succ, List.getElem_toArray, List.getElem_cons_zero, List.getElem_cons_succ]
      refine wpAnyH_take (i := 17) (v := ?_) rfl (by kernel_rfl) (by kernel_rfl) (by kernel_rfl) (fun _ _ _ h => h) (Or.inl ⟨by kernel_rfl, ?_⟩) (by assumption) ?_
      rotate_left
      · intro w hSw
        (try dsimp only at hSw)
        go_simp
        (try with_reducible rfl)
      try simp only [Act.put, List.setIfInBounds_toArray, List.set_cons_zero, List.set_cons_succ, List.getElem_toArray, List.getElem_cons_zero, List.getElem_cons_succ]
      refine wpAnyH_done (by kernel_rfl) ?_ _
      obtain ⟨⟨k11_0_0_0, k11_0_0_1, k11_0_0_2⟩, ⟨k11_0_1_0, k11_0_1_1, k11_0_1_2⟩, ⟨k11_0_2_0, k11_0_2_1, k11_0_2_2⟩⟩ := HS.out _ y0_11
      go_wp2_with fail
      go_ret
      exact ⟨by kernel_rfl, bb hb0 y0_11⟩
  · skip
    by_cases hx : x ≤ 0
    · by_cases hy : y ≤ 0
      · have hv : ¬ 0 < v := by have := htr hx hy; omega
        have hv2 : decide (0 < v) = false := decide_eq_false hv
        have hx2 : decide (x ≤ 0) = true := decide_eq_true hx
        have hy2 : decide (y ≤ 0) = true := decide_eq_true hy
        clear htr
        go_enter Try.func6, Try.ntmps6
        go_wp2_with fail
        rw [HV.out]
        clear HV
        have y0_0 : Below V.heap.size V V := Below.refl _ _
        obtain ⟨⟨k0_0_0_0, k0_0_0_1, k0_0_0_2⟩, ⟨k0_0_1_0, k0_0_1_1, k0_0_1_2⟩, ⟨k0_0_2_0, k0_0_2_1, k0_0_2_2⟩⟩ := HS.out _ y0_0
        refine (HR0.out _ (bb hb0 y0_0)).mono ?_
        rintro _ w1 ⟨rfl, b1⟩
        have y0_1 := bb y0_0 b1
        clear k0_0_0_0 k0_0_0_1 k0_0_0_2 k0_0_1_0 k0_0_1_1 k0_0_1_2 k0_0_2_0 k0_0_2_1 k0_0_2_2
        obtain ⟨⟨k1_0_0_0, k1_0_0_1, k1_0_0_2⟩, ⟨k1_0_1_0, k1_0_1_1, k1_0_1_2⟩, ⟨k1_0_2_0, k1_0_2_1, k1_0_2_2⟩⟩ := HS.out _ y0_1
        go_wp2_with fail
        refine (HR1.out _ (bb hb0 y0_1)).mono ?_
        rintro _ w2 ⟨rfl, b2⟩
        have y0_2 := bb y0_1 b2
        clear k1_0_0_0 k1_0_0_1 k1_0_0_2 k1_0_1_0 k1_0_1_1 k1_0_1_2 k1_0_2_0 k1_0_2_1 k1_0_2_2
        obtain ⟨⟨k2_0_0_0, k2_0_0_1, k2_0_0_2⟩, ⟨k2_0_1_0, k2_0_1_1, k2_0_1_2⟩, ⟨k2_0_2_0, k2_0_2_1, k2_0_2_2⟩⟩ := HS.out _ y0_2
        go_wp2_with fail
        refine (HR2.out _ (bb hb0 y0_2)).mono ?_
        rintro _ w3 ⟨rfl, b3⟩
        have y0_3 := bb y0_2 b3
        clear k2_0_0_0 k2_0_0_1 k2_0_0_2 k2_0_1_0 k2_0_1_1 k2_0_1_2 k2_0_2_0 k2_0_2_1 k2_0_2_2
        obtain ⟨⟨k3_0_0_0, k3_0_0_1, k3_0_0_2⟩, ⟨k3_0_1_0, k3_0_1_1, k3_0_1_2⟩, ⟨k3_0_2_0, k3_0_2_1, k3_0_2_2⟩⟩ := HS.out _ y0_3
        go_wp2_with fail
        refine (rat_cmpE (qx.below y0_3) (qy.below y0_3) zx zy (by omega) x HEX.out).mono ?_
        rintro _ w4 ⟨rfl, b4⟩
        have y0_4 := bb y0_3 b4
        clear k3_0_0_0 k3_0_0_1 k3_0_0_2 k3_0_1_0 k3_0_1_1 k3_0_1_2 k3_0_2_0 k3_0_2_1 k3_0_2_2
        obtain ⟨⟨k4_0_0_0, k4_0_0_1, k4_0_0_2⟩, ⟨k4_0_1_0, k4_0_1_1, k4_0_1_2⟩, ⟨k4_0_2_0, k4_0_2_1, k4_0_2_2⟩⟩ := HS.out _ y0_4
        go_wp2_with fail
        refine (rat_cmpE (qy.below y0_4) (qx.below y0_4) zy zx (by omega) (-x) HEXF.out).mono ?_
        rintro _ w5 ⟨rfl, b5⟩
        have y0_5 := bb y0_4 b5
        clear k4_0_0_0 k4_0_0_1 k4_0_0_2 k4_0_1_0 k4_0_1_1 k4_0_1_2 k4_0_2_0 k4_0_2_1 k4_0_2_2
        obtain ⟨⟨k5_0_0_0, k5_0_0_1, k5_0_0_2⟩, ⟨k5_0_1_0, k5_0_1_1, k5_0_1_2⟩, ⟨k5_0_2_0, k5_0_2_1, k5_0_2_2⟩⟩ := HS.out _ y0_5
        go_wp2_with fail
        refine (rat_sameE (qx.below y0_5) (qy.below y0_5) zx zy (by omega) (decide (x = 0)) HEZ.out).mono ?_
        rintro _ w6 ⟨rfl, b6⟩
        have y0_6 := bb y0_5 b6
        clear k5_0_0_0 k5_0_0_1 k5_0_0_2 k5_0_1_0 k5_0_1_1 k5_0_1_2 k5_0_2_0 k5_0_2_1 k5_0_2_2
        obtain ⟨⟨k6_0_0_0, k6_0_0_1, k6_0_0_2⟩, ⟨k6_0_1_0, k6_0_1_1, k6_0_1_2⟩, ⟨k6_0_2_0, k6_0_2_1, k6_0_2_2⟩⟩ := HS.out _ y0_6
        go_wp2_with fail
        refine (rat_cmpE (qy.below y0_6) (qz.below y0_6) zy zz (by omega) y HEY.out).mono ?_
        rintro _ w7 ⟨rfl, b7⟩
        have y0_7 := bb y0_6 b7
        clear k6_0_0_0 k6_0_0_1 k6_0_0_2 k6_0_1_0 k6_0_1_1 k6_0_1_2 k6_0_2_0 k6_0_2_1 k6_0_2_2
        obtain ⟨⟨k7_0_0_0, k7_0_0_1, k7_0_0_2⟩, ⟨k7_0_1_0, k7_0_1_1, k7_0_1_2⟩, ⟨k7_0_2_0, k7_0_2_1, k7_0_2_2⟩⟩ := HS.out _ y0_7
        go_wp2_with fail
        refine (rat_cmpE (qx.below y0_7) (qz.below y0_7) zx zz (by omega) v HEV.out).mono ?_
        rintro _ w8 ⟨rfl, b8⟩
        have y0_8 := bb y0_7 b8
        clear k7_0_0_0 k7_0_0_1 k7_0_0_2 k7_0_1_0 k7_0_1_1 k7_0_1_2 k7_0_2_0 k7_0_2_1 k7_0_2_2
        obtain ⟨⟨k8_0_0_0, k8_0_0_1, k8_0_0_2⟩, ⟨k8_0_1_0, k8_0_1_1, k8_0_1_2⟩, ⟨k8_0_2_0, k8_0_2_1, k8_0_2_2⟩⟩ := HS.out _ y0_8
        go_wp2_with fail
        go_region_held3 (fun w' => (w'.cell? ⟨w.heap.size, 0, none⟩ = some (.bool s0) ∧ w'.cell? ⟨w.heap.size, 1, none⟩ = some (.slice a0 len0 cap0) ∧ w'.cell? ⟨w.heap.size, 2, none⟩ = some (.slice e0 lem0 cab0)) ∧ (w'.cell? ⟨w.heap.size + 1, 0, none⟩ = some (.bool s1) ∧ w'.cell? ⟨w.heap.size + 1, 1, none⟩ = some (.slice a1 len1 cap1) ∧ w'.cell? ⟨w.heap.size + 1, 2, none⟩ = some (.slice e1 lem1 cab1)) ∧ (w'.cell? ⟨w.heap.size + 1 + 1, 0, none⟩ = some (.bool s2) ∧ w'.cell? ⟨w.heap.size + 1 + 1, 1, none⟩ = some (.slice a2 len2 cap2) ∧ w'.cell? ⟨w.heap.size + 1 + 1, 2, none⟩ = some (.slice e2 lem2 cab2))) (first | exact HS.out _ y0_8.drew | exact HS.out _ y0_11 | exact HS.out _ y0_10 | exact HS.out _ y0_9 | fail)
          (first
            | (go_at_call 24; (with_reducible refine (rat_add ?hq1 ?hq2 zx zz (by omega)).mono ?_); (case hq1 => (have hh := (qx.below y0_8); exact hh)); (case hq2 => (have hh := (qz.below y0_8); exact hh)); rintro _ w9 ⟨rs9, rA9, rn9, rc9, rD9, rm9, rd9, rfl, u1, b9⟩; have b9 := Below.undrew b9; have y0_9 := bb y0_8 b9)
            | (go_at_call 24; (with_reducible refine (rat_add (qy.below y0_9) (qz.below y0_9) zy zz (by omega)).mono ?_); rintro _ w10 ⟨rs10, rA10, rn10, rc10, rD10, rm10, rd10, rfl, u2, b10⟩; have y0_10 := bb y0_9 b10)
            | (go_at_call 32; (with_reducible refine (rat_cmpE (u1.below b10) u2 zxz zyz (by omega) x HAD.out).mono ?_); rintro _ w11 ⟨rfl, b11⟩; have y0_11 := bb y0_10 b11))
        obtain ⟨⟨k11_0_0_0, k11_0_0_1, k11_0_0_2⟩, ⟨k11_0_1_0, k11_0_1_1, k11_0_1_2⟩, ⟨k11_0_2_0, k11_0_2_1, k11_0_2_2⟩⟩ := HS.out _ y0_11
        go_wp2_with fail
        refine wp_region_held_drew (S := fun w' => (w'.cell? ⟨w.heap.size, 0, none⟩ = some (.bool s0) ∧ w'.cell? ⟨w.heap.size, 1, none⟩ = some (.slice a0 len0 cap0) ∧ w'.cell? ⟨w.heap.size, 2, none⟩ = some (.slice e0 lem0 cab0)) ∧ (w'.cell? ⟨w.heap.size + 1, 0, none⟩ = some (.bool s1) ∧ w'.cell? ⟨w.heap.size + 1, 1, none⟩ = some (.slice a1 len1 cap1) ∧ w'.cell? ⟨w.heap.size + 1, 2, none⟩ = some (.slice e1 lem1 cab1)) ∧ (w'.cell? ⟨w.heap.size + 1 + 1, 0, none⟩ = some (.bool s2) ∧ w'.cell? ⟨w.heap.size + 1 + 1, 1, none⟩ = some (.slice a2 len2 cap2) ∧ w'.cell? ⟨w.heap.size + 1 + 1, 2, none⟩ = some (.slice e2 lem2 cab2))) (by kernel_rfl) ?_ (fun hHeld => ?_)
        · exact HS.out _ y0_11.drew
        refine wpAnyH_take (i := 0) (v := ?_) rfl (by kernel_rfl) (by kernel_rfl) (by kernel_rfl) (fun _ _ _ h => h) (Or.inl ⟨by kernel_rfl, ?_⟩) (by assumption) ?_
        rotate_left
        · intro w hSw
          (try dsimp only at hSw)
          go_simp
          (try with_reducible rfl)
        try simp only [Act.put, List.setIfInBounds_toArray, List.set_cons_zero, List.set_cons_succ, List.getElem_toArray, List.getElem_cons_zero, List.getElem_cons_succ]
        refine wpAnyH_ready (rs := [1]) (by kernel_rfl) (by simp) ?_
        refine AllReadyH.cons rfl (fun K hK => ?_) AllReadyH.nil
        go_simp
        refine (rat_signE ?hq3 zz (by omega) _ HES.out).mono ?_
        case hq3 => (have hh := (qz.below y0_11); exact hh)
        rintro _ w12 ⟨rfl, b12⟩
        have b12 := Below.undrew b12
        have y0_12 := bb y0_11 b12
        (try go_wp2_with fail)
        refine hK.out _ _ ?_ (fun hHeld => ?_)
        · exact HS.out _ y0_12
        clear hK K
        try simp only [Act.put, List.setIfInBounds_toArray, List.set_cons_zero, List.set_cons_succ, List.getElem_toArray, List.getElem_cons_zero, List.getElem_cons_succ]
        refine wpAnyH_take (i := 2) (v := ?_) rfl (by kernel_rfl) (by kernel_rfl) (by kernel_rfl) (fun _ _ _ h => h) (Or.inl ⟨by kernel_rfl, ?_⟩) (by assumption) ?_
        rotate_left
        · intro w hSw
          (try dsimp only at hSw)
          go_simp
          (try with_reducible rfl)
        try simp only [Act.put, List.setIfInBounds_toArray, List.set_cons_zero, List.set_cons_succ, List.getElem_toArray, List.getElem_cons_zero, List.getElem_cons_succ]
        refine wpAnyH_take (i := 3) (v := ?_) rfl (by kernel_rfl) (by kernel_rfl) (by kernel_rfl) (fun _ _ _ h => h) (Or.inl ⟨by kernel_rfl, ?_⟩) (by assumption) ?_
        rotate_left
        · intro w hSw
          (try dsimp only at hSw)
          go_simp
          (try with_reducible rfl)
        try simp only [Act.put, List.setIfInBounds_toArray, List.set_cons_zero, List.set_cons_succ, List.getElem_toArray, List.getElem_cons_zero, List.getElem_cons_succ]
        refine wpAnyH_take (i := 4) (v := undef) rfl (by kernel_rfl) (by kernel_rfl) (by kernel_rfl) (fun _ _ _ h => h) (Or.inr ⟨by kernel_rfl, rfl⟩) (by assumption) ?_
        try simp only [Act.put, List.setIfInBounds_toArray, List.set_cons_zero, List.set_cons_succ, List.getElem_toArray, List.getElem_cons_zero, List.getElem_cons_succ]
        refine wpAnyH_take (i := 5) (v := undef) rfl (by kernel_rfl) (by kernel_rfl) (by kernel_rfl) (fun _ _ _ h => h) (Or.inr ⟨by kernel_rfl, rfl⟩) (by assumption) ?_
        try simp only [Act.put, List.setIfInBounds_toArray, List.set_cons_zero, List.set_cons_succ, List.getElem_toArray, List.getElem_cons_zero, List.getElem_cons_succ]
        refine wpAnyH_take (i := 6) (v := undef) rfl (by kernel_rfl) (by kernel_rfl) (by kernel_rfl) (fun _ _ _ h => h) (Or.inr ⟨by kernel_rfl, rfl⟩) (by assumption) ?_
        try simp only [Act.put, List.setIfInBounds_toArray, List.set_cons_zero, List.set_cons_succ, List.getElem_toArray, List.getElem_cons_zero, List.getElem_cons_succ]
        refine wpAnyH_take (i := 7) (v := undef) rfl (by kernel_rfl) (by kernel_rfl) (by kernel_rfl) (fun _ _ _ h => h) (Or.inr ⟨by kernel_rfl, rfl⟩) (by assumption) ?_
        try simp only [Act.put, List.setIfInBounds_toArray, List.set_cons_zero, List.set_cons_succ, List.getElem_toArray, List.getElem_cons_zero, List.getElem_cons_succ]
        refine wpAnyH_take (i := 8) (v := undef) rfl (by kernel_rfl) (by kernel_rfl) (by kernel_rfl) (fun _ _ _ h => h) (Or.inr ⟨by kernel_rfl, rfl⟩) (by assumption) ?_
        try simp only [Act.put, List.setIfInBounds_toArray, List.set_cons_zero, List.set_cons_succ, List.getElem_toArray, List.getElem_cons_zero, List.getElem_cons_succ]
        refine wpAnyH_take (i := 9) (v := undef) rfl (by kernel_rfl) (by kernel_rfl) (by kernel_rfl) (fun _ _ _ h => h) (Or.inr ⟨by kernel_rfl, rfl⟩) (by assumption) ?_
        try simp only [Act.put, List.setIfInBounds_toArray, List.set_cons_zero, List.set_cons_succ, List.getElem_toArray, List.getElem_cons_zero, List.getElem_cons_succ]
        refine wpAnyH_take (i := 10) (v := undef) rfl (by kernel_rfl) (by kernel_rfl) (by kernel_rfl) (fun _ _ _ h => h) (Or.inr ⟨by kernel_rfl, rfl⟩) (by assumption) ?_
        try simp only [Act.put, List.setIfInBounds_toArray, List.set_cons_zero, List.set_cons_succ, List.getElem_toArray, List.getElem_cons_zero, List.getElem_cons_succ]
        refine wpAnyH_take (i := 11) (v := undef) rfl (by kernel_rfl) (by kernel_rfl) (by kernel_rfl) (fun _ _ _ h => h) (Or.inr ⟨by kernel_rfl, rfl⟩) (by assumption) ?_
        try simp only [Act.put, List.setIfInBounds_toArray, List.set_cons_zero, List.set_cons_succ, List.getElem_toArray, List.getElem_cons_zero, List.getElem_cons_succ]
        refine wpAnyH_take (i := 12) (v := undef) rfl (by kernel_rfl) (by kernel_rfl) (by kernel_rfl) (fun _ _ _ h => h) (Or.inr ⟨by kernel_rfl, rfl⟩) (by assumption) ?_
        try simp only [Act.put, List.setIfInBounds_toArray, List.set_cons_zero, List.set_cons_succ, List.getElem_toArray, List.getElem_cons_zero, List.getElem_cons_succ]
        refine wpAnyH_take (i := 13) (v := ?_) rfl (by kernel_rfl) (by kernel_rfl) (by kernel_rfl) (fun _ _ _ h => h) (Or.inl ⟨by kernel_rfl, ?_⟩) (by assumption) ?_
        rotate_left
        · intro w hSw
          (try dsimp only at hSw)
          go_simp
          (try with_reducible rfl)
        try simp only [Act.put, List.setIfInBounds_toArray, List.set_cons_zero, List.set_cons_succ, List.getElem_toArray, List.getElem_cons_zero, List.getElem_cons_succ]
        refine wpAnyH_take (i := 14) (v := ?_) rfl (by kernel_rfl) (by kernel_rfl) (by kernel_rfl) (fun _ _ _ h => h) (Or.inl ⟨by kernel_rfl, ?_⟩) (by assumption) ?_
        rotate_left
        · intro w hSw
          (try dsimp only at hSw)
          go_simp
          (try with_reducible rfl)
        try simp only [Act.put, List.setIfInBounds_toArray, List.set_cons_zero, List.set_cons_succ, List.getElem_toArray, List.getElem_cons_zero, List.getElem_cons_succ]
        refine wpAnyH_ready (rs := [15]) (by kernel_rfl) (by simp) ?_
        refine AllReadyH.cons rfl (fun K hK => ?_) AllReadyH.nil
        go_simp
        refine (same07 _).mono ?_
        rintro _ w13 ⟨rfl, b13⟩
        have y0_13 := bb y0_12 b13
        (try go_wp2_with fail)
        refine hK.out _ _ ?_ (fun hHeld => ?_)
        · exact HS.out _ y0_13
        clear hK K
        try simp only [Act.put, List.setIfInBounds_toArray, List.set_cons_zero, List.set_cons_succ, List.getElem_toArray, List.getElem_cons_zero, List.getElem_cons_succ]
        refine wpAnyH_take (i := 16) (v := ?_) rfl (by kernel_rfl) (by kernel_rfl) (by kernel_rfl) (fun _ _ _ h => h) (Or.inl ⟨by kernel_rfl, ?_⟩) (by assumption) ?_
        rotate_left
        · intro w hSw
          (try dsimp only at hSw)
          go_simp
          (try with_reducible rfl)
        try simp only [Act.put, List.setIfInBounds_toArray, List.set_cons_zero, List.set_cons_succ, List.getElem_toArray, List.getElem_cons_zero, List.getElem_cons_succ]
        refine wpAnyH_take (i := 17) (v := ?_) rfl (by kernel_rfl) (by kernel_rfl) (by kernel_rfl) (fun _ _ _ h => h) (Or.inl ⟨by kernel_rfl, ?_⟩) (by assumption) ?_
        rotate_left
        · intro w hSw
          (try dsimp only at hSw)
          go_simp
          (try with_reducible rfl)
        try simp only [Act.put, List.setIfInBounds_toArray, List.set_cons_zero, List.set_cons_succ, List.getElem_toArray, List.getElem_cons_zero, List.getElem_cons_succ]
        refine wpAnyH_done (by kernel_rfl) ?_ _
        obtain ⟨⟨k13_0_0_0, k13_0_0_1, k13_0_0_2⟩, ⟨k13_0_1_0, k13_0_1_1, k13_0_1_2⟩, ⟨k13_0_2_0, k13_0_2_1, k13_0_2_2⟩⟩ := HS.out _ y0_13
        go_wp2_with fail
        go_ret
        exact ⟨by kernel_rfl, bb hb0 y0_13⟩
      · have hy2 : decide (y ≤ 0) = false := decide_eq_false hy
        have hx2 : decide (x ≤ 0) = true := decide_eq_true hx
        clear htr
        go_enter Try.func6, Try.ntmps6
        go_wp2_with fail
        rw [HV.out]
        clear HV
        have y0_0 : Below V.heap.size V V := Below.refl _ _
        obtain ⟨⟨k0_0_0_0, k0_0_0_1, k0_0_0_2⟩, ⟨k0_0_1_0, k0_0_1_1, k0_0_1_2⟩, ⟨k0_0_2_0, k0_0_2_1, k0_0_2_2⟩⟩ := HS.out _ y0_0
        refine (HR0.out _ (bb hb0 y0_0)).mono ?_
        rintro _ w1 ⟨rfl, b1⟩
        have y0_1 := bb y0_0 b1
        clear k0_0_0_0 k0_0_0_1 k0_0_0_2 k0_0_1_0 k0_0_1_1 k0_0_1_2 k0_0_2_0 k0_0_2_1 k0_0_2_2
        obtain ⟨⟨k1_0_0_0, k1_0_0_1, k1_0_0_2⟩, ⟨k1_0_1_0, k1_0_1_1, k1_0_1_2⟩, ⟨k1_0_2_0, k1_0_2_1, k1_0_2_2⟩⟩ := HS.out _ y0_1
        go_wp2_with fail
        refine (HR1.out _ (bb hb0 y0_1)).mono ?_
        rintro _ w2 ⟨rfl, b2⟩
        have y0_2 := bb y0_1 b2
        clear k1_0_0_0 k1_0_0_1 k1_0_0_2 k1_0_1_0 k1_0_1_1 k1_0_1_2 k1_0_2_0 k1_0_2_1 k1_0_2_2
        obtain ⟨⟨k2_0_0_0, k2_0_0_1, k2_0_0_2⟩, ⟨k2_0_1_0, k2_0_1_1, k2_0_1_2⟩, ⟨k2_0_2_0, k2_0_2_1, k2_0_2_2⟩⟩ := HS.out _ y0_2
        go_wp2_with fail
        refine (HR2.out _ (bb hb0 y0_2)).mono ?_
        rintro _ w3 ⟨rfl, b3⟩
        have y0_3 := bb y0_2 b3
        clear k2_0_0_0 k2_0_0_1 k2_0_0_2 k2_0_1_0 k2_0_1_1 k2_0_1_2 k2_0_2_0 k2_0_2_1 k2_0_2_2
        obtain ⟨⟨k3_0_0_0, k3_0_0_1, k3_0_0_2⟩, ⟨k3_0_1_0, k3_0_1_1, k3_0_1_2⟩, ⟨k3_0_2_0, k3_0_2_1, k3_0_2_2⟩⟩ := HS.out _ y0_3
        go_wp2_with fail
        refine (rat_cmpE (qx.below y0_3) (qy.below y0_3) zx zy (by omega) x HEX.out).mono ?_
        rintro _ w4 ⟨rfl, b4⟩
        have y0_4 := bb y0_3 b4
        clear k3_0_0_0 k3_0_0_1 k3_0_0_2 k3_0_1_0 k3_0_1_1 k3_0_1_2 k3_0_2_0 k3_0_2_1 k3_0_2_2
        obtain ⟨⟨k4_0_0_0, k4_0_0_1, k4_0_0_2⟩, ⟨k4_0_1_0, k4_0_1_1, k4_0_1_2⟩, ⟨k4_0_2_0, k4_0_2_1, k4_0_2_2⟩⟩ := HS.out _ y0_4
        go_wp2_with fail
        refine (rat_cmpE (qy.below y0_4) (qx.below y0_4) zy zx (by omega) (-x) HEXF.out).mono ?_
        rintro _ w5 ⟨rfl, b5⟩
        have y0_5 := bb y0_4 b5
        clear k4_0_0_0 k4_0_0_1 k4_0_0_2 k4_0_1_0 k4_0_1_1 k4_0_1_2 k4_0_2_0 k4_0_2_1 k4_0_2_2
        obtain ⟨⟨k5_0_0_0, k5_0_0_1, k5_0_0_2⟩, ⟨k5_0_1_0, k5_0_1_1, k5_0_1_2⟩, ⟨k5_0_2_0, k5_0_2_1, k5_0_2_2⟩⟩ := HS.out _ y0_5
        go_wp2_with fail
        refine (rat_sameE (qx.below y0_5) (qy.below y0_5) zx zy (by omega) (decide (x = 0)) HEZ.out).mono ?_
        rintro _ w6 ⟨rfl, b6⟩
        have y0_6 := bb y0_5 b6
        clear k5_0_0_0 k5_0_0_1 k5_0_0_2 k5_0_1_0 k5_0_1_1 k5_0_1_2 k5_0_2_0 k5_0_2_1 k5_0_2_2
        obtain ⟨⟨k6_0_0_0, k6_0_0_1, k6_0_0_2⟩, ⟨k6_0_1_0, k6_0_1_1, k6_0_1_2⟩, ⟨k6_0_2_0, k6_0_2_1, k6_0_2_2⟩⟩ := HS.out _ y0_6
        go_wp2_with fail
        refine (rat_cmpE (qy.below y0_6) (qz.below y0_6) zy zz (by omega) y HEY.out).mono ?_
        rintro _ w7 ⟨rfl, b7⟩
        have y0_7 := bb y0_6 b7
        clear k6_0_0_0 k6_0_0_1 k6_0_0_2 k6_0_1_0 k6_0_1_1 k6_0_1_2 k6_0_2_0 k6_0_2_1 k6_0_2_2
        obtain ⟨⟨k7_0_0_0, k7_0_0_1, k7_0_0_2⟩, ⟨k7_0_1_0, k7_0_1_1, k7_0_1_2⟩, ⟨k7_0_2_0, k7_0_2_1, k7_0_2_2⟩⟩ := HS.out _ y0_7
        go_wp2_with fail
        go_region_held3 (fun w' => (w'.cell? ⟨w.heap.size, 0, none⟩ = some (.bool s0) ∧ w'.cell? ⟨w.heap.size, 1, none⟩ = some (.slice a0 len0 cap0) ∧ w'.cell? ⟨w.heap.size, 2, none⟩ = some (.slice e0 lem0 cab0)) ∧ (w'.cell? ⟨w.heap.size + 1, 0, none⟩ = some (.bool s1) ∧ w'.cell? ⟨w.heap.size + 1, 1, none⟩ = some (.slice a1 len1 cap1) ∧ w'.cell? ⟨w.heap.size + 1, 2, none⟩ = some (.slice e1 lem1 cab1)) ∧ (w'.cell? ⟨w.heap.size + 1 + 1, 0, none⟩ = some (.bool s2) ∧ w'.cell? ⟨w.heap.size + 1 + 1, 1, none⟩ = some (.slice a2 len2 cap2) ∧ w'.cell? ⟨w.heap.size + 1 + 1, 2, none⟩ = some (.slice e2 lem2 cab2))) (first | exact HS.out _ y0_7.drew | exact HS.out _ y0_10 | exact HS.out _ y0_9 | exact HS.out _ y0_8 | fail)
          (first
            | (go_at_call 24; (with_reducible refine (rat_add ?hq1 ?hq2 zx zz (by omega)).mono ?_); (case hq1 => (have hh := (qx.below y0_7); exact hh)); (case hq2 => (have hh := (qz.below y0_7); exact hh)); rintro _ w8 ⟨rs8, rA8, rn8, rc8, rD8, rm8, rd8, rfl, u1, b8⟩; have b8 := Below.undrew b8; have y0_8 := bb y0_7 b8)
            | (go_at_call 24; (with_reducible refine (rat_add (qy.below y0_8) (qz.below y0_8) zy zz (by omega)).mono ?_); rintro _ w9 ⟨rs9, rA9, rn9, rc9, rD9, rm9, rd9, rfl, u2, b9⟩; have y0_9 := bb y0_8 b9)
            | (go_at_call 32; (with_reducible refine (rat_cmpE (u1.below b9) u2 zxz zyz (by omega) x HAD.out).mono ?_); rintro _ w10 ⟨rfl, b10⟩; have y0_10 := bb y0_9 b10))
        obtain ⟨⟨k10_0_0_0, k10_0_0_1, k10_0_0_2⟩, ⟨k10_0_1_0, k10_0_1_1, k10_0_1_2⟩, ⟨k10_0_2_0, k10_0_2_1, k10_0_2_2⟩⟩ := HS.out _ y0_10
        go_wp2_with fail
        refine wp_region_held_drew (S := fun w' => (w'.cell? ⟨w.heap.size, 0, none⟩ = some (.bool s0) ∧ w'.cell? ⟨w.heap.size, 1, none⟩ = some (.slice a0 len0 cap0) ∧ w'.cell? ⟨w.heap.size, 2, none⟩ = some (.slice e0 lem0 cab0)) ∧ (w'.cell? ⟨w.heap.size + 1, 0, none⟩ = some (.bool s1) ∧ w'.cell? ⟨w.heap.size + 1, 1, none⟩ = some (.slice a1 len1 cap1) ∧ w'.cell? ⟨w.heap.size + 1, 2, none⟩ = some (.slice e1 lem1 cab1)) ∧ (w'.cell? ⟨w.heap.size + 1 + 1, 0, none⟩ = some (.bool s2) ∧ w'.cell? ⟨w.heap.size + 1 + 1, 1, none⟩ = some (.slice a2 len2 cap2) ∧ w'.cell? ⟨w.heap.size + 1 + 1, 2, none⟩ = some (.slice e2 lem2 cab2))) (by kernel_rfl) ?_ (fun hHeld => ?_)
        · exact HS.out _ y0_10.drew
        refine wpAnyH_take (i := 0) (v := ?_) rfl (by kernel_rfl) (by kernel_rfl) (by kernel_rfl) (fun _ _ _ h => h) (Or.inl ⟨by kernel_rfl, ?_⟩) (by assumption) ?_
        rotate_left
        · intro w hSw
          (try dsimp only at hSw)
          go_simp
          (try with_reducible rfl)
        try simp only [Act.put, List.setIfInBounds_toArray, List.set_cons_zero, List.set_cons_succ, List.getElem_toArray, List.getElem_cons_zero, List.getElem_cons_succ]
        refine wpAnyH_ready (rs := [1]) (by kernel_rfl) (by simp) ?_
        refine AllReadyH.cons rfl (fun K hK => ?_) AllReadyH.nil
        go_simp
        refine (rat_signE ?hq3 zz (by omega) _ HES.out).mono ?_
        case hq3 => (have hh := (qz.below y0_10); exact hh)
        rintro _ w11 ⟨rfl, b11⟩
        have b11 := Below.undrew b11
        have y0_11 := bb y0_10 b11
        (try go_wp2_with fail)
        refine hK.out _ _ ?_ (fun hHeld => ?_)
        · exact HS.out _ y0_11
        clear hK K
        try simp only [Act.put, List.setIfInBounds_toArray, List.set_cons_zero, List.set_cons_succ, List.getElem_toArray, List.getElem_cons_zero, List.getElem_cons_succ]
        refine wpAnyH_take (i := 2) (v := ?_) rfl (by kernel_rfl) (by kernel_rfl) (by kernel_rfl) (fun _ _ _ h => h) (Or.inl ⟨by kernel_rfl, ?_⟩) (by assumption) ?_
        rotate_left
        · intro w hSw
          (try dsimp only at hSw)
          go_simp
          (try with_reducible rfl)
        try simp only [Act.put, List.setIfInBounds_toArray, List.set_cons_zero, List.set_cons_succ, List.getElem_toArray, List.getElem_cons_zero, List.getElem_cons_succ]
        refine wpAnyH_take (i := 3) (v := ?_) rfl (by kernel_rfl) (by kernel_rfl) (by kernel_rfl) (fun _ _ _ h => h) (Or.inl ⟨by kernel_rfl, ?_⟩) (by assumption) ?_
        rotate_left
        · intro w hSw
          (try dsimp only at hSw)
          go_simp
          (try with_reducible rfl)
        try simp only [Act.put, List.setIfInBounds_toArray, List.set_cons_zero, List.set_cons_succ, List.getElem_toArray, List.getElem_cons_zero, List.getElem_cons_succ]
        refine wpAnyH_take (i := 4) (v := undef) rfl (by kernel_rfl) (by kernel_rfl) (by kernel_rfl) (fun _ _ _ h => h) (Or.inr ⟨by kernel_rfl, rfl⟩) (by assumption) ?_
        try simp only [Act.put, List.setIfInBounds_toArray, List.set_cons_zero, List.set_cons_succ, List.getElem_toArray, List.getElem_cons_zero, List.getElem_cons_succ]
        refine wpAnyH_take (i := 5) (v := undef) rfl (by kernel_rfl) (by kernel_rfl) (by kernel_rfl) (fun _ _ _ h => h) (Or.inr ⟨by kernel_rfl, rfl⟩) (by assumption) ?_
        try simp only [Act.put, List.setIfInBounds_toArray, List.set_cons_zero, List.set_cons_succ, List.getElem_toArray, List.getElem_cons_zero, List.getElem_cons_succ]
        refine wpAnyH_take (i := 6) (v := undef) rfl (by kernel_rfl) (by kernel_rfl) (by kernel_rfl) (fun _ _ _ h => h) (Or.inr ⟨by kernel_rfl, rfl⟩) (by assumption) ?_
        try simp only [Act.put, List.setIfInBounds_toArray, List.set_cons_zero, List.set_cons_succ, List.getElem_toArray, List.getElem_cons_zero, List.getElem_cons_succ]
        refine wpAnyH_take (i := 7) (v := undef) rfl (by kernel_rfl) (by kernel_rfl) (by kernel_rfl) (fun _ _ _ h => h) (Or.inr ⟨by kernel_rfl, rfl⟩) (by assumption) ?_
        try simp only [Act.put, List.setIfInBounds_toArray, List.set_cons_zero, List.set_cons_succ, List.getElem_toArray, List.getElem_cons_zero, List.getElem_cons_succ]
        refine wpAnyH_take (i := 8) (v := undef) rfl (by kernel_rfl) (by kernel_rfl) (by kernel_rfl) (fun _ _ _ h => h) (Or.inr ⟨by kernel_rfl, rfl⟩) (by assumption) ?_
        try simp only [Act.put, List.setIfInBounds_toArray, List.set_cons_zero, List.set_cons_succ, List.getElem_toArray, List.getElem_cons_zero, List.getElem_cons_succ]
        refine wpAnyH_take (i := 9) (v := undef) rfl (by kernel_rfl) (by kernel_rfl) (by kernel_rfl) (fun _ _ _ h => h) (Or.inr ⟨by kernel_rfl, rfl⟩) (by assumption) ?_
        try simp only [Act.put, List.setIfInBounds_toArray, List.set_cons_zero, List.set_cons_succ, List.getElem_toArray, List.getElem_cons_zero, List.getElem_cons_succ]
        refine wpAnyH_take (i := 10) (v := undef) rfl (by kernel_rfl) (by kernel_rfl) (by kernel_rfl) (fun _ _ _ h => h) (Or.inr ⟨by kernel_rfl, rfl⟩) (by assumption) ?_
        try simp only [Act.put, List.setIfInBounds_toArray, List.set_cons_zero, List.set_cons_succ, List.getElem_toArray, List.getElem_cons_zero, List.getElem_cons_succ]
        refine wpAnyH_take (i := 11) (v := undef) rfl (by kernel_rfl) (by kernel_rfl) (by kernel_rfl) (fun _ _ _ h => h) (Or.inr ⟨by kernel_rfl, rfl⟩) (by assumption) ?_
        try simp only [Act.put, List.setIfInBounds_toArray, List.set_cons_zero, List.set_cons_succ, List.getElem_toArray, List.getElem_cons_zero, List.getElem_cons_succ]
        refine wpAnyH_take (i := 12) (v := undef) rfl (by kernel_rfl) (by kernel_rfl) (by kernel_rfl) (fun _ _ _ h => h) (Or.inr ⟨by kernel_rfl, rfl⟩) (by assumption) ?_
        try simp only [Act.put, List.setIfInBounds_toArray, List.set_cons_zero, List.set_cons_succ, List.getElem_toArray, List.getElem_cons_zero, List.getElem_cons_succ]
        refine wpAnyH_take (i := 13) (v := ?_) rfl (by kernel_rfl) (by kernel_rfl) (by kernel_rfl) (fun _ _ _ h => h) (Or.inl ⟨by kernel_rfl, ?_⟩) (by assumption) ?_
        rotate_left
        · intro w hSw
          (try dsimp only at hSw)
          go_simp
          (try with_reducible rfl)
        try simp only [Act.put, List.setIfInBounds_toArray, List.set_cons_zero, List.set_cons_succ, List.getElem_toArray, List.getElem_cons_zero, List.getElem_cons_succ]
        refine wpAnyH_take (i := 14) (v := ?_) rfl (by kernel_rfl) (by kernel_rfl) (by kernel_rfl) (fun _ _ _ h => h) (Or.inl ⟨by kernel_rfl, ?_⟩) (by assumption) ?_
        rotate_left
        · intro w hSw
          (try dsimp only at hSw)
          go_simp
          (try with_reducible rfl)
        try simp only [Act.put, List.setIfInBounds_toArray, List.set_cons_zero, List.set_cons_succ, List.getElem_toArray, List.getElem_cons_zero, List.getElem_cons_succ]
        refine wpAnyH_ready (rs := [15]) (by kernel_rfl) (by simp) ?_
        refine AllReadyH.cons rfl (fun K hK => ?_) AllReadyH.nil
        go_simp
        refine (same07 _).mono ?_
        rintro _ w12 ⟨rfl, b12⟩
        have y0_12 := bb y0_11 b12
        (try go_wp2_with fail)
        refine hK.out _ _ ?_ (fun hHeld => ?_)
        · exact HS.out _ y0_12
        clear hK K
        try simp only [Act.put, List.setIfInBounds_toArray, List.set_cons_zero, List.set_cons_succ, List.getElem_toArray, List.getElem_cons_zero, List.getElem_cons_succ]
        refine wpAnyH_take (i := 16) (v := ?_) rfl (by kernel_rfl) (by kernel_rfl) (by kernel_rfl) (fun _ _ _ h => h) (Or.inl ⟨by kernel_rfl, ?_⟩) (by assumption) ?_
        rotate_left
        · intro w hSw
          (try dsimp only at hSw)
          go_simp
          (try with_reducible rfl)
        try simp only [Act.put, List.setIfInBounds_toArray, List.set_cons_zero, List.set_cons_succ, List.getElem_toArray, List.getElem_cons_zero, List.getElem_cons_succ]
        refine wpAnyH_take (i := 17) (v := ?_) rfl (by kernel_rfl) (by kernel_rfl) (by kernel_rfl) (fun _ _ _ h => h) (Or.inl ⟨by kernel_rfl, ?_⟩) (by assumption) ?_
        rotate_left
        · intro w hSw
          (try dsimp only at hSw)
          go_simp
          (try with_reducible rfl)
        try simp only [Act.put, List.setIfInBounds_toArray, List.set_cons_zero, List.set_cons_succ, List.getElem_toArray, List.getElem_cons_zero, List.getElem_cons_succ]
        refine wpAnyH_done (by kernel_rfl) ?_ _
        obtain ⟨⟨k12_0_0_0, k12_0_0_1, k12_0_0_2⟩, ⟨k12_0_1_0, k12_0_1_1, k12_0_1_2⟩, ⟨k12_0_2_0, k12_0_2_1, k12_0_2_2⟩⟩ := HS.out _ y0_12
        go_wp2_with fail
        go_ret
        exact ⟨by kernel_rfl, bb hb0 y0_12⟩
    · have hx2 : decide (x ≤ 0) = false := decide_eq_false hx
      clear htr
      go_enter Try.func6, Try.ntmps6
      go_wp2_with fail
      rw [HV.out]
      clear HV
      have y0_0 : Below V.heap.size V V := Below.refl _ _
      obtain ⟨⟨k0_0_0_0, k0_0_0_1, k0_0_0_2⟩, ⟨k0_0_1_0, k0_0_1_1, k0_0_1_2⟩, ⟨k0_0_2_0, k0_0_2_1, k0_0_2_2⟩⟩ := HS.out _ y0_0
      refine (HR0.out _ (bb hb0 y0_0)).mono ?_
      rintro _ w1 ⟨rfl, b1⟩
      have y0_1 := bb y0_0 b1
      clear k0_0_0_0 k0_0_0_1 k0_0_0_2 k0_0_1_0 k0_0_1_1 k0_0_1_2 k0_0_2_0 k0_0_2_1 k0_0_2_2
      obtain ⟨⟨k1_0_0_0, k1_0_0_1, k1_0_0_2⟩, ⟨k1_0_1_0, k1_0_1_1, k1_0_1_2⟩, ⟨k1_0_2_0, k1_0_2_1, k1_0_2_2⟩⟩ := HS.out _ y0_1
      go_wp2_with fail
      refine (HR1.out _ (bb hb0 y0_1)).mono ?_
      rintro _ w2 ⟨rfl, b2⟩
      have y0_2 := bb y0_1 b2
      clear k1_0_0_0 k1_0_0_1 k1_0_0_2 k1_0_1_0 k1_0_1_1 k1_0_1_2 k1_0_2_0 k1_0_2_1 k1_0_2_2
      obtain ⟨⟨k2_0_0_0, k2_0_0_1, k2_0_0_2⟩, ⟨k2_0_1_0, k2_0_1_1, k2_0_1_2⟩, ⟨k2_0_2_0, k2_0_2_1, k2_0_2_2⟩⟩ := HS.out _ y0_2
      go_wp2_with fail
      refine (HR2.out _ (bb hb0 y0_2)).mono ?_
      rintro _ w3 ⟨rfl, b3⟩
      have y0_3 := bb y0_2 b3
      clear k2_0_0_0 k2_0_0_1 k2_0_0_2 k2_0_1_0 k2_0_1_1 k2_0_1_2 k2_0_2_0 k2_0_2_1 k2_0_2_2
      obtain ⟨⟨k3_0_0_0, k3_0_0_1, k3_0_0_2⟩, ⟨k3_0_1_0, k3_0_1_1, k3_0_1_2⟩, ⟨k3_0_2_0, k3_0_2_1, k3_0_2_2⟩⟩ := HS.out _ y0_3
      go_wp2_with fail
      refine (rat_cmpE (qx.below y0_3) (qy.below y0_3) zx zy (by omega) x HEX.out).mono ?_
      rintro _ w4 ⟨rfl, b4⟩
      have y0_4 := bb y0_3 b4
      clear k3_0_0_0 k3_0_0_1 k3_0_0_2 k3_0_1_0 k3_0_1_1 k3_0_1_2 k3_0_2_0 k3_0_2_1 k3_0_2_2
      obtain ⟨⟨k4_0_0_0, k4_0_0_1, k4_0_0_2⟩, ⟨k4_0_1_0, k4_0_1_1, k4_0_1_2⟩, ⟨k4_0_2_0, k4_0_2_1, k4_0_2_2⟩⟩ := HS.out _ y0_4
      go_wp2_with fail
      refine (rat_cmpE (qy.below y0_4) (qx.below y0_4) zy zx (by omega) (-x) HEXF.out).mono ?_
      rintro _ w5 ⟨rfl, b5⟩
      have y0_5 := bb y0_4 b5
      clear k4_0_0_0 k4_0_0_1 k4_0_0_2 k4_0_1_0 k4_0_1_1 k4_0_1_2 k4_0_2_0 k4_0_2_1 k4_0_2_2
      obtain ⟨⟨k5_0_0_0, k5_0_0_1, k5_0_0_2⟩, ⟨k5_0_1_0, k5_0_1_1, k5_0_1_2⟩, ⟨k5_0_2_0, k5_0_2_1, k5_0_2_2⟩⟩ := HS.out _ y0_5
      go_wp2_with fail
      refine (rat_sameE (qx.below y0_5) (qy.below y0_5) zx zy (by omega) (decide (x = 0)) HEZ.out).mono ?_
      rintro _ w6 ⟨rfl, b6⟩
      have y0_6 := bb y0_5 b6
      clear k5_0_0_0 k5_0_0_1 k5_0_0_2 k5_0_1_0 k5_0_1_1 k5_0_1_2 k5_0_2_0 k5_0_2_1 k5_0_2_2
      obtain ⟨⟨k6_0_0_0, k6_0_0_1, k6_0_0_2⟩, ⟨k6_0_1_0, k6_0_1_1, k6_0_1_2⟩, ⟨k6_0_2_0, k6_0_2_1, k6_0_2_2⟩⟩ := HS.out _ y0_6
      go_wp2_with fail
      go_region_held3 (fun w' => (w'.cell? ⟨w.heap.size, 0, none⟩ = some (.bool s0) ∧ w'.cell? ⟨w.heap.size, 1, none⟩ = some (.slice a0 len0 cap0) ∧ w'.cell? ⟨w.heap.size, 2, none⟩ = some (.slice e0 lem0 cab0)) ∧ (w'.cell? ⟨w.heap.size + 1, 0, none⟩ = some (.bool s1) ∧ w'.cell? ⟨w.heap.size + 1, 1, none⟩ = some (.slice a1 len1 cap1) ∧ w'.cell? ⟨w.heap.size + 1, 2, none⟩ = some (.slice e1 lem1 cab1)) ∧ (w'.cell? ⟨w.heap.size + 1 + 1, 0, none⟩ = some (.bool s2) ∧ w'.cell? ⟨w.heap.size + 1 + 1, 1, none⟩ = some (.slice a2 len2 cap2) ∧ w'.cell? ⟨w.heap.size + 1 + 1, 2, none⟩ = some (.slice e2 lem2 cab2))) (first | exact HS.out _ y0_6.drew | exact HS.out _ y0_9 | exact HS.out _ y0_8 | exact HS.out _ y0_7 | fail)
        (first
          | (go_at_call 24; (with_reducible refine (rat_add ?hq1 ?hq2 zx zz (by omega)).mono ?_); (case hq1 => (have hh := (qx.below y0_6); exact hh)); (case hq2 => (have hh := (qz.below y0_6); exact hh)); rintro _ w7 ⟨rs7, rA7, rn7, rc7, rD7, rm7, rd7, rfl, u1, b7⟩; have b7 := Below.undrew b7; have y0_7 := bb y0_6 b7)
          | (go_at_call 24; (with_reducible refine (rat_add (qy.below y0_7) (qz.below y0_7) zy zz (by omega)).mono ?_); rintro _ w8 ⟨rs8, rA8, rn8, rc8, rD8, rm8, rd8, rfl, u2, b8⟩; have y0_8 := bb y0_7 b8)
          | (go_at_call 32; (with_reducible refine (rat_cmpE (u1.below b8) u2 zxz zyz (by omega) x HAD.out).mono ?_); rintro _ w9 ⟨rfl, b9⟩; have y0_9 := bb y0_8 b9))
      obtain ⟨⟨k9_0_0_0, k9_0_0_1, k9_0_0_2⟩, ⟨k9_0_1_0, k9_0_1_1, k9_0_1_2⟩, ⟨k9_0_2_0, k9_0_2_1, k9_0_2_2⟩⟩ := HS.out _ y0_9
      go_wp2_with fail
      refine wp_region_held_drew (S := fun w' => (w'.cell? ⟨w.heap.size, 0, none⟩ = some (.bool s0) ∧ w'.cell? ⟨w.heap.size, 1, none⟩ = some (.slice a0 len0 cap0) ∧ w'.cell? ⟨w.heap.size, 2, none⟩ = some (.slice e0 lem0 cab0)) ∧ (w'.cell? ⟨w.heap.size + 1, 0, none⟩ = some (.bool s1) ∧ w'.cell? ⟨w.heap.size + 1, 1, none⟩ = some (.slice a1 len1 cap1) ∧ w'.cell? ⟨w.heap.size + 1, 2, none⟩ = some (.slice e1 lem1 cab1)) ∧ (w'.cell? ⟨w.heap.size + 1 + 1, 0, none⟩ = some (.bool s2) ∧ w'.cell? ⟨w.heap.size + 1 + 1, 1, none⟩ = some (.slice a2 len2 cap2) ∧ w'.cell? ⟨w.heap.size + 1 + 1, 2, none⟩ = some (.slice e2 lem2 cab2))) (by kernel_rfl) ?_ (fun hHeld => ?_)
      · exact HS.out _ y0_9.drew
      refine wpAnyH_take (i := 0) (v := ?_) rfl (by kernel_rfl) (by kernel_rfl) (by kernel_rfl) (fun _ _ _ h => h) (Or.inl ⟨by kernel_rfl, ?_⟩) (by assumption) ?_
      rotate_left
      · intro w hSw
        (try dsimp only at hSw)
        go_simp
        (try with_reducible rfl)
      try simp only [Act.put, List.setIfInBounds_toArray, List.set_cons_zero, List.set_cons_succ, List.getElem_toArray, List.getElem_cons_zero, List.getElem_cons_succ]
      refine wpAnyH_ready (rs := [1]) (by kernel_rfl) (by simp) ?_
      refine AllReadyH.cons rfl (fun K hK => ?_) AllReadyH.nil
      go_simp
      refine (rat_signE ?hq3 zz (by omega) _ HES.out).mono ?_
      case hq3 => (have hh := (qz.below y0_9); exact hh)
      rintro _ w10 ⟨rfl, b10⟩
      have b10 := Below.undrew b10
      have y0_10 := bb y0_9 b10
      (try go_wp2_with fail)
      refine hK.out _ _ ?_ (fun hHeld => ?_)
      · exact HS.out _ y0_10
      clear hK K
      try simp only [Act.put, List.setIfInBounds_toArray, List.set_cons_zero, List.set_cons_succ, List.getElem_toArray, List.getElem_cons_zero, List.getElem_cons_succ]
      refine wpAnyH_take (i := 2) (v := ?_) rfl (by kernel_rfl) (by kernel_rfl) (by kernel_rfl) (fun _ _ _ h => h) (Or.inl ⟨by kernel_rfl, ?_⟩) (by assumption) ?_
      rotate_left
      · intro w hSw
        (try dsimp only at hSw)
        go_simp
        (try with_reducible rfl)
      try simp only [Act.put, List.setIfInBounds_toArray, List.set_cons_zero, List.set_cons_succ, List.getElem_toArray, List.getElem_cons_zero, List.getElem_cons_succ]
      refine wpAnyH_take (i := 3) (v := ?_) rfl (by kernel_rfl) (by kernel_rfl) (by kernel_rfl) (fun _ _ _ h => h) (Or.inl ⟨by kernel_rfl, ?_⟩) (by assumption) ?_
      rotate_left
      · intro w hSw
        (try dsimp only at hSw)
        go_simp
        (try with_reducible rfl)
      try simp only [Act.put, List.setIfInBounds_toArray, List.set_cons_zero, List.set_cons_succ, List.getElem_toArray, List.getElem_cons_zero, List.getElem_cons_succ]
      refine wpAnyH_take (i := 4) (v := undef) rfl (by kernel_rfl) (by kernel_rfl) (by kernel_rfl) (fun _ _ _ h => h) (Or.inr ⟨by kernel_rfl, rfl⟩) (by assumption) ?_
      try simp only [Act.put, List.setIfInBounds_toArray, List.set_cons_zero, List.set_cons_succ, List.getElem_toArray, List.getElem_cons_zero, List.getElem_cons_succ]
      refine wpAnyH_take (i := 5) (v := undef) rfl (by kernel_rfl) (by kernel_rfl) (by kernel_rfl) (fun _ _ _ h => h) (Or.inr ⟨by kernel_rfl, rfl⟩) (by assumption) ?_
      try simp only [Act.put, List.setIfInBounds_toArray, List.set_cons_zero, List.set_cons_succ, List.getElem_toArray, List.getElem_cons_zero, List.getElem_cons_succ]
      refine wpAnyH_take (i := 6) (v := undef) rfl (by kernel_rfl) (by kernel_rfl) (by kernel_rfl) (fun _ _ _ h => h) (Or.inr ⟨by kernel_rfl, rfl⟩) (by assumption) ?_
      try simp only [Act.put, List.setIfInBounds_toArray, List.set_cons_zero, List.set_cons_succ, List.getElem_toArray, List.getElem_cons_zero, List.getElem_cons_succ]
      refine wpAnyH_take (i := 7) (v := undef) rfl (by kernel_rfl) (by kernel_rfl) (by kernel_rfl) (fun _ _ _ h => h) (Or.inr ⟨by kernel_rfl, rfl⟩) (by assumption) ?_
      try simp only [Act.put, List.setIfInBounds_toArray, List.set_cons_zero, List.set_cons_succ, List.getElem_toArray, List.getElem_cons_zero, List.getElem_cons_succ]
      refine wpAnyH_take (i := 8) (v := undef) rfl (by kernel_rfl) (by kernel_rfl) (by kernel_rfl) (fun _ _ _ h => h) (Or.inr ⟨by kernel_rfl, rfl⟩) (by assumption) ?_
      try simp only [Act.put, List.setIfInBounds_toArray, List.set_cons_zero, List.set_cons_succ, List.getElem_toArray, List.getElem_cons_zero, List.getElem_cons_succ]
      refine wpAnyH_take (i := 9) (v := undef) rfl (by kernel_rfl) (by kernel_rfl) (by kernel_rfl) (fun _ _ _ h => h) (Or.inr ⟨by kernel_rfl, rfl⟩) (by assumption) ?_
      try simp only [Act.put, List.setIfInBounds_toArray, List.set_cons_zero, List.set_cons_succ, List.getElem_toArray, List.getElem_cons_zero, List.getElem_cons_succ]
      refine wpAnyH_take (i := 10) (v := undef) rfl (by kernel_rfl) (by kernel_rfl) (by kernel_rfl) (fun _ _ _ h => h) (Or.inr ⟨by kernel_rfl, rfl⟩) (by assumption) ?_
      try simp only [Act.put, List.setIfInBounds_toArray, List.set_cons_zero, List.set_cons_succ, List.getElem_toArray, List.getElem_cons_zero, List.getElem_cons_succ]
      refine wpAnyH_take (i := 11) (v := undef) rfl (by kernel_rfl) (by kernel_rfl) (by kernel_rfl) (fun _ _ _ h => h) (Or.inr ⟨by kernel_rfl, rfl⟩) (by assumption) ?_
      try simp only [Act.put, List.setIfInBounds_toArray, List.set_cons_zero, List.set_cons_succ, List.getElem_toArray, List.getElem_cons_zero, List.getElem_cons_succ]
      refine wpAnyH_take (i := 12) (v := undef) rfl (by kernel_rfl) (by kernel_rfl) (by kernel_rfl) (fun _ _ _ h => h) (Or.inr ⟨by kernel_rfl, rfl⟩) (by assumption) ?_
      try simp only [Act.put, List.setIfInBounds_toArray, List.set_cons_zero, List.set_cons_succ, List.getElem_toArray, List.getElem_cons_zero, List.getElem_cons_succ]
      refine wpAnyH_take (i := 13) (v := ?_) rfl (by kernel_rfl) (by kernel_rfl) (by kernel_rfl) (fun _ _ _ h => h) (Or.inl ⟨by kernel_rfl, ?_⟩) (by assumption) ?_
      rotate_left
      · intro w hSw
        (try dsimp only at hSw)
        go_simp
        (try with_reducible rfl)
      try simp only [Act.put, List.setIfInBounds_toArray, List.set_cons_zero, List.set_cons_succ, List.getElem_toArray, List.getElem_cons_zero, List.getElem_cons_succ]
      refine wpAnyH_take (i := 14) (v := ?_) rfl (by kernel_rfl) (by kernel_rfl) (by kernel_rfl) (fun _ _ _ h => h) (Or.inl ⟨by kernel_rfl, ?_⟩) (by assumption) ?_
      rotate_left
      · intro w hSw
        (try dsimp only at hSw)
        go_simp
        (try with_reducible rfl)
      try simp only [Act.put, List.setIfInBounds_toArray, List.set_cons_zero, List.set_cons_succ, List.getElem_toArray, List.getElem_cons_zero, List.getElem_cons_succ]
      refine wpAnyH_ready (rs := [15]) (by kernel_rfl) (by simp) ?_
      refine AllReadyH.cons rfl (fun K hK => ?_) AllReadyH.nil
      go_simp
      refine (same07 _).mono ?_
      rintro _ w11 ⟨rfl, b11⟩
      have y0_11 := bb y0_10 b11
      (try go_wp2_with fail)
      refine hK.out _ _ ?_ (fun hHeld => ?_)
      · exact HS.out _ y0_11
      clear hK K
      try simp only [Act.put, List.setIfInBounds_toArray, List.set_cons_zero, List.set_cons_succ, List.getElem_toArray, List.getElem_cons_zero, List.getElem_cons_succ]
      refine wpAnyH_take (i := 16) (v := ?_) rfl (by kernel_rfl) (by kernel_rfl) (by kernel_rfl) (fun _ _ _ h => h) (Or.inl ⟨by kernel_rfl, ?_⟩) (by assumption) ?_
      rotate_left
      · intro w hSw
        (try dsimp only at hSw)
        go_simp
        (try with_reducible rfl)
      try simp only [Act.put, List.setIfInBounds_toArray, List.set_cons_zero, List.set_cons_succ, List.getElem_toArray, List.getElem_cons_zero, List.getElem_cons_succ]
      refine wpAnyH_take (i := 17) (v := ?_) rfl (by kernel_rfl) (by kernel_rfl) (by kernel_rfl) (fun _ _ _ h => h) (Or.inl ⟨by kernel_rfl, ?_⟩) (by assumption) ?_
      rotate_left
      · intro w hSw
        (try dsimp only at hSw)
        go_simp
        (try with_reducible rfl)
      try simp only [Act.put, List.setIfInBounds_toArray, List.set_cons_zero, List.set_cons_succ, List.getElem_toArray, List.getElem_cons_zero, List.getElem_cons_succ]
      refine wpAnyH_done (by kernel_rfl) ?_ _
      obtain ⟨⟨k11_0_0_0, k11_0_0_1, k11_0_0_2⟩, ⟨k11_0_1_0, k11_0_1_1, k11_0_1_2⟩, ⟨k11_0_2_0, k11_0_2_1, k11_0_2_2⟩⟩ := HS.out _ y0_11
      go_wp2_with fail
      go_ret
      exact ⟨by kernel_rfl, bb hb0 y0_11⟩

set_option maxRecDepth 100000 in
set_option maxHeartbeats 8000000 in
theorem ratOrder_walk (s0 : Bool) (a0 : Option Addr) (len0 cap0 : Nat) (z0 : List Int) (e0 : Option Addr) (lem0 cab0 : Nat) (y0 : List Int) (s1 : Bool) (a1 : Option Addr) (len1 cap1 : Nat) (z1 : List Int) (e1 : Option Addr) (lem1 cab1 : Nat) (y1 : List Int) (s2 : Bool) (a2 : Option Addr) (len2 cap2 : Nat) (z2 : List Int) (e2 : Option Addr) (lem2 cab2 : Nat) (y2 : List Int) (w : World) (w0 : IsRow .u64 w a0 len0 cap0 z0) (v0 : IsRow .u64 w e0 lem0 cab0 y0) (w1 : IsRow .u64 w a1 len1 cap1 z1) (v1 : IsRow .u64 w e1 lem1 cab1 y1) (w2 : IsRow .u64 w a2 len2 cap2 z2) (v2 : IsRow .u64 w e2 lem2 cab2 y2) :
    Calls Try.prog 6 #[.agg #[.bool s0, .slice a0 len0 cap0, .slice e0 lem0 cab0], .agg #[.bool s1, .slice a1 len1 cap1, .slice e1 lem1 cab1], .agg #[.bool s2, .slice a2 len2 cap2, .slice e2 lem2 cab2]] w fun e w' => e = .returned (.bool true) ∧ Below w.heap.size w w' := by
  obtain ⟨p0, _⟩ := w0.sl
  obtain ⟨r0, _⟩ := v0.sl
  generalize z0.take len0 = xs0 at p0
  generalize y0.take lem0 = ys0 at r0
  obtain ⟨p1, _⟩ := w1.sl
  obtain ⟨r1, _⟩ := v1.sl
  generalize z1.take len1 = xs1 at p1
  generalize y1.take lem1 = ys1 at r1
  obtain ⟨p2, _⟩ := w2.sl
  obtain ⟨r2, _⟩ := v2.sl
  generalize z2.take len2 = xs2 at p2
  generalize y2.take lem2 = ys2 at r2
  obtain ⟨V, hV, B0, B1, B2, hb0⟩ := boxes2 24 w #[.bool s0, .slice a0 len0 cap0, .slice e0 lem0 cab0] #[.bool s1, .slice a1 len1 cap1, .slice e1 lem1 cab1] #[.bool s2, .slice a2 len2 cap2, .slice e2 lem2 cab2]
  have R0 := fun w1 (hb : Below w.heap.size w w1) => right07 (s := s0) (p0.below hb) (r0.below hb)
  obtain ⟨t0, et0⟩ : ∃ t, (decide (len0 ≤ 6 ∧ lem0 ≤ 6) && rightB s0 xs0 ys0) = t := ⟨_, rfl⟩
  rw [et0] at R0
  have HR0 := Lib.hid R0
  clear R0
  have R1 := fun w1 (hb : Below w.heap.size w w1) => right07 (s := s1) (p1.below hb) (r1.below hb)
  obtain ⟨t1, et1⟩ : ∃ t, (decide (len1 ≤ 6 ∧ lem1 ≤ 6) && rightB s1 xs1 ys1) = t := ⟨_, rfl⟩
  rw [et1] at R1
  have HR1 := Lib.hid R1
  clear R1
  have R2 := fun w1 (hb : Below w.heap.size w w1) => right07 (s := s2) (p2.below hb) (r2.below hb)
  obtain ⟨t2, et2⟩ : ∃ t, (decide (len2 ≤ 6 ∧ lem2 ≤ 6) && rightB s2 xs2 ys2) = t := ⟨_, rfl⟩
  rw [et2] at R2
  have HR2 := Lib.hid R2
  clear R2
  have HV := Lib.hid hV
  clear hV
  cases t0
  · clear et0 et1 et2
    go_enter Try.func6, Try.ntmps6
    go_wp2_with fail
    rw [HV.out]
    clear HV
    refine (HR0.out _ hb0).mono ?_
    rintro _ w90 ⟨rfl, c0⟩
    have x0 := c0
    obtain ⟨⟨k0_0, l0_0, m0_0⟩, _, _, _⟩ := (B0.below' x0).three
    obtain ⟨⟨k0_1, l0_1, m0_1⟩, _, _, _⟩ := (B1.below' x0).three
    obtain ⟨⟨k0_2, l0_2, m0_2⟩, _, _, _⟩ := (B2.below' x0).three
    go_wp2_with fail
    refine (same07 _).mono ?_
    rintro _ w99 ⟨rfl, c9⟩
    go_wp2_with fail
    go_ret
    exact ⟨rfl, bb (bb hb0 x0) c9⟩
  · skip
    cases t1
    · clear et0 et1 et2
      go_enter Try.func6, Try.ntmps6
      go_wp2_with fail
      rw [HV.out]
      clear HV
      refine (HR0.out _ hb0).mono ?_
      rintro _ w90 ⟨rfl, c0⟩
      have x0 := c0
      obtain ⟨⟨k0_0, l0_0, m0_0⟩, _, _, _⟩ := (B0.below' x0).three
      obtain ⟨⟨k0_1, l0_1, m0_1⟩, _, _, _⟩ := (B1.below' x0).three
      obtain ⟨⟨k0_2, l0_2, m0_2⟩, _, _, _⟩ := (B2.below' x0).three
      go_wp2_with fail
      refine (HR1.out _ (bb hb0 x0)).mono ?_
      rintro _ w91 ⟨rfl, c1⟩
      have x1 := bb x0 c1
      obtain ⟨⟨k1_0, l1_0, m1_0⟩, _, _, _⟩ := (B0.below' x1).three
      obtain ⟨⟨k1_1, l1_1, m1_1⟩, _, _, _⟩ := (B1.below' x1).three
      obtain ⟨⟨k1_2, l1_2, m1_2⟩, _, _, _⟩ := (B2.below' x1).three
      go_wp2_with fail
      refine (same07 _).mono ?_
      rintro _ w99 ⟨rfl, c9⟩
      go_wp2_with fail
      go_ret
      exact ⟨rfl, bb (bb hb0 x1) c9⟩
    · skip
      cases t2
      · clear et0 et1 et2
        go_enter Try.func6, Try.ntmps6
        go_wp2_with fail
        rw [HV.out]
        clear HV
        refine (HR0.out _ hb0).mono ?_
        rintro _ w90 ⟨rfl, c0⟩
        have x0 := c0
        obtain ⟨⟨k0_0, l0_0, m0_0⟩, _, _, _⟩ := (B0.below' x0).three
        obtain ⟨⟨k0_1, l0_1, m0_1⟩, _, _, _⟩ := (B1.below' x0).three
        obtain ⟨⟨k0_2, l0_2, m0_2⟩, _, _, _⟩ := (B2.below' x0).three
        go_wp2_with fail
        refine (HR1.out _ (bb hb0 x0)).mono ?_
        rintro _ w91 ⟨rfl, c1⟩
        have x1 := bb x0 c1
        obtain ⟨⟨k1_0, l1_0, m1_0⟩, _, _, _⟩ := (B0.below' x1).three
        obtain ⟨⟨k1_1, l1_1, m1_1⟩, _, _, _⟩ := (B1.below' x1).three
        obtain ⟨⟨k1_2, l1_2, m1_2⟩, _, _, _⟩ := (B2.below' x1).three
        go_wp2_with fail
        refine (HR2.out _ (bb hb0 x1)).mono ?_
        rintro _ w92 ⟨rfl, c2⟩
        have x2 := bb x1 c2
        obtain ⟨⟨k2_0, l2_0, m2_0⟩, _, _, _⟩ := (B0.below' x2).three
        obtain ⟨⟨k2_1, l2_1, m2_1⟩, _, _, _⟩ := (B1.below' x2).three
        obtain ⟨⟨k2_2, l2_2, m2_2⟩, _, _, _⟩ := (B2.below' x2).three
        go_wp2_with fail
        refine (same07 _).mono ?_
        rintro _ w99 ⟨rfl, c9⟩
        go_wp2_with fail
        go_ret
        exact ⟨rfl, bb (bb hb0 x2) c9⟩
      · obtain ⟨X0, q0, n0⟩ := right07_Q p0 r0 et0
        obtain ⟨X1, q1, n1⟩ := right07_Q p1 r1 et1
        obtain ⟨X2, q2, n2⟩ := right07_Q p2 r2 et2
        exact ratOrder_valid HV.out B0 B1 B2 hb0 (fun w1 hb => HR0.out w1 hb) (fun w1 hb => HR1.out w1 hb) (fun w1 hb => HR2.out w1 hb) q0 n0 q1 n1 q2 n2

end Go.Proofs.Ytnheefhbchkbdaa
