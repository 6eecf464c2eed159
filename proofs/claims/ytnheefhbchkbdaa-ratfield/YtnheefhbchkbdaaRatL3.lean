/-
  The law RatField: numbers are a field.
-/
import Derived.Test.YtnheefhbchkbdaaRatLaws
namespace Go.Proofs.Ytnheefhbchkbdaa
open Go.RowKit
set_option linter.unusedVariables false
set_option linter.unusedSimpArgs false

theorem box_putSelf {t : TypeId} {w : World} {g : Nat} {y0 y1 y2 : Value} (h : Box t w g #[y0, y1, y2]) (x0 x1 x2 : Value) : Box t (put3 w g x0 x1 x2) g #[x0, x1, x2] := by
  unfold Box at *
  simp [put3, World.setCell, Array.getElem?_modify, h]
set_option maxRecDepth 100000 in
set_option maxHeartbeats 8000000 in
theorem ratField_valid {w V : World} {s0 : Bool} {a0 e0 : Option Addr} {len0 cap0 lem0 cab0 : Nat} {X : Rat} {s1 : Bool} {a1 e1 : Option Addr} {len1 cap1 lem1 cab1 : Nat} {Y : Rat} {s2 : Bool} {a2 e2 : Option Addr} {len2 cap2 lem2 cab2 : Nat} {Z : Rat} (hV : ((w.alloc (.cells #[.bool s0, .slice a0 len0 cap0, .slice e0 lem0 cab0] 24)).alloc (.cells #[.bool s1, .slice a1 len1 cap1, .slice e1 lem1 cab1] 24)).alloc (.cells #[.bool s2, .slice a2 len2 cap2, .slice e2 lem2 cab2] 24) = V) (B0 : Box 24 V (w.heap.size) #[.bool s0, .slice a0 len0 cap0, .slice e0 lem0 cab0]) (B1 : Box 24 V (w.heap.size + 1) #[.bool s1, .slice a1 len1 cap1, .slice e1 lem1 cab1]) (B2 : Box 24 V (w.heap.size + 1 + 1) #[.bool s2, .slice a2 len2 cap2, .slice e2 lem2 cab2]) (hb0 : Below w.heap.size w V) (R0 : ∀ w1, Below w.heap.size w w1 → Calls Try.prog 19 #[.agg #[.bool s0, .slice a0 len0 cap0, .slice e0 lem0 cab0]] w1 (RetBl true w1)) (R1 : ∀ w1, Below w.heap.size w w1 → Calls Try.prog 19 #[.agg #[.bool s1, .slice a1 len1 cap1, .slice e1 lem1 cab1]] w1 (RetBl true w1)) (R2 : ∀ w1, Below w.heap.size w w1 → Calls Try.prog 19 #[.agg #[.bool s2, .slice a2 len2 cap2, .slice e2 lem2 cab2]] w1 (RetBl true w1)) (g0 : Q w s0 a0 len0 cap0 e0 lem0 cab0 X) (n0 : Sz X 6) (g1 : Q w s1 a1 len1 cap1 e1 lem1 cab1 Y) (n1 : Sz Y 6) (g2 : Q w s2 a2 len2 cap2 e2 lem2 cab2 Z) (n2 : Sz Z 6) :
    Calls Try.prog 5 #[.agg #[.bool s0, .slice a0 len0 cap0, .slice e0 lem0 cab0], .agg #[.bool s1, .slice a1 len1 cap1, .slice e1 lem1 cab1], .agg #[.bool s2, .slice a2 len2 cap2, .slice e2 lem2 cab2]] w fun e w' => e = .returned (.bool true) ∧ Below w.heap.size w w' := by
  have qx := g0.below hb0
  have zx : Sz X 100 := n0.mono (by omega)
  have qy := g1.below hb0
  have zy : Sz Y 100 := n1.mono (by omega)
  have qz := g2.below hb0
  have zz : Sz Z 100 := n2.mono (by omega)
  have HS := Lib.hid (fun (w' : World) (hb : Below V.heap.size V w') => (⟨(B0.below' hb).three.1, (B1.below' hb).three.1, (B2.below' hb).three.1⟩ : (w'.cell? ⟨w.heap.size, 0, none⟩ = some (.bool s0) ∧ w'.cell? ⟨w.heap.size, 1, none⟩ = some (.slice a0 len0 cap0) ∧ w'.cell? ⟨w.heap.size, 2, none⟩ = some (.slice e0 lem0 cab0)) ∧ (w'.cell? ⟨w.heap.size + 1, 0, none⟩ = some (.bool s1) ∧ w'.cell? ⟨w.heap.size + 1, 1, none⟩ = some (.slice a1 len1 cap1) ∧ w'.cell? ⟨w.heap.size + 1, 2, none⟩ = some (.slice e1 lem1 cab1)) ∧ (w'.cell? ⟨w.heap.size + 1 + 1, 0, none⟩ = some (.bool s2) ∧ w'.cell? ⟨w.heap.size + 1 + 1, 1, none⟩ = some (.slice a2 len2 cap2) ∧ w'.cell? ⟨w.heap.size + 1 + 1, 2, none⟩ = some (.slice e2 lem2 cab2))))
  have HL := Lib.hid (fun (w' : World) (hb : Below V.heap.size V w') => (⟨(B0.below' hb).lt, (B1.below' hb).lt, (B2.below' hb).lt⟩ : w.heap.size < w'.heap.size ∧ w.heap.size + 1 < w'.heap.size ∧ w.heap.size + 1 + 1 < w'.heap.size))
  have HR0 := Lib.hid R0
  have HR1 := Lib.hid R1
  have HR2 := Lib.hid R2
  have HV := Lib.hid hV
  clear hV B0 R0 g0 B1 R1 g1 B2 R2 g2
  have zxy := (n0.add n1).mono (show 6 + 6 + 1 ≤ 100 by omega)
  have zyz := (n1.add n2).mono (show 6 + 6 + 1 ≤ 100 by omega)
  have zzy := (n2.add n1).mono (show 6 + 6 + 1 ≤ 100 by omega)
  have z3 := ((n0.add n1).add n2).mono (show 6 + 6 + 1 + 6 + 1 ≤ 100 by omega)
  have z4 := (n0.add (n2.add n1)).mono (show 6 + (6 + 6 + 1) + 1 ≤ 100 by omega)
  have wxy := (n0.mul n1).mono (show 6 + 6 ≤ 100 by omega)
  have wxz := (n0.mul n2).mono (show 6 + 6 ≤ 100 by omega)
  have wzy := (n2.mul n1).mono (show 6 + 6 ≤ 100 by omega)
  have w3' := ((n0.mul n1).mul n2).mono (show 6 + 6 + 6 ≤ 100 by omega)
  have w4' := (n0.mul (n2.mul n1)).mono (show 6 + (6 + 6) ≤ 100 by omega)
  have p1 := (n0.mul (n1.add n2)).mono (show 6 + (6 + 6 + 1) ≤ 100 by omega)
  have p2 := ((n0.mul n1).add (n0.mul n2)).mono (show 6 + 6 + (6 + 6) + 1 ≤ 100 by omega)
  have p3 := ((n0.add n1).sub n1).mono (show 6 + 6 + 1 + 6 + 1 ≤ 100 by omega)
  have p4 : Sz (X * Y / Y) 100 := by rw [Rat.div_def]; exact ((n0.mul n1).mul n1.inv).mono (show 6 + 6 + 6 ≤ 100 by omega)
  have E1 := Lib.hid (show X + Y + Z = X + (Z + Y) by rw [Rat.add_assoc, Rat.add_comm Y Z])
  have E2 := Lib.hid (show X * Y * Z = X * (Z * Y) by rw [Rat.mul_assoc, Rat.mul_comm Y Z])
  have E3 := Lib.hid (show X * (Y + Z) = X * Y + X * Z from Rat.mul_add X Y Z)
  have E4 := Lib.hid (show X + Y - Y = X from Rat.add_sub_cancel)
  obtain ⟨sg, es⟩ : ∃ sg, sgnQ Y = sg := ⟨_, rfl⟩
  have HES := Lib.hid es
  have hsg : sg = 0 ↔ Y = 0 := by rw [← es]; exact sgnQ_zero Y
  clear es
  by_cases h0 : Y = 0
  · obtain rfl : sg = 0 := hsg.2 h0
    have HY := Lib.hid h0
    clear h0 hsg
    go_enter Try.func5, Try.ntmps5
    go_wp2_with fail
    rw [HV.out]
    clear HV
    have y0_0 : Below V.heap.size V V := Below.refl _ _
    obtain ⟨⟨k0_0_0_0, k0_0_0_1, k0_0_0_2⟩, ⟨k0_0_1_0, k0_0_1_1, k0_0_1_2⟩, ⟨k0_0_2_0, k0_0_2_1, k0_0_2_2⟩⟩ := HS.out _ y0_0
    refine (HR0.out _ (bb hb0 y0_0)).mono ?_
    rintro _ w1 ⟨rfl, b1⟩
    have y0_1 := bb y0_0 b1
    clear k0_0_0_0 k0_0_0_1 k0_0_0_2 k0_0_1_0 k0_0_1_1 k0_0_1_2 k0_0_2_0 k0_0_2_1 k0_0_2_2
    obtain ⟨⟨k1_0_0_0, k1_0_0_1, k1_0_0_2⟩, ⟨k1_0_1_0, k1_0_1_1, k1_0_1_2⟩, ⟨k1_0_2_0, k1_0_2_1, k1_0_2_2⟩⟩ := HS.out _ y0_1
    go_wp2_with fail
    refine (HR1.out _ (bb hb0 y0_1)).mono ?_
    rintro _ w2 ⟨rfl, b2⟩
    have y0_2 := bb y0_1 b2
    clear k1_0_0_0 k1_0_0_1 k1_0_0_2 k1_0_1_0 k1_0_1_1 k1_0_1_2 k1_0_2_0 k1_0_2_1 k1_0_2_2
    obtain ⟨⟨k2_0_0_0, k2_0_0_1, k2_0_0_2⟩, ⟨k2_0_1_0, k2_0_1_1, k2_0_1_2⟩, ⟨k2_0_2_0, k2_0_2_1, k2_0_2_2⟩⟩ := HS.out _ y0_2
    go_wp2_with fail
    refine (HR2.out _ (bb hb0 y0_2)).mono ?_
    rintro _ w3 ⟨rfl, b3⟩
    have y0_3 := bb y0_2 b3
    clear k2_0_0_0 k2_0_0_1 k2_0_0_2 k2_0_1_0 k2_0_1_1 k2_0_1_2 k2_0_2_0 k2_0_2_1 k2_0_2_2
    obtain ⟨⟨k3_0_0_0, k3_0_0_1, k3_0_0_2⟩, ⟨k3_0_1_0, k3_0_1_1, k3_0_1_2⟩, ⟨k3_0_2_0, k3_0_2_1, k3_0_2_2⟩⟩ := HS.out _ y0_3
    go_wp2_with fail
    go_region_held3 (fun w' => (w'.cell? ⟨w.heap.size, 0, none⟩ = some (.bool s0) ∧ w'.cell? ⟨w.heap.size, 1, none⟩ = some (.slice a0 len0 cap0) ∧ w'.cell? ⟨w.heap.size, 2, none⟩ = some (.slice e0 lem0 cab0)) ∧ (w'.cell? ⟨w.heap.size + 1, 0, none⟩ = some (.bool s1) ∧ w'.cell? ⟨w.heap.size + 1, 1, none⟩ = some (.slice a1 len1 cap1) ∧ w'.cell? ⟨w.heap.size + 1, 2, none⟩ = some (.slice e1 lem1 cab1)) ∧ (w'.cell? ⟨w.heap.size + 1 + 1, 0, none⟩ = some (.bool s2) ∧ w'.cell? ⟨w.heap.size + 1 + 1, 1, none⟩ = some (.slice a2 len2 cap2) ∧ w'.cell? ⟨w.heap.size + 1 + 1, 2, none⟩ = some (.slice e2 lem2 cab2))) (first | exact HS.out _ y0_3.drew | exact HS.out _ y0_13 | exact HS.out _ y0_12 | exact HS.out _ y0_11 | exact HS.out _ y0_10 | exact HS.out _ y0_9 | exact HS.out _ y0_8 | exact HS.out _ y0_7 | exact HS.out _ y0_6 | exact HS.out _ y0_5 | exact HS.out _ y0_4 | fail)
      (first
        | (go_at_call 24; (with_reducible refine (rat_add ?hq1 ?hq2 zx zy (by omega)).mono ?_); (case hq1 => (have hh := (qx.below y0_3); exact hh)); (case hq2 => (have hh := (qy.below y0_3); exact hh)); rintro _ w4 ⟨rs4, rA4, rn4, rc4, rD4, rm4, rd4, rfl, u1, b4⟩; have b4 := Below.undrew b4; have y0_4 := bb y0_3 b4)
        | (go_at_call 24; (with_reducible refine (rat_add u1 (qz.below y0_4) zxy zz (by omega)).mono ?_); rintro _ w5 ⟨rs5, rA5, rn5, rc5, rD5, rm5, rd5, rfl, u2, b5⟩; have y0_5 := bb y0_4 b5)
        | (go_at_call 24; (with_reducible refine (rat_add (qz.below y0_5) (qy.below y0_5) zz zy (by omega)).mono ?_); rintro _ w6 ⟨rs6, rA6, rn6, rc6, rD6, rm6, rd6, rfl, u3, b6⟩; have y0_6 := bb y0_5 b6)
        | (go_at_call 24; (with_reducible refine (rat_add (qx.below y0_6) u3 zx zzy (by omega)).mono ?_); rintro _ w7 ⟨rs7, rA7, rn7, rc7, rD7, rm7, rd7, rfl, u4, b7⟩; have y0_7 := bb y0_6 b7)
        | (go_at_call 18; (with_reducible refine (rat_sameT ((u2.below b6).below b7) u4 z3 z4 (by omega) E1.out).mono ?_); rintro _ w8 ⟨rfl, b8⟩; have y0_8 := bb y0_7 b8)
        | (go_at_call 28; (with_reducible refine (rat_mul (qx.below y0_8) (qy.below y0_8) zx zy (by omega)).mono ?_); rintro _ w9 ⟨rs9, rA9, rn9, rc9, rD9, rm9, rd9, rfl, u5, b9⟩; have y0_9 := bb y0_8 b9)
        | (go_at_call 28; (with_reducible refine (rat_mul u5 (qz.below y0_9) wxy zz (by omega)).mono ?_); rintro _ w10 ⟨rs10, rA10, rn10, rc10, rD10, rm10, rd10, rfl, u6, b10⟩; have y0_10 := bb y0_9 b10)
        | (go_at_call 28; (with_reducible refine (rat_mul (qz.below y0_10) (qy.below y0_10) zz zy (by omega)).mono ?_); rintro _ w11 ⟨rs11, rA11, rn11, rc11, rD11, rm11, rd11, rfl, u7, b11⟩; have y0_11 := bb y0_10 b11)
        | (go_at_call 28; (with_reducible refine (rat_mul (qx.below y0_11) u7 zx wzy (by omega)).mono ?_); rintro _ w12 ⟨rs12, rA12, rn12, rc12, rD12, rm12, rd12, rfl, u8, b12⟩; have y0_12 := bb y0_11 b12)
        | (go_at_call 18; (with_reducible refine (rat_sameT ((u6.below b11).below b12) u8 w3' w4' (by omega) E2.out).mono ?_); rintro _ w13 ⟨rfl, b13⟩; have y0_13 := bb y0_12 b13))
    obtain ⟨⟨k13_0_0_0, k13_0_0_1, k13_0_0_2⟩, ⟨k13_0_1_0, k13_0_1_1, k13_0_1_2⟩, ⟨k13_0_2_0, k13_0_2_1, k13_0_2_2⟩⟩ := HS.out _ y0_13
    go_wp2_with fail
    go_region_held3 (fun w' => (w'.cell? ⟨w.heap.size, 0, none⟩ = some (.bool s0) ∧ w'.cell? ⟨w.heap.size, 1, none⟩ = some (.slice a0 len0 cap0) ∧ w'.cell? ⟨w.heap.size, 2, none⟩ = some (.slice e0 lem0 cab0)) ∧ (w'.cell? ⟨w.heap.size + 1, 0, none⟩ = some (.bool s1) ∧ w'.cell? ⟨w.heap.size + 1, 1, none⟩ = some (.slice a1 len1 cap1) ∧ w'.cell? ⟨w.heap.size + 1, 2, none⟩ = some (.slice e1 lem1 cab1)) ∧ (w'.cell? ⟨w.heap.size + 1 + 1, 0, none⟩ = some (.bool s2) ∧ w'.cell? ⟨w.heap.size + 1 + 1, 1, none⟩ = some (.slice a2 len2 cap2) ∧ w'.cell? ⟨w.heap.size + 1 + 1, 2, none⟩ = some (.slice e2 lem2 cab2))) (first | exact HS.out _ y0_13.drew | exact HS.out _ y0_22 | exact HS.out _ y0_21 | exact HS.out _ y0_20 | exact HS.out _ y0_19 | exact HS.out _ y0_18 | exact HS.out _ y0_17 | exact HS.out _ y0_16 | exact HS.out _ y0_15 | exact HS.out _ y0_14 | fail)
      (first
        | (go_at_call 24; (with_reducible refine (rat_add ?hq3 ?hq4 zy zz (by omega)).mono ?_); (case hq3 => (have hh := (qy.below y0_13); exact hh)); (case hq4 => (have hh := (qz.below y0_13); exact hh)); rintro _ w14 ⟨rs14, rA14, rn14, rc14, rD14, rm14, rd14, rfl, u1, b14⟩; have b14 := Below.undrew b14; have y0_14 := bb y0_13 b14)
        | (go_at_call 28; (with_reducible refine (rat_mul (qx.below y0_14) u1 zx zyz (by omega)).mono ?_); rintro _ w15 ⟨rs15, rA15, rn15, rc15, rD15, rm15, rd15, rfl, u2, b15⟩; have y0_15 := bb y0_14 b15)
        | (go_at_call 28; (with_reducible refine (rat_mul (qx.below y0_15) (qy.below y0_15) zx zy (by omega)).mono ?_); rintro _ w16 ⟨rs16, rA16, rn16, rc16, rD16, rm16, rd16, rfl, u3, b16⟩; have y0_16 := bb y0_15 b16)
        | (go_at_call 28; (with_reducible refine (rat_mul (qx.below y0_16) (qz.below y0_16) zx zz (by omega)).mono ?_); rintro _ w17 ⟨rs17, rA17, rn17, rc17, rD17, rm17, rd17, rfl, u4, b17⟩; have y0_17 := bb y0_16 b17)
        | (go_at_call 24; (with_reducible refine (rat_add (u3.below b17) u4 wxy wxz (by omega)).mono ?_); rintro _ w18 ⟨rs18, rA18, rn18, rc18, rD18, rm18, rd18, rfl, u5, b18⟩; have y0_18 := bb y0_17 b18)
        | (go_at_call 18; (with_reducible refine (rat_sameT (((u2.below b16).below b17).below b18) u5 p1 p2 (by omega) E3.out).mono ?_); rintro _ w19 ⟨rfl, b19⟩; have y0_19 := bb y0_18 b19)
        | (go_at_call 24; (with_reducible refine (rat_add (qx.below y0_19) (qy.below y0_19) zx zy (by omega)).mono ?_); rintro _ w20 ⟨rs20, rA20, rn20, rc20, rD20, rm20, rd20, rfl, u6, b20⟩; have y0_20 := bb y0_19 b20)
        | (go_at_call 26; (with_reducible refine (rat_sub u6 (qy.below y0_20) zxy zy (by omega)).mono ?_); rintro _ w21 ⟨rs21, rA21, rn21, rc21, rD21, rm21, rd21, rfl, u7, b21⟩; have y0_21 := bb y0_20 b21)
        | (go_at_call 18; (with_reducible refine (rat_sameT u7 (qx.below y0_21) p3 zx (by omega) E4.out).mono ?_); rintro _ w22 ⟨rfl, b22⟩; have y0_22 := bb y0_21 b22))
    obtain ⟨⟨k22_0_0_0, k22_0_0_1, k22_0_0_2⟩, ⟨k22_0_1_0, k22_0_1_1, k22_0_1_2⟩, ⟨k22_0_2_0, k22_0_2_1, k22_0_2_2⟩⟩ := HS.out _ y0_22
    go_wp2_with fail
    have o22 : Below V.heap.size V (w22.drew.alloc (.cells #[.bool false, .slice none 0 0, .slice none 0 0] 24)) := y0_22.drew.alloc y0_22.drew.size _
    have HO := Lib.hid o22
    clear o22
    go_region_held3 (fun w' => (w'.cell? ⟨w.heap.size, 0, none⟩ = some (.bool s0) ∧ w'.cell? ⟨w.heap.size, 1, none⟩ = some (.slice a0 len0 cap0) ∧ w'.cell? ⟨w.heap.size, 2, none⟩ = some (.slice e0 lem0 cab0)) ∧ (w'.cell? ⟨w.heap.size + 1, 0, none⟩ = some (.bool s1) ∧ w'.cell? ⟨w.heap.size + 1, 1, none⟩ = some (.slice a1 len1 cap1) ∧ w'.cell? ⟨w.heap.size + 1, 2, none⟩ = some (.slice e1 lem1 cab1)) ∧ (w'.cell? ⟨w.heap.size + 1 + 1, 0, none⟩ = some (.bool s2) ∧ w'.cell? ⟨w.heap.size + 1 + 1, 1, none⟩ = some (.slice a2 len2 cap2) ∧ w'.cell? ⟨w.heap.size + 1 + 1, 2, none⟩ = some (.slice e2 lem2 cab2))) (first | exact HS.out _ y0_22.drew | exact HS.out _ HO.out | exact HS.out _ (y0_24.alloc y0_24.size _) | exact HS.out _ y0_24 | exact HS.out _ (y0_23.alloc y0_23.size _) | exact HS.out _ y0_23 | exact HS.out _ (below_put3 y0_24 y0_22.size (Nat.le_refl _) (.bool false) (.slice none 0 0) (.slice none 0 0)) | exact HS.out _ (below_put3 y0_24 y0_23.size (Nat.le_refl _) (.bool false) (.slice none 0 0) (.slice none 0 0)) | fail)
      (first
        | (go_at_call 28; (with_reducible refine (rat_mul ?hx1 ?hx2 zx zy (by omega)).mono ?_); (case hx1 => first | (have hh := qx.below y0_22; exact hh) | (have hh := qx.below HO.out; exact hh)); (case hx2 => first | (have hh := qy.below y0_22; exact hh) | (have hh := qy.below HO.out; exact hh)); rintro _ w23 ⟨rs23, rA23, rn23, rc23, rD23, rm23, rd23, rfl, u8, b23⟩; have y0_23 : Below V.heap.size V w23 := (by first | exact bb y0_22 (Below.undrew b23) | exact bb HO.out b23); (first | (have Bp : Box 24 w23 w22.heap.size #[.bool false, .slice none 0 0, .slice none 0 0] := ((Box.new w22.drew _ #[.bool false, .slice none 0 0, .slice none 0 0]).below' b23)) | (have Bp : True := trivial)))
        | (go_at_call 20; (with_reducible refine (rat_div_zero ?hx3 ?hx4 wxy zy (by omega) HY.out).mono ?_); (case hx3 => first | exact u8 | exact u8.below (below_alloc _ _)); (case hx4 => first | exact qy.below y0_23 | exact qy.below (y0_23.alloc y0_23.size _)); rintro _ w24 ⟨rfl, b24⟩; have y0_24 : Below V.heap.size V w24 := (by first | exact bb y0_23 b24 | exact bb (y0_23.alloc y0_23.size _) b24); (first | (have Bq : Box 24 w24 w22.heap.size #[.bool false, .slice none 0 0, .slice none 0 0] := (Bp.below' b24)) | (have Bq : Box 24 w24 w23.heap.size #[.bool false, .slice none 0 0, .slice none 0 0] := ((Box.new w23 _ #[.bool false, .slice none 0 0, .slice none 0 0]).below' b24)) | (have Bq : True := trivial)); (first | (obtain ⟨⟨t0, t1, t2⟩, f0, f1, f2⟩ := Bq.three) | skip)))
    all_goals
      first
        | (obtain ⟨w25, hV25⟩ : ∃ V, w24.alloc (.cells #[.bool false, .slice none 0 0, .slice none 0 0] 24) = V := ⟨_, rfl⟩; rw [hV25]; have B25 : Box 24 w25 (w24.heap.size) #[.bool false, .slice none 0 0, .slice none 0 0] := (by rw [← hV25]; exact Box.new w24 _ _); have y0_25 : Below V.heap.size V w25 := (by rw [← hV25]; exact y0_24.alloc y0_24.size _); have zz9 := trivial; clear hV25)
        | (obtain ⟨w25, hV25⟩ : ∃ V, ((w24.setCell ⟨w22.heap.size, 0, none⟩ (.bool false)).setCell ⟨w22.heap.size, 1, none⟩ (.slice none 0 0)).setCell ⟨w22.heap.size, 2, none⟩ (.slice none 0 0) = V := ⟨_, rfl⟩; rw [hV25]; have B25 : Box 24 w25 (w22.heap.size) #[.bool false, .slice none 0 0, .slice none 0 0] := (by rw [← hV25]; exact box_putSelf Bq (.bool false) (.slice none 0 0) (.slice none 0 0)); have y0_25 : Below V.heap.size V w25 := (by rw [← hV25]; exact below_put3 y0_24 y0_22.size (Nat.le_refl _) (.bool false) (.slice none 0 0) (.slice none 0 0)); have zz9 := trivial; clear hV25)
        | (obtain ⟨w25, hV25⟩ : ∃ V, ((w24.setCell ⟨w23.heap.size, 0, none⟩ (.bool false)).setCell ⟨w23.heap.size, 1, none⟩ (.slice none 0 0)).setCell ⟨w23.heap.size, 2, none⟩ (.slice none 0 0) = V := ⟨_, rfl⟩; rw [hV25]; have B25 : Box 24 w25 (w23.heap.size) #[.bool false, .slice none 0 0, .slice none 0 0] := (by rw [← hV25]; exact box_putSelf Bq (.bool false) (.slice none 0 0) (.slice none 0 0)); have y0_25 : Below V.heap.size V w25 := (by rw [← hV25]; exact below_put3 y0_24 y0_23.size (Nat.le_refl _) (.bool false) (.slice none 0 0) (.slice none 0 0)); have zz9 := trivial; clear hV25)
      have HQ1 := Lib.hid (fun (w' : World) (hb : Below w25.heap.size w25 w') => (B25.below' hb).three.1)
      clear B25
      have y25_25 : Below w25.heap.size w25 w25 := Below.refl _ _
      obtain ⟨⟨k25_0_0_0, k25_0_0_1, k25_0_0_2⟩, ⟨k25_0_1_0, k25_0_1_1, k25_0_1_2⟩, ⟨k25_0_2_0, k25_0_2_1, k25_0_2_2⟩⟩ := HS.out _ y0_25
      obtain ⟨k25_1_0_0, k25_1_0_1, k25_1_0_2⟩ := HQ1.out _ y25_25
      go_wp2_with fail
      refine (rat_signE (qy.below y0_25) zy (by omega) 0 HES.out).mono ?_
      rintro _ w26 ⟨rfl, b26⟩
      have y0_26 := bb y0_25 b26
      have y25_26 := bb y25_25 b26
      clear k25_0_0_0 k25_0_0_1 k25_0_0_2 k25_0_1_0 k25_0_1_1 k25_0_1_2 k25_0_2_0 k25_0_2_1 k25_0_2_2 k25_1_0_0 k25_1_0_1 k25_1_0_2
      obtain ⟨⟨k26_0_0_0, k26_0_0_1, k26_0_0_2⟩, ⟨k26_0_1_0, k26_0_1_1, k26_0_1_2⟩, ⟨k26_0_2_0, k26_0_2_1, k26_0_2_2⟩⟩ := HS.out _ y0_26
      obtain ⟨k26_1_0_0, k26_1_0_1, k26_1_0_2⟩ := HQ1.out _ y25_26
      go_wp2_with fail
      refine (rat_add (qx.below y0_26) (qy.below y0_26) zx zy (by omega)).mono ?_
      rintro _ w27 ⟨rs27, rA27, rn27, rc27, rD27, rm27, rd27, rfl, v10, b27⟩
      have y0_27 := bb y0_26 b27
      have y25_27 := bb y25_26 b27
      clear k26_0_0_0 k26_0_0_1 k26_0_0_2 k26_0_1_0 k26_0_1_1 k26_0_1_2 k26_0_2_0 k26_0_2_1 k26_0_2_2 k26_1_0_0 k26_1_0_1 k26_1_0_2
      obtain ⟨⟨k27_0_0_0, k27_0_0_1, k27_0_0_2⟩, ⟨k27_0_1_0, k27_0_1_1, k27_0_1_2⟩, ⟨k27_0_2_0, k27_0_2_1, k27_0_2_2⟩⟩ := HS.out _ y0_27
      obtain ⟨k27_1_0_0, k27_1_0_1, k27_1_0_2⟩ := HQ1.out _ y25_27
      go_wp2_with fail
      refine (rat_rightT v10 zxy (by omega)).mono ?_
      rintro _ w28 ⟨rfl, b28⟩
      have y0_28 := bb y0_27 b28
      have y25_28 := bb y25_27 b28
      clear k27_0_0_0 k27_0_0_1 k27_0_0_2 k27_0_1_0 k27_0_1_1 k27_0_1_2 k27_0_2_0 k27_0_2_1 k27_0_2_2 k27_1_0_0 k27_1_0_1 k27_1_0_2
      obtain ⟨⟨k28_0_0_0, k28_0_0_1, k28_0_0_2⟩, ⟨k28_0_1_0, k28_0_1_1, k28_0_1_2⟩, ⟨k28_0_2_0, k28_0_2_1, k28_0_2_2⟩⟩ := HS.out _ y0_28
      obtain ⟨k28_1_0_0, k28_1_0_1, k28_1_0_2⟩ := HQ1.out _ y25_28
      go_wp2_with fail
      refine (rat_mul (qx.below y0_28) (qy.below y0_28) zx zy (by omega)).mono ?_
      rintro _ w29 ⟨rs29, rA29, rn29, rc29, rD29, rm29, rd29, rfl, v11, b29⟩
      have y0_29 := bb y0_28 b29
      have y25_29 := bb y25_28 b29
      clear k28_0_0_0 k28_0_0_1 k28_0_0_2 k28_0_1_0 k28_0_1_1 k28_0_1_2 k28_0_2_0 k28_0_2_1 k28_0_2_2 k28_1_0_0 k28_1_0_1 k28_1_0_2
      obtain ⟨⟨k29_0_0_0, k29_0_0_1, k29_0_0_2⟩, ⟨k29_0_1_0, k29_0_1_1, k29_0_1_2⟩, ⟨k29_0_2_0, k29_0_2_1, k29_0_2_2⟩⟩ := HS.out _ y0_29
      obtain ⟨k29_1_0_0, k29_1_0_1, k29_1_0_2⟩ := HQ1.out _ y25_29
      go_wp2_with fail
      refine (rat_rightT v11 wxy (by omega)).mono ?_
      rintro _ w30 ⟨rfl, b30⟩
      have y0_30 := bb y0_29 b30
      have y25_30 := bb y25_29 b30
      clear k29_0_0_0 k29_0_0_1 k29_0_0_2 k29_0_1_0 k29_0_1_1 k29_0_1_2 k29_0_2_0 k29_0_2_1 k29_0_2_2 k29_1_0_0 k29_1_0_1 k29_1_0_2
      obtain ⟨⟨k30_0_0_0, k30_0_0_1, k30_0_0_2⟩, ⟨k30_0_1_0, k30_0_1_1, k30_0_1_2⟩, ⟨k30_0_2_0, k30_0_2_1, k30_0_2_2⟩⟩ := HS.out _ y0_30
      obtain ⟨k30_1_0_0, k30_1_0_1, k30_1_0_2⟩ := HQ1.out _ y25_30
      go_wp2_with fail
      refine (same07 _).mono ?_
      rintro _ w31 ⟨rfl, b31⟩
      have y0_31 := bb y0_30 b31
      have y25_31 := bb y25_30 b31
      clear k30_0_0_0 k30_0_0_1 k30_0_0_2 k30_0_1_0 k30_0_1_1 k30_0_1_2 k30_0_2_0 k30_0_2_1 k30_0_2_2 k30_1_0_0 k30_1_0_1 k30_1_0_2
      obtain ⟨⟨k31_0_0_0, k31_0_0_1, k31_0_0_2⟩, ⟨k31_0_1_0, k31_0_1_1, k31_0_1_2⟩, ⟨k31_0_2_0, k31_0_2_1, k31_0_2_2⟩⟩ := HS.out _ y0_31
      obtain ⟨k31_1_0_0, k31_1_0_1, k31_1_0_2⟩ := HQ1.out _ y25_31
      go_wp2_with fail
      go_ret
      exact ⟨rfl, bb hb0 y0_31⟩
  · have hne : (sg != 0) = true := by simp only [bne_iff_ne, ne_eq]; exact fun e => h0 (hsg.1 e)
    have E5 := Lib.hid (show X * Y / Y = X from Rat.mul_div_cancel h0)
    have HY := Lib.hid h0
    clear h0 hsg
    go_enter Try.func5, Try.ntmps5
    go_wp2_with fail
    rw [HV.out]
    clear HV
    have y0_0 : Below V.heap.size V V := Below.refl _ _
    obtain ⟨⟨k0_0_0_0, k0_0_0_1, k0_0_0_2⟩, ⟨k0_0_1_0, k0_0_1_1, k0_0_1_2⟩, ⟨k0_0_2_0, k0_0_2_1, k0_0_2_2⟩⟩ := HS.out _ y0_0
    refine (HR0.out _ (bb hb0 y0_0)).mono ?_
    rintro _ w1 ⟨rfl, b1⟩
    have y0_1 := bb y0_0 b1
    clear k0_0_0_0 k0_0_0_1 k0_0_0_2 k0_0_1_0 k0_0_1_1 k0_0_1_2 k0_0_2_0 k0_0_2_1 k0_0_2_2
    obtain ⟨⟨k1_0_0_0, k1_0_0_1, k1_0_0_2⟩, ⟨k1_0_1_0, k1_0_1_1, k1_0_1_2⟩, ⟨k1_0_2_0, k1_0_2_1, k1_0_2_2⟩⟩ := HS.out _ y0_1
    go_wp2_with fail
    refine (HR1.out _ (bb hb0 y0_1)).mono ?_
    rintro _ w2 ⟨rfl, b2⟩
    have y0_2 := bb y0_1 b2
    clear k1_0_0_0 k1_0_0_1 k1_0_0_2 k1_0_1_0 k1_0_1_1 k1_0_1_2 k1_0_2_0 k1_0_2_1 k1_0_2_2
    obtain ⟨⟨k2_0_0_0, k2_0_0_1, k2_0_0_2⟩, ⟨k2_0_1_0, k2_0_1_1, k2_0_1_2⟩, ⟨k2_0_2_0, k2_0_2_1, k2_0_2_2⟩⟩ := HS.out _ y0_2
    go_wp2_with fail
    refine (HR2.out _ (bb hb0 y0_2)).mono ?_
    rintro _ w3 ⟨rfl, b3⟩
    have y0_3 := bb y0_2 b3
    clear k2_0_0_0 k2_0_0_1 k2_0_0_2 k2_0_1_0 k2_0_1_1 k2_0_1_2 k2_0_2_0 k2_0_2_1 k2_0_2_2
    obtain ⟨⟨k3_0_0_0, k3_0_0_1, k3_0_0_2⟩, ⟨k3_0_1_0, k3_0_1_1, k3_0_1_2⟩, ⟨k3_0_2_0, k3_0_2_1, k3_0_2_2⟩⟩ := HS.out _ y0_3
    go_wp2_with fail
    go_region_held3 (fun w' => (w'.cell? ⟨w.heap.size, 0, none⟩ = some (.bool s0) ∧ w'.cell? ⟨w.heap.size, 1, none⟩ = some (.slice a0 len0 cap0) ∧ w'.cell? ⟨w.heap.size, 2, none⟩ = some (.slice e0 lem0 cab0)) ∧ (w'.cell? ⟨w.heap.size + 1, 0, none⟩ = some (.bool s1) ∧ w'.cell? ⟨w.heap.size + 1, 1, none⟩ = some (.slice a1 len1 cap1) ∧ w'.cell? ⟨w.heap.size + 1, 2, none⟩ = some (.slice e1 lem1 cab1)) ∧ (w'.cell? ⟨w.heap.size + 1 + 1, 0, none⟩ = some (.bool s2) ∧ w'.cell? ⟨w.heap.size + 1 + 1, 1, none⟩ = some (.slice a2 len2 cap2) ∧ w'.cell? ⟨w.heap.size + 1 + 1, 2, none⟩ = some (.slice e2 lem2 cab2))) (first | exact HS.out _ y0_3.drew | exact HS.out _ y0_13 | exact HS.out _ y0_12 | exact HS.out _ y0_11 | exact HS.out _ y0_10 | exact HS.out _ y0_9 | exact HS.out _ y0_8 | exact HS.out _ y0_7 | exact HS.out _ y0_6 | exact HS.out _ y0_5 | exact HS.out _ y0_4 | fail)
      (first
        | (go_at_call 24; (with_reducible refine (rat_add ?hq1 ?hq2 zx zy (by omega)).mono ?_); (case hq1 => (have hh := (qx.below y0_3); exact hh)); (case hq2 => (have hh := (qy.below y0_3); exact hh)); rintro _ w4 ⟨rs4, rA4, rn4, rc4, rD4, rm4, rd4, rfl, u1, b4⟩; have b4 := Below.undrew b4; have y0_4 := bb y0_3 b4)
        | (go_at_call 24; (with_reducible refine (rat_add u1 (qz.below y0_4) zxy zz (by omega)).mono ?_); rintro _ w5 ⟨rs5, rA5, rn5, rc5, rD5, rm5, rd5, rfl, u2, b5⟩; have y0_5 := bb y0_4 b5)
        | (go_at_call 24; (with_reducible refine (rat_add (qz.below y0_5) (qy.below y0_5) zz zy (by omega)).mono ?_); rintro _ w6 ⟨rs6, rA6, rn6, rc6, rD6, rm6, rd6, rfl, u3, b6⟩; have y0_6 := bb y0_5 b6)
        | (go_at_call 24; (with_reducible refine (rat_add (qx.below y0_6) u3 zx zzy (by omega)).mono ?_); rintro _ w7 ⟨rs7, rA7, rn7, rc7, rD7, rm7, rd7, rfl, u4, b7⟩; have y0_7 := bb y0_6 b7)
        | (go_at_call 18; (with_reducible refine (rat_sameT ((u2.below b6).below b7) u4 z3 z4 (by omega) E1.out).mono ?_); rintro _ w8 ⟨rfl, b8⟩; have y0_8 := bb y0_7 b8)
        | (go_at_call 28; (with_reducible refine (rat_mul (qx.below y0_8) (qy.below y0_8) zx zy (by omega)).mono ?_); rintro _ w9 ⟨rs9, rA9, rn9, rc9, rD9, rm9, rd9, rfl, u5, b9⟩; have y0_9 := bb y0_8 b9)
        | (go_at_call 28; (with_reducible refine (rat_mul u5 (qz.below y0_9) wxy zz (by omega)).mono ?_); rintro _ w10 ⟨rs10, rA10, rn10, rc10, rD10, rm10, rd10, rfl, u6, b10⟩; have y0_10 := bb y0_9 b10)
        | (go_at_call 28; (with_reducible refine (rat_mul (qz.below y0_10) (qy.below y0_10) zz zy (by omega)).mono ?_); rintro _ w11 ⟨rs11, rA11, rn11, rc11, rD11, rm11, rd11, rfl, u7, b11⟩; have y0_11 := bb y0_10 b11)
        | (go_at_call 28; (with_reducible refine (rat_mul (qx.below y0_11) u7 zx wzy (by omega)).mono ?_); rintro _ w12 ⟨rs12, rA12, rn12, rc12, rD12, rm12, rd12, rfl, u8, b12⟩; have y0_12 := bb y0_11 b12)
        | (go_at_call 18; (with_reducible refine (rat_sameT ((u6.below b11).below b12) u8 w3' w4' (by omega) E2.out).mono ?_); rintro _ w13 ⟨rfl, b13⟩; have y0_13 := bb y0_12 b13))
    obtain ⟨⟨k13_0_0_0, k13_0_0_1, k13_0_0_2⟩, ⟨k13_0_1_0, k13_0_1_1, k13_0_1_2⟩, ⟨k13_0_2_0, k13_0_2_1, k13_0_2_2⟩⟩ := HS.out _ y0_13
    go_wp2_with fail
    go_region_held3 (fun w' => (w'.cell? ⟨w.heap.size, 0, none⟩ = some (.bool s0) ∧ w'.cell? ⟨w.heap.size, 1, none⟩ = some (.slice a0 len0 cap0) ∧ w'.cell? ⟨w.heap.size, 2, none⟩ = some (.slice e0 lem0 cab0)) ∧ (w'.cell? ⟨w.heap.size + 1, 0, none⟩ = some (.bool s1) ∧ w'.cell? ⟨w.heap.size + 1, 1, none⟩ = some (.slice a1 len1 cap1) ∧ w'.cell? ⟨w.heap.size + 1, 2, none⟩ = some (.slice e1 lem1 cab1)) ∧ (w'.cell? ⟨w.heap.size + 1 + 1, 0, none⟩ = some (.bool s2) ∧ w'.cell? ⟨w.heap.size + 1 + 1, 1, none⟩ = some (.slice a2 len2 cap2) ∧ w'.cell? ⟨w.heap.size + 1 + 1, 2, none⟩ = some (.slice e2 lem2 cab2))) (first | exact HS.out _ y0_13.drew | exact HS.out _ y0_22 | exact HS.out _ y0_21 | exact HS.out _ y0_20 | exact HS.out _ y0_19 | exact HS.out _ y0_18 | exact HS.out _ y0_17 | exact HS.out _ y0_16 | exact HS.out _ y0_15 | exact HS.out _ y0_14 | fail)
      (first
        | (go_at_call 24; (with_reducible refine (rat_add ?hq3 ?hq4 zy zz (by omega)).mono ?_); (case hq3 => (have hh := (qy.below y0_13); exact hh)); (case hq4 => (have hh := (qz.below y0_13); exact hh)); rintro _ w14 ⟨rs14, rA14, rn14, rc14, rD14, rm14, rd14, rfl, u1, b14⟩; have b14 := Below.undrew b14; have y0_14 := bb y0_13 b14)
        | (go_at_call 28; (with_reducible refine (rat_mul (qx.below y0_14) u1 zx zyz (by omega)).mono ?_); rintro _ w15 ⟨rs15, rA15, rn15, rc15, rD15, rm15, rd15, rfl, u2, b15⟩; have y0_15 := bb y0_14 b15)
        | (go_at_call 28; (with_reducible refine (rat_mul (qx.below y0_15) (qy.below y0_15) zx zy (by omega)).mono ?_); rintro _ w16 ⟨rs16, rA16, rn16, rc16, rD16, rm16, rd16, rfl, u3, b16⟩; have y0_16 := bb y0_15 b16)
        | (go_at_call 28; (with_reducible refine (rat_mul (qx.below y0_16) (qz.below y0_16) zx zz (by omega)).mono ?_); rintro _ w17 ⟨rs17, rA17, rn17, rc17, rD17, rm17, rd17, rfl, u4, b17⟩; have y0_17 := bb y0_16 b17)
        | (go_at_call 24; (with_reducible refine (rat_add (u3.below b17) u4 wxy wxz (by omega)).mono ?_); rintro _ w18 ⟨rs18, rA18, rn18, rc18, rD18, rm18, rd18, rfl, u5, b18⟩; have y0_18 := bb y0_17 b18)
        | (go_at_call 18; (with_reducible refine (rat_sameT (((u2.below b16).below b17).below b18) u5 p1 p2 (by omega) E3.out).mono ?_); rintro _ w19 ⟨rfl, b19⟩; have y0_19 := bb y0_18 b19)
        | (go_at_call 24; (with_reducible refine (rat_add (qx.below y0_19) (qy.below y0_19) zx zy (by omega)).mono ?_); rintro _ w20 ⟨rs20, rA20, rn20, rc20, rD20, rm20, rd20, rfl, u6, b20⟩; have y0_20 := bb y0_19 b20)
        | (go_at_call 26; (with_reducible refine (rat_sub u6 (qy.below y0_20) zxy zy (by omega)).mono ?_); rintro _ w21 ⟨rs21, rA21, rn21, rc21, rD21, rm21, rd21, rfl, u7, b21⟩; have y0_21 := bb y0_20 b21)
        | (go_at_call 18; (with_reducible refine (rat_sameT u7 (qx.below y0_21) p3 zx (by omega) E4.out).mono ?_); rintro _ w22 ⟨rfl, b22⟩; have y0_22 := bb y0_21 b22))
    obtain ⟨⟨k22_0_0_0, k22_0_0_1, k22_0_0_2⟩, ⟨k22_0_1_0, k22_0_1_1, k22_0_1_2⟩, ⟨k22_0_2_0, k22_0_2_1, k22_0_2_2⟩⟩ := HS.out _ y0_22
    go_wp2_with fail
    have o22 : Below V.heap.size V (w22.drew.alloc (.cells #[.bool false, .slice none 0 0, .slice none 0 0] 24)) := y0_22.drew.alloc y0_22.drew.size _
    have HO := Lib.hid o22
    clear o22
    go_region_held3 (fun w' => (w'.cell? ⟨w.heap.size, 0, none⟩ = some (.bool s0) ∧ w'.cell? ⟨w.heap.size, 1, none⟩ = some (.slice a0 len0 cap0) ∧ w'.cell? ⟨w.heap.size, 2, none⟩ = some (.slice e0 lem0 cab0)) ∧ (w'.cell? ⟨w.heap.size + 1, 0, none⟩ = some (.bool s1) ∧ w'.cell? ⟨w.heap.size + 1, 1, none⟩ = some (.slice a1 len1 cap1) ∧ w'.cell? ⟨w.heap.size + 1, 2, none⟩ = some (.slice e1 lem1 cab1)) ∧ (w'.cell? ⟨w.heap.size + 1 + 1, 0, none⟩ = some (.bool s2) ∧ w'.cell? ⟨w.heap.size + 1 + 1, 1, none⟩ = some (.slice a2 len2 cap2) ∧ w'.cell? ⟨w.heap.size + 1 + 1, 2, none⟩ = some (.slice e2 lem2 cab2))) (first | exact HS.out _ y0_22.drew | exact HS.out _ HO.out | exact HS.out _ (y0_24.alloc y0_24.size _) | exact HS.out _ y0_24 | exact HS.out _ (y0_23.alloc y0_23.size _) | exact HS.out _ y0_23 | exact HS.out _ (below_put3 y0_24 y0_22.size (Nat.le_refl _) (.bool rs24) (.slice rA24 rn24 rc24) (.slice rD24 rm24 rd24)) | exact HS.out _ (below_put3 y0_24 y0_23.size (Nat.le_refl _) (.bool rs24) (.slice rA24 rn24 rc24) (.slice rD24 rm24 rd24)) | fail)
      (first
        | (go_at_call 28; (with_reducible refine (rat_mul ?hx1 ?hx2 zx zy (by omega)).mono ?_); (case hx1 => first | (have hh := qx.below y0_22; exact hh) | (have hh := qx.below HO.out; exact hh)); (case hx2 => first | (have hh := qy.below y0_22; exact hh) | (have hh := qy.below HO.out; exact hh)); rintro _ w23 ⟨rs23, rA23, rn23, rc23, rD23, rm23, rd23, rfl, u8, b23⟩; have y0_23 : Below V.heap.size V w23 := (by first | exact bb y0_22 (Below.undrew b23) | exact bb HO.out b23); (first | (have Bp : Box 24 w23 w22.heap.size #[.bool false, .slice none 0 0, .slice none 0 0] := ((Box.new w22.drew _ #[.bool false, .slice none 0 0, .slice none 0 0]).below' b23)) | (have Bp : True := trivial)))
        | (go_at_call 20; (with_reducible refine (rat_div ?hx3 ?hx4 wxy zy (by omega) HY.out).mono ?_); (case hx3 => first | exact u8 | exact u8.below (below_alloc _ _)); (case hx4 => first | exact qy.below y0_23 | exact qy.below (y0_23.alloc y0_23.size _)); rintro _ w24 ⟨rs24, rA24, rn24, rc24, rD24, rm24, rd24, rfl, u9, b24⟩; have y0_24 : Below V.heap.size V w24 := (by first | exact bb y0_23 b24 | exact bb (y0_23.alloc y0_23.size _) b24); (first | (have Bq : Box 24 w24 w22.heap.size #[.bool false, .slice none 0 0, .slice none 0 0] := (Bp.below' b24)) | (have Bq : Box 24 w24 w23.heap.size #[.bool false, .slice none 0 0, .slice none 0 0] := ((Box.new w23 _ #[.bool false, .slice none 0 0, .slice none 0 0]).below' b24)) | (have Bq : True := trivial)); (first | (obtain ⟨⟨t0, t1, t2⟩, f0, f1, f2⟩ := Bq.three) | skip)))
    all_goals
      first
        | (obtain ⟨w25, hV25⟩ : ∃ V, w24.alloc (.cells #[.bool rs24, .slice rA24 rn24 rc24, .slice rD24 rm24 rd24] 24) = V := ⟨_, rfl⟩; rw [hV25]; have B25 : Box 24 w25 (w24.heap.size) #[.bool rs24, .slice rA24 rn24 rc24, .slice rD24 rm24 rd24] := (by rw [← hV25]; exact Box.new w24 _ _); have y0_25 : Below V.heap.size V w25 := (by rw [← hV25]; exact y0_24.alloc y0_24.size _); have u10 : Q w25 rs24 rA24 rn24 rc24 rD24 rm24 rd24 (X * Y / Y) := (by rw [← hV25]; exact u9.below (below_alloc w24 (.cells #[.bool rs24, .slice rA24 rn24 rc24, .slice rD24 rm24 rd24] 24))); clear hV25)
        | (obtain ⟨w25, hV25⟩ : ∃ V, ((w24.setCell ⟨w22.heap.size, 0, none⟩ (.bool rs24)).setCell ⟨w22.heap.size, 1, none⟩ (.slice rA24 rn24 rc24)).setCell ⟨w22.heap.size, 2, none⟩ (.slice rD24 rm24 rd24) = V := ⟨_, rfl⟩; rw [hV25]; have B25 : Box 24 w25 (w22.heap.size) #[.bool rs24, .slice rA24 rn24 rc24, .slice rD24 rm24 rd24] := (by rw [← hV25]; exact box_putSelf Bq (.bool rs24) (.slice rA24 rn24 rc24) (.slice rD24 rm24 rd24)); have y0_25 : Below V.heap.size V w25 := (by rw [← hV25]; exact below_put3 y0_24 y0_22.size (Nat.le_refl _) (.bool rs24) (.slice rA24 rn24 rc24) (.slice rD24 rm24 rd24)); have u10 : Q w25 rs24 rA24 rn24 rc24 rD24 rm24 rd24 (X * Y / Y) := (by rw [← hV25]; exact u9.put3 (x0 := .bool rs24) (x1 := .slice rA24 rn24 rc24) (x2 := .slice rD24 rm24 rd24) ⟨_, _, _, _, _, _, _, Bq⟩); clear hV25)
        | (obtain ⟨w25, hV25⟩ : ∃ V, ((w24.setCell ⟨w23.heap.size, 0, none⟩ (.bool rs24)).setCell ⟨w23.heap.size, 1, none⟩ (.slice rA24 rn24 rc24)).setCell ⟨w23.heap.size, 2, none⟩ (.slice rD24 rm24 rd24) = V := ⟨_, rfl⟩; rw [hV25]; have B25 : Box 24 w25 (w23.heap.size) #[.bool rs24, .slice rA24 rn24 rc24, .slice rD24 rm24 rd24] := (by rw [← hV25]; exact box_putSelf Bq (.bool rs24) (.slice rA24 rn24 rc24) (.slice rD24 rm24 rd24)); have y0_25 : Below V.heap.size V w25 := (by rw [← hV25]; exact below_put3 y0_24 y0_23.size (Nat.le_refl _) (.bool rs24) (.slice rA24 rn24 rc24) (.slice rD24 rm24 rd24)); have u10 : Q w25 rs24 rA24 rn24 rc24 rD24 rm24 rd24 (X * Y / Y) := (by rw [← hV25]; exact u9.put3 (x0 := .bool rs24) (x1 := .slice rA24 rn24 rc24) (x2 := .slice rD24 rm24 rd24) ⟨_, _, _, _, _, _, _, Bq⟩); clear hV25)
      have HQ1 := Lib.hid (fun (w' : World) (hb : Below w25.heap.size w25 w') => (B25.below' hb).three.1)
      clear B25
      have y25_25 : Below w25.heap.size w25 w25 := Below.refl _ _
      obtain ⟨⟨k25_0_0_0, k25_0_0_1, k25_0_0_2⟩, ⟨k25_0_1_0, k25_0_1_1, k25_0_1_2⟩, ⟨k25_0_2_0, k25_0_2_1, k25_0_2_2⟩⟩ := HS.out _ y0_25
      obtain ⟨k25_1_0_0, k25_1_0_1, k25_1_0_2⟩ := HQ1.out _ y25_25
      go_wp2_with fail
      refine (rat_signE (qy.below y0_25) zy (by omega) sg HES.out).mono ?_
      rintro _ w26 ⟨rfl, b26⟩
      have y0_26 := bb y0_25 b26
      have y25_26 := bb y25_25 b26
      clear k25_0_0_0 k25_0_0_1 k25_0_0_2 k25_0_1_0 k25_0_1_1 k25_0_1_2 k25_0_2_0 k25_0_2_1 k25_0_2_2 k25_1_0_0 k25_1_0_1 k25_1_0_2
      obtain ⟨⟨k26_0_0_0, k26_0_0_1, k26_0_0_2⟩, ⟨k26_0_1_0, k26_0_1_1, k26_0_1_2⟩, ⟨k26_0_2_0, k26_0_2_1, k26_0_2_2⟩⟩ := HS.out _ y0_26
      obtain ⟨k26_1_0_0, k26_1_0_1, k26_1_0_2⟩ := HQ1.out _ y25_26
      go_wp2_with fail
      refine (rat_sameT (u10.below b26) (qx.below y0_26) p4 zx (by omega) E5.out).mono ?_
      rintro _ w27 ⟨rfl, b27⟩
      have y0_27 := bb y0_26 b27
      have y25_27 := bb y25_26 b27
      clear k26_0_0_0 k26_0_0_1 k26_0_0_2 k26_0_1_0 k26_0_1_1 k26_0_1_2 k26_0_2_0 k26_0_2_1 k26_0_2_2 k26_1_0_0 k26_1_0_1 k26_1_0_2
      obtain ⟨⟨k27_0_0_0, k27_0_0_1, k27_0_0_2⟩, ⟨k27_0_1_0, k27_0_1_1, k27_0_1_2⟩, ⟨k27_0_2_0, k27_0_2_1, k27_0_2_2⟩⟩ := HS.out _ y0_27
      obtain ⟨k27_1_0_0, k27_1_0_1, k27_1_0_2⟩ := HQ1.out _ y25_27
      go_wp2_with fail
      refine (rat_add (qx.below y0_27) (qy.below y0_27) zx zy (by omega)).mono ?_
      rintro _ w28 ⟨rs28, rA28, rn28, rc28, rD28, rm28, rd28, rfl, v10, b28⟩
      have y0_28 := bb y0_27 b28
      have y25_28 := bb y25_27 b28
      clear k27_0_0_0 k27_0_0_1 k27_0_0_2 k27_0_1_0 k27_0_1_1 k27_0_1_2 k27_0_2_0 k27_0_2_1 k27_0_2_2 k27_1_0_0 k27_1_0_1 k27_1_0_2
      obtain ⟨⟨k28_0_0_0, k28_0_0_1, k28_0_0_2⟩, ⟨k28_0_1_0, k28_0_1_1, k28_0_1_2⟩, ⟨k28_0_2_0, k28_0_2_1, k28_0_2_2⟩⟩ := HS.out _ y0_28
      obtain ⟨k28_1_0_0, k28_1_0_1, k28_1_0_2⟩ := HQ1.out _ y25_28
      go_wp2_with fail
      refine (rat_rightT v10 zxy (by omega)).mono ?_
      rintro _ w29 ⟨rfl, b29⟩
      have y0_29 := bb y0_28 b29
      have y25_29 := bb y25_28 b29
      clear k28_0_0_0 k28_0_0_1 k28_0_0_2 k28_0_1_0 k28_0_1_1 k28_0_1_2 k28_0_2_0 k28_0_2_1 k28_0_2_2 k28_1_0_0 k28_1_0_1 k28_1_0_2
      obtain ⟨⟨k29_0_0_0, k29_0_0_1, k29_0_0_2⟩, ⟨k29_0_1_0, k29_0_1_1, k29_0_1_2⟩, ⟨k29_0_2_0, k29_0_2_1, k29_0_2_2⟩⟩ := HS.out _ y0_29
      obtain ⟨k29_1_0_0, k29_1_0_1, k29_1_0_2⟩ := HQ1.out _ y25_29
      go_wp2_with fail
      refine (rat_mul (qx.below y0_29) (qy.below y0_29) zx zy (by omega)).mono ?_
      rintro _ w30 ⟨rs30, rA30, rn30, rc30, rD30, rm30, rd30, rfl, v11, b30⟩
      have y0_30 := bb y0_29 b30
      have y25_30 := bb y25_29 b30
      clear k29_0_0_0 k29_0_0_1 k29_0_0_2 k29_0_1_0 k29_0_1_1 k29_0_1_2 k29_0_2_0 k29_0_2_1 k29_0_2_2 k29_1_0_0 k29_1_0_1 k29_1_0_2
      obtain ⟨⟨k30_0_0_0, k30_0_0_1, k30_0_0_2⟩, ⟨k30_0_1_0, k30_0_1_1, k30_0_1_2⟩, ⟨k30_0_2_0, k30_0_2_1, k30_0_2_2⟩⟩ := HS.out _ y0_30
      obtain ⟨k30_1_0_0, k30_1_0_1, k30_1_0_2⟩ := HQ1.out _ y25_30
      go_wp2_with fail
      refine (rat_rightT v11 wxy (by omega)).mono ?_
      rintro _ w31 ⟨rfl, b31⟩
      have y0_31 := bb y0_30 b31
      have y25_31 := bb y25_30 b31
      clear k30_0_0_0 k30_0_0_1 k30_0_0_2 k30_0_1_0 k30_0_1_1 k30_0_1_2 k30_0_2_0 k30_0_2_1 k30_0_2_2 k30_1_0_0 k30_1_0_1 k30_1_0_2
      obtain ⟨⟨k31_0_0_0, k31_0_0_1, k31_0_0_2⟩, ⟨k31_0_1_0, k31_0_1_1, k31_0_1_2⟩, ⟨k31_0_2_0, k31_0_2_1, k31_0_2_2⟩⟩ := HS.out _ y0_31
      obtain ⟨k31_1_0_0, k31_1_0_1, k31_1_0_2⟩ := HQ1.out _ y25_31
      go_wp2_with fail
      refine (same07 _).mono ?_
      rintro _ w32 ⟨rfl, b32⟩
      have y0_32 := bb y0_31 b32
      have y25_32 := bb y25_31 b32
      clear k31_0_0_0 k31_0_0_1 k31_0_0_2 k31_0_1_0 k31_0_1_1 k31_0_1_2 k31_0_2_0 k31_0_2_1 k31_0_2_2 k31_1_0_0 k31_1_0_1 k31_1_0_2
      obtain ⟨⟨k32_0_0_0, k32_0_0_1, k32_0_0_2⟩, ⟨k32_0_1_0, k32_0_1_1, k32_0_1_2⟩, ⟨k32_0_2_0, k32_0_2_1, k32_0_2_2⟩⟩ := HS.out _ y0_32
      obtain ⟨k32_1_0_0, k32_1_0_1, k32_1_0_2⟩ := HQ1.out _ y25_32
      go_wp2_with fail
      go_ret
      exact ⟨rfl, bb hb0 y0_32⟩

set_option maxRecDepth 100000 in
set_option maxHeartbeats 8000000 in
theorem ratField_walk (s0 : Bool) (a0 : Option Addr) (len0 cap0 : Nat) (z0 : List Int) (e0 : Option Addr) (lem0 cab0 : Nat) (y0 : List Int) (s1 : Bool) (a1 : Option Addr) (len1 cap1 : Nat) (z1 : List Int) (e1 : Option Addr) (lem1 cab1 : Nat) (y1 : List Int) (s2 : Bool) (a2 : Option Addr) (len2 cap2 : Nat) (z2 : List Int) (e2 : Option Addr) (lem2 cab2 : Nat) (y2 : List Int) (w : World) (w0 : IsRow .u64 w a0 len0 cap0 z0) (v0 : IsRow .u64 w e0 lem0 cab0 y0) (w1 : IsRow .u64 w a1 len1 cap1 z1) (v1 : IsRow .u64 w e1 lem1 cab1 y1) (w2 : IsRow .u64 w a2 len2 cap2 z2) (v2 : IsRow .u64 w e2 lem2 cab2 y2) :
    Calls Try.prog 5 #[.agg #[.bool s0, .slice a0 len0 cap0, .slice e0 lem0 cab0], .agg #[.bool s1, .slice a1 len1 cap1, .slice e1 lem1 cab1], .agg #[.bool s2, .slice a2 len2 cap2, .slice e2 lem2 cab2]] w fun e w' => e = .returned (.bool true) ∧ Below w.heap.size w w' := by
  obtain ⟨p0, _⟩ := w0.sl
  obtain ⟨r0, _⟩ := v0.sl
  generalize z0.take len0 = xs0 at p0
  generalize y0.take lem0 = ys0 at r0
  obtain ⟨p1, _⟩ := w1.sl
  obtain ⟨r1, _⟩ := v1.sl
  generalize z1.take len1 = xs1 at p1
  generalize y1.take lem1 = ys1 at r1
  obtain ⟨p2, _⟩ := w2.sl
  obtain ⟨r2, _⟩ := v2.sl
  generalize z2.take len2 = xs2 at p2
  generalize y2.take lem2 = ys2 at r2
  obtain ⟨V, hV, B0, B1, B2, hb0⟩ := boxes2 24 w #[.bool s0, .slice a0 len0 cap0, .slice e0 lem0 cab0] #[.bool s1, .slice a1 len1 cap1, .slice e1 lem1 cab1] #[.bool s2, .slice a2 len2 cap2, .slice e2 lem2 cab2]
  have R0 := fun w1 (hb : Below w.heap.size w w1) => right07 (s := s0) (p0.below hb) (r0.below hb)
  obtain ⟨t0, et0⟩ : ∃ t, (decide (len0 ≤ 6 ∧ lem0 ≤ 6) && rightB s0 xs0 ys0) = t := ⟨_, rfl⟩
  rw [et0] at R0
  have HR0 := Lib.hid R0
  clear R0
  have R1 := fun w1 (hb : Below w.heap.size w w1) => right07 (s := s1) (p1.below hb) (r1.below hb)
  obtain ⟨t1, et1⟩ : ∃ t, (decide (len1 ≤ 6 ∧ lem1 ≤ 6) && rightB s1 xs1 ys1) = t := ⟨_, rfl⟩
  rw [et1] at R1
  have HR1 := Lib.hid R1
  clear R1
  have R2 := fun w1 (hb : Below w.heap.size w w1) => right07 (s := s2) (p2.below hb) (r2.below hb)
  obtain ⟨t2, et2⟩ : ∃ t, (decide (len2 ≤ 6 ∧ lem2 ≤ 6) && rightB s2 xs2 ys2) = t := ⟨_, rfl⟩
  rw [et2] at R2
  have HR2 := Lib.hid R2
  clear R2
  have HV := Lib.hid hV
  clear hV
  cases t0
  · clear et0 et1 et2
    go_enter Try.func5, Try.ntmps5
    go_wp2_with fail
    rw [HV.out]
    clear HV
    refine (HR0.out _ hb0).mono ?_
    rintro _ w90 ⟨rfl, c0⟩
    have x0 := c0
    obtain ⟨⟨k0_0, l0_0, m0_0⟩, _, _, _⟩ := (B0.below' x0).three
    obtain ⟨⟨k0_1, l0_1, m0_1⟩, _, _, _⟩ := (B1.below' x0).three
    obtain ⟨⟨k0_2, l0_2, m0_2⟩, _, _, _⟩ := (B2.below' x0).three
    go_wp2_with fail
    refine (same07 _).mono ?_
    rintro _ w99 ⟨rfl, c9⟩
    go_wp2_with fail
    go_ret
    exact ⟨rfl, bb (bb hb0 x0) c9⟩
  · skip
    cases t1
    · clear et0 et1 et2
      go_enter Try.func5, Try.ntmps5
      go_wp2_with fail
      rw [HV.out]
      clear HV
      refine (HR0.out _ hb0).mono ?_
      rintro _ w90 ⟨rfl, c0⟩
      have x0 := c0
      obtain ⟨⟨k0_0, l0_0, m0_0⟩, _, _, _⟩ := (B0.below' x0).three
      obtain ⟨⟨k0_1, l0_1, m0_1⟩, _, _, _⟩ := (B1.below' x0).three
      obtain ⟨⟨k0_2, l0_2, m0_2⟩, _, _, _⟩ := (B2.below' x0).three
      go_wp2_with fail
      refine (HR1.out _ (bb hb0 x0)).mono ?_
      rintro _ w91 ⟨rfl, c1⟩
      have x1 := bb x0 c1
      obtain ⟨⟨k1_0, l1_0, m1_0⟩, _, _, _⟩ := (B0.below' x1).three
      obtain ⟨⟨k1_1, l1_1, m1_1⟩, _, _, _⟩ := (B1.below' x1).three
      obtain ⟨⟨k1_2, l1_2, m1_2⟩, _, _, _⟩ := (B2.below' x1).three
      go_wp2_with fail
      refine (same07 _).mono ?_
      rintro _ w99 ⟨rfl, c9⟩
      go_wp2_with fail
      go_ret
      exact ⟨rfl, bb (bb hb0 x1) c9⟩
    · skip
      cases t2
      · clear et0 et1 et2
        go_enter Try.func5, Try.ntmps5
        go_wp2_with fail
        rw [HV.out]
        clear HV
        refine (HR0.out _ hb0).mono ?_
        rintro _ w90 ⟨rfl, c0⟩
        have x0 := c0
        obtain ⟨⟨k0_0, l0_0, m0_0⟩, _, _, _⟩ := (B0.below' x0).three
        obtain ⟨⟨k0_1, l0_1, m0_1⟩, _, _, _⟩ := (B1.below' x0).three
        obtain ⟨⟨k0_2, l0_2, m0_2⟩, _, _, _⟩ := (B2.below' x0).three
        go_wp2_with fail
        refine (HR1.out _ (bb hb0 x0)).mono ?_
        rintro _ w91 ⟨rfl, c1⟩
        have x1 := bb x0 c1
        obtain ⟨⟨k1_0, l1_0, m1_0⟩, _, _, _⟩ := (B0.below' x1).three
        obtain ⟨⟨k1_1, l1_1, m1_1⟩, _, _, _⟩ := (B1.below' x1).three
        obtain ⟨⟨k1_2, l1_2, m1_2⟩, _, _, _⟩ := (B2.below' x1).three
        go_wp2_with fail
        refine (HR2.out _ (bb hb0 x1)).mono ?_
        rintro _ w92 ⟨rfl, c2⟩
        have x2 := bb x1 c2
        obtain ⟨⟨k2_0, l2_0, m2_0⟩, _, _, _⟩ := (B0.below' x2).three
        obtain ⟨⟨k2_1, l2_1, m2_1⟩, _, _, _⟩ := (B1.below' x2).three
        obtain ⟨⟨k2_2, l2_2, m2_2⟩, _, _, _⟩ := (B2.below' x2).three
        go_wp2_with fail
        refine (same07 _).mono ?_
        rintro _ w99 ⟨rfl, c9⟩
        go_wp2_with fail
        go_ret
        exact ⟨rfl, bb (bb hb0 x2) c9⟩
      · obtain ⟨X0, q0, n0⟩ := right07_Q p0 r0 et0
        obtain ⟨X1, q1, n1⟩ := right07_Q p1 r1 et1
        obtain ⟨X2, q2, n2⟩ := right07_Q p2 r2 et2
        exact ratField_valid HV.out B0 B1 B2 hb0 (fun w1 hb => HR0.out w1 hb) (fun w1 hb => HR1.out w1 hb) (fun w1 hb => HR2.out w1 hb) q0 n0 q1 n1 q2 n2

end Go.Proofs.Ytnheefhbchkbdaa
