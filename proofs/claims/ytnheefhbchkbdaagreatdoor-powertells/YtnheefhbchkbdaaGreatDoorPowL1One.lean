/-
  The law PowerTells: any power, or why there is none; how long a number is, what it is without its sign, and rounded down.
-/
import Derived.Test.YtnheefhbchkbdaaGreatDoorPowPowAll
import Derived.Test.YtnheefhbchkbdaaGreatDoorRefFloorOne
import Derived.Test.YtnheefhbchkbdaaGreatDoorPowShowAll
namespace Go.Proofs.YtnheefhbchkbdaaGreatDoor
set_option maxRecDepth 100000
open Go.RowKit
set_option linter.unusedVariables false
set_option linter.unusedSimpArgs false

theorem i64_bounds {a : Int} (h : (Lit.int .i64 a).wf = true) : -9223372036854775808 ≤ a ∧ a ≤ 9223372036854775807 := by
  simp [Lit.wf, IntKind.min, IntKind.max, IntKind.signed, IntKind.bits] at h
  omega

theorem ref_pow_any {w : World} {s : Bool} {A A' : Option Addr} {n n' c c' N : Nat} {X : Rat} (h : Q w s A n c A' n' c' X) (hX : Sz X N) (hN : N ≤ 100) (i : Int) (h1 : -64 ≤ i) (h2 : i ≤ 64) (h0 : X ≠ 0 ∨ 0 ≤ i) :
    Calls Tryz.prog 8 #[.agg #[.bool s, .slice A n c, .slice A' n' c'], .int .i64 i] w (RetQE (X ^ i) 0 w) := by
  by_cases hi : 0 ≤ i
  · obtain ⟨k, rfl⟩ := Int.eq_ofNat_of_zero_le hi
    rw [zpow_nat]
    exact ref_pow_nat h hX hN k (by omega)
  · obtain ⟨k, hk⟩ := Int.eq_ofNat_of_zero_le (show 0 ≤ -i by omega)
    obtain rfl : i = -(k : Int) := by omega
    rw [zpow_negNat]
    exact ref_pow_neg h hX hN (h0.resolve_right hi) k (by omega) (by omega)
theorem pw_pow_z {w : World} {s : Bool} {A A' : Option Addr} {n n' c c' N : Nat} {X : Rat} (h : Q w s A n c A' n' c' X) (hX : Sz X N) (hN : N ≤ 100) (i : Int) (h1 : -64 ≤ i) (h2 : i < 0) (h0 : X = 0) :
    Calls Tryz.prog 7 #[.agg #[.bool s, .slice A n c, .slice A' n' c'], .int .i64 i] w (RetNo 4 w) := by
  obtain ⟨k, hk⟩ := Int.eq_ofNat_of_zero_le (show 0 ≤ -i by omega)
  obtain rfl : i = -(k : Int) := by omega
  exact pw_pow_zero h hX hN h0 k (by omega) (by omega)
theorem ref_pow_z {w : World} {s : Bool} {A A' : Option Addr} {n n' c c' N : Nat} {X : Rat} (h : Q w s A n c A' n' c' X) (hX : Sz X N) (hN : N ≤ 100) (i : Int) (h1 : -64 ≤ i) (h2 : i < 0) (h0 : X = 0) :
    Calls Tryz.prog 8 #[.agg #[.bool s, .slice A n c, .slice A' n' c'], .int .i64 i] w (RetNo 4 w) := by
  obtain ⟨k, hk⟩ := Int.eq_ofNat_of_zero_le (show 0 ≤ -i by omega)
  obtain rfl : i = -(k : Int) := by omega
  exact ref_pow_zero h hX hN h0 k (by omega) (by omega)
theorem pw_bitsE {w : World} {s : Bool} {A A' : Option Addr} {n n' c c' N : Nat} {X : Rat} (h : Q w s A n c A' n' c' X) (hX : Sz X N) (hN : N ≤ 100) (r : Int) (e : max (blen X.num.natAbs : Int) (blen X.den) = r) : Calls Tryz.prog 10 #[.agg #[.bool s, .slice A n c, .slice A' n' c']] w (RetI r w) := by
  rw [← e]; exact pw_bits h hX hN
theorem ref_bitsE {w : World} {s : Bool} {A A' : Option Addr} {n n' c c' N : Nat} {X : Rat} (h : Q w s A n c A' n' c' X) (hX : Sz X N) (hN : N ≤ 100) (r : Int) (e : max (blen X.num.natAbs : Int) (blen X.den) = r) : Calls Tryz.prog 11 #[.agg #[.bool s, .slice A n c, .slice A' n' c']] w (RetI r w) := by
  rw [← e]; exact ref_pbits h hX hN

set_option maxRecDepth 100000 in
set_option maxHeartbeats 8000000 in
theorem powerTells_walk (s0 : Bool) (a0 : Option Addr) (len0 cap0 : Nat) (z0 : List Int) (e0 : Option Addr) (lem0 cab0 : Nat) (y0 : List Int) (n : Int) (hn : (Lit.int .i64 n).wf = true) (w : World) (w0 : IsRow .u64 w a0 len0 cap0 z0) (v0 : IsRow .u64 w e0 lem0 cab0 y0) :
    Calls Tryz.prog 3 #[.agg #[.bool s0, .slice a0 len0 cap0, .slice e0 lem0 cab0], .int .i64 n] w fun e w' => e = .returned (.bool true) ∧ Below w.heap.size w w' := by
  obtain ⟨p0, _⟩ := w0.sl
  obtain ⟨r0, _⟩ := v0.sl
  generalize z0.take len0 = xs at p0
  generalize y0.take lem0 = ys at r0
  clear w0 v0
  obtain ⟨n1, n2⟩ := i64_bounds hn
  clear hn
  obtain ⟨V, hV, B0, hb0⟩ := box0 24 w #[.bool s0, .slice a0 len0 cap0, .slice e0 lem0 cab0]
  have R := fun w1 (hb : Below w.heap.size w w1) => right08 (s := s0) 3 (by omega) (p0.below hb) (r0.below hb)
  simp only [show ((3 : Nat) : Int) = 3 from rfl] at R
  have HS := Lib.hid (fun (w' : World) (hb : Below V.heap.size V w') => (B0.below' hb).three.1)
  have HL := Lib.hid (fun (w' : World) (hb : Below V.heap.size V w') => (B0.below' hb).lt)
  have HV := Lib.hid hV
  clear hV B0
  obtain ⟨t0, et0⟩ : ∃ t, (decide (len0 ≤ 3 ∧ lem0 ≤ 3) && rightB s0 xs ys) = t := ⟨_, rfl⟩
  rw [et0] at R
  have HR := Lib.hid R
  clear R
  cases t0
  · clear et0
    go_enter Tryz.func3, Tryz.ntmps3
    go_wp2_with fail
    rw [HV.out]
    clear HV
    have y0_0 : Below V.heap.size V V := Below.refl _ _
    obtain ⟨k0_0_0_0, k0_0_0_1, k0_0_0_2⟩ := HS.out _ y0_0
    refine (HR.out _ (bb hb0 y0_0)).mono ?_
    rintro _ w1 ⟨rfl, b1⟩
    have y0_1 := bb y0_0 b1
    clear k0_0_0_0 k0_0_0_1 k0_0_0_2
    obtain ⟨k1_0_0_0, k1_0_0_1, k1_0_0_2⟩ := HS.out _ y0_1
    go_wp2_with fail
    refine (same08 _).mono ?_
    rintro _ w2 ⟨rfl, b2⟩
    have y0_2 := bb y0_1 b2
    clear k1_0_0_0 k1_0_0_1 k1_0_0_2
    obtain ⟨k2_0_0_0, k2_0_0_1, k2_0_0_2⟩ := HS.out _ y0_2
    go_wp2_with fail
    go_ret
    exact ⟨rfl, bb hb0 y0_2⟩
  · obtain ⟨X, g0, n0⟩ := right08_Q p0 r0 et0
    have qx := g0.below hb0
    have zx : Sz X 100 := n0.mono (by omega)
    have zf : Sz (flr X) 100 := n0.flr.mono (by omega)
    have za : Sz (rq false X.num.natAbs X.den) 100 := rq_sz (den_ne X) zx.1 zx.2
    obtain ⟨bt, ebt⟩ : ∃ r, max (blen X.num.natAbs : Int) (blen X.den) = r := ⟨_, rfl⟩
    have HB1 := Lib.hid (fun (w1 : World) (q : Q w1 s0 a0 len0 cap0 e0 lem0 cab0 X) => pw_bitsE q zx (by omega) bt ebt)
    have HB2 := Lib.hid (fun (w1 : World) (q : Q w1 s0 a0 len0 cap0 e0 lem0 cab0 X) => ref_bitsE q zx (by omega) bt ebt)
    have HA1 := Lib.hid (fun (w1 : World) (q : Q w1 s0 a0 len0 cap0 e0 lem0 cab0 X) => pw_abs q zx (by omega))
    have HA2 := Lib.hid (fun (w1 : World) (q : Q w1 s0 a0 len0 cap0 e0 lem0 cab0 X) => ref_abs q zx (by omega))
    have HF1 := Lib.hid (fun (w1 : World) (q : Q w1 s0 a0 len0 cap0 e0 lem0 cab0 X) => pw_floor q zx (by omega))
    have HF2 := Lib.hid (fun (w1 : World) (q : Q w1 s0 a0 len0 cap0 e0 lem0 cab0 X) => ref_floor q zx (by omega))
    have zpw : ∀ i : Int, -64 ≤ i → i ≤ 64 → Sz (X ^ i) 400 := fun i h1 h2 => (n0.zpow i).mono (by omega)
    have zx' := zx
    clear g0 et0 p0 r0 ebt
    generalize rq false X.num.natAbs X.den = Xa at *
    generalize flr X = Xf at *
    by_cases ho : n < -64 ∨ 64 < n
    · clear zpw
      go_enter Tryz.func3, Tryz.ntmps3
      go_wp2_with fail
      rw [HV.out]
      clear HV
      have y0_0 : Below V.heap.size V V := Below.refl _ _
      obtain ⟨k0_0_0_0, k0_0_0_1, k0_0_0_2⟩ := HS.out _ y0_0
      refine (HR.out _ (bb hb0 y0_0)).mono ?_
      rintro _ w1 ⟨rfl, b1⟩
      have y0_1 := bb y0_0 b1
      clear k0_0_0_0 k0_0_0_1 k0_0_0_2
      obtain ⟨k1_0_0_0, k1_0_0_1, k1_0_0_2⟩ := HS.out _ y0_1
      go_wp2_with fail
      refine (pw_pow_out n ho).mono ?_
      rintro _ w2 ⟨rfl, b2⟩
      have y0_2 := bb y0_1 b2
      clear k1_0_0_0 k1_0_0_1 k1_0_0_2
      obtain ⟨k2_0_0_0, k2_0_0_1, k2_0_0_2⟩ := HS.out _ y0_2
      have z2_HL := HL.out _ y0_2
      obtain ⟨w3, hV3, B3, b3⟩ := box0 24 w2 #[.bool false, .slice none 0 0, .slice none 0 0]
      have HV3 := Lib.hid hV3
      clear hV3
      go_wp2_with fail
      rw [HV3.out]
      clear HV3
      have y0_3 := bb y0_2 b3
      clear z2_HL
      have HQ1 := Lib.hid (fun (w' : World) (hb : Below w3.heap.size w3 w') => (B3.below' hb).three.1)
      have HQ1l := Lib.hid (fun (w' : World) (hb : Below w3.heap.size w3 w') => (B3.below' hb).lt)
      clear B3
      have y3_3 : Below w3.heap.size w3 w3 := Below.refl _ _
      clear k2_0_0_0 k2_0_0_1 k2_0_0_2
      obtain ⟨k3_0_0_0, k3_0_0_1, k3_0_0_2⟩ := HS.out _ y0_3
      obtain ⟨k3_1_0_0, k3_1_0_1, k3_1_0_2⟩ := HQ1.out _ y3_3
      refine (ref_pow_out n ho).mono ?_
      rintro _ w4 ⟨rfl, b4⟩
      have y0_4 := bb y0_3 b4
      have y3_4 := bb y3_3 b4
      clear k3_0_0_0 k3_0_0_1 k3_0_0_2 k3_1_0_0 k3_1_0_1 k3_1_0_2
      obtain ⟨k4_0_0_0, k4_0_0_1, k4_0_0_2⟩ := HS.out _ y0_4
      obtain ⟨k4_1_0_0, k4_1_0_1, k4_1_0_2⟩ := HQ1.out _ y3_4
      have z4_HL := HL.out _ y0_4
      have z4_HQ1l := HQ1l.out _ y3_4
      obtain ⟨w5, hV5, B5, b5⟩ := box0 24 w4 #[.bool false, .slice none 0 0, .slice none 0 0]
      have HV5 := Lib.hid hV5
      clear hV5
      go_wp2_with fail
      rw [HV5.out]
      clear HV5
      have y0_5 := bb y0_4 b5
      have y3_5 := bb y3_4 b5
      clear z4_HL
      clear z4_HQ1l
      have HQ2 := Lib.hid (fun (w' : World) (hb : Below w5.heap.size w5 w') => (B5.below' hb).three.1)
      have HQ2l := Lib.hid (fun (w' : World) (hb : Below w5.heap.size w5 w') => (B5.below' hb).lt)
      clear B5
      have y5_5 : Below w5.heap.size w5 w5 := Below.refl _ _
      clear k4_0_0_0 k4_0_0_1 k4_0_0_2 k4_1_0_0 k4_1_0_1 k4_1_0_2
      obtain ⟨k5_0_0_0, k5_0_0_1, k5_0_0_2⟩ := HS.out _ y0_5
      obtain ⟨k5_1_0_0, k5_1_0_1, k5_1_0_2⟩ := HQ1.out _ y3_5
      obtain ⟨k5_2_0_0, k5_2_0_1, k5_2_0_2⟩ := HQ2.out _ y5_5
      go_region_held3 (fun w' => (w'.cell? ⟨w.heap.size, 0, none⟩ = some (.bool s0) ∧ w'.cell? ⟨w.heap.size, 1, none⟩ = some (.slice a0 len0 cap0) ∧ w'.cell? ⟨w.heap.size, 2, none⟩ = some (.slice e0 lem0 cab0)) ∧ (w'.cell? ⟨w2.heap.size, 0, none⟩ = some (.bool false) ∧ w'.cell? ⟨w2.heap.size, 1, none⟩ = some (.slice none 0 0) ∧ w'.cell? ⟨w2.heap.size, 2, none⟩ = some (.slice none 0 0)) ∧ (w'.cell? ⟨w4.heap.size, 0, none⟩ = some (.bool false) ∧ w'.cell? ⟨w4.heap.size, 1, none⟩ = some (.slice none 0 0) ∧ w'.cell? ⟨w4.heap.size, 2, none⟩ = some (.slice none 0 0))) (first | exact ⟨HS.out _ y0_5.drew, HQ1.out _ y3_5.drew, HQ2.out _ y5_5.drew⟩ | exact ⟨HS.out _ y0_8, HQ1.out _ y3_8, HQ2.out _ y5_8⟩ | exact ⟨HS.out _ y0_7, HQ1.out _ y3_7, HQ2.out _ y5_7⟩ | exact ⟨HS.out _ y0_6, HQ1.out _ y3_6, HQ2.out _ y5_6⟩ | fail)
        (first
          | (go_at_call 9; (with_reducible refine (ref_sameZ _).mono ?_); rintro _ w6 ⟨rfl, b6⟩; have b6 := Below.undrew b6; have y0_6 := bb y0_5 b6; have y3_6 := bb y3_5 b6; have y5_6 := bb y5_5 b6)
          | (go_at_call 10; (with_reducible refine (HB1.out _ (qx.below y0_6)).mono ?_); rintro _ w7 ⟨rfl, b7⟩; have y0_7 := bb y0_6 b7; have y3_7 := bb y3_6 b7; have y5_7 := bb y5_6 b7)
          | (go_at_call 11; (with_reducible refine (HB2.out _ (qx.below y0_7)).mono ?_); rintro _ w8 ⟨rfl, b8⟩; have y0_8 := bb y0_7 b8; have y3_8 := bb y3_7 b8; have y5_8 := bb y5_7 b8))
      obtain ⟨k8_0_0_0, k8_0_0_1, k8_0_0_2⟩ := HS.out _ y0_8
      obtain ⟨k8_1_0_0, k8_1_0_1, k8_1_0_2⟩ := HQ1.out _ y3_8
      obtain ⟨k8_2_0_0, k8_2_0_1, k8_2_0_2⟩ := HQ2.out _ y5_8
      go_wp2_with fail
      go_region_held3 (fun w' => (w'.cell? ⟨w.heap.size, 0, none⟩ = some (.bool s0) ∧ w'.cell? ⟨w.heap.size, 1, none⟩ = some (.slice a0 len0 cap0) ∧ w'.cell? ⟨w.heap.size, 2, none⟩ = some (.slice e0 lem0 cab0)) ∧ (w'.cell? ⟨w2.heap.size, 0, none⟩ = some (.bool false) ∧ w'.cell? ⟨w2.heap.size, 1, none⟩ = some (.slice none 0 0) ∧ w'.cell? ⟨w2.heap.size, 2, none⟩ = some (.slice none 0 0)) ∧ (w'.cell? ⟨w4.heap.size, 0, none⟩ = some (.bool false) ∧ w'.cell? ⟨w4.heap.size, 1, none⟩ = some (.slice none 0 0) ∧ w'.cell? ⟨w4.heap.size, 2, none⟩ = some (.slice none 0 0))) (first | exact ⟨HS.out _ y0_8.drew, HQ1.out _ y3_8.drew, HQ2.out _ y5_8.drew⟩ | exact ⟨HS.out _ y0_15, HQ1.out _ y3_15, HQ2.out _ y5_15⟩ | exact ⟨HS.out _ y0_14, HQ1.out _ y3_14, HQ2.out _ y5_14⟩ | exact ⟨HS.out _ y0_13, HQ1.out _ y3_13, HQ2.out _ y5_13⟩ | exact ⟨HS.out _ y0_12, HQ1.out _ y3_12, HQ2.out _ y5_12⟩ | exact ⟨HS.out _ y0_11, HQ1.out _ y3_11, HQ2.out _ y5_11⟩ | exact ⟨HS.out _ y0_10, HQ1.out _ y3_10, HQ2.out _ y5_10⟩ | exact ⟨HS.out _ y0_9, HQ1.out _ y3_9, HQ2.out _ y5_9⟩ | fail)
        (first
          | (go_at_call 12; (with_reducible refine (HA1.out _ ?hq1).mono ?_); (case hq1 => (have hh := (qx.below y0_8); exact hh)); rintro _ w9 ⟨rs9, rA9, rn9, rc9, rD9, rm9, rd9, rfl, v1, b9⟩; have b9 := Below.undrew b9; have y0_9 := bb y0_8 b9; have y3_9 := bb y3_8 b9; have y5_9 := bb y5_8 b9)
          | (go_at_call 13; (with_reducible refine (HA2.out _ (qx.below y0_9)).mono ?_); rintro _ w10 ⟨rs10, rA10, rn10, rc10, rD10, rm10, rd10, rfl, v2, b10⟩; have y0_10 := bb y0_9 b10; have y3_10 := bb y3_9 b10; have y5_10 := bb y5_9 b10)
          | (go_at_call 9; (with_reducible refine (ref_sameT (v1.below b10) v2 za za (by omega) rfl).mono ?_); rintro _ w11 ⟨rfl, b11⟩; have y0_11 := bb y0_10 b11; have y3_11 := bb y3_10 b11; have y5_11 := bb y5_10 b11)
          | (go_at_call 14; (with_reducible refine (HF1.out _ (qx.below y0_11)).mono ?_); rintro _ w12 ⟨rs12, rA12, rn12, rc12, rD12, rm12, rd12, rfl, v3, b12⟩; have y0_12 := bb y0_11 b12; have y3_12 := bb y3_11 b12; have y5_12 := bb y5_11 b12)
          | (go_at_call 15; (with_reducible refine (HF2.out _ (qx.below y0_12)).mono ?_); rintro _ w13 ⟨rs13, rA13, rn13, rc13, rD13, rm13, rd13, rfl, v4, b13⟩; have y0_13 := bb y0_12 b13; have y3_13 := bb y3_12 b13; have y5_13 := bb y5_12 b13)
          | (go_at_call 9; (with_reducible refine (ref_sameT (v3.below b13) v4 zf zf (by omega) rfl).mono ?_); rintro _ w14 ⟨rfl, b14⟩; have y0_14 := bb y0_13 b14; have y3_14 := bb y3_13 b14; have y5_14 := bb y5_13 b14)
          | (go_at_call 6; (with_reducible refine (same08 _).mono ?_); rintro _ w15 ⟨rfl, b15⟩; have y0_15 := bb y0_14 b15; have y3_15 := bb y3_14 b15; have y5_15 := bb y5_14 b15))
      obtain ⟨k15_0_0_0, k15_0_0_1, k15_0_0_2⟩ := HS.out _ y0_15
      obtain ⟨k15_1_0_0, k15_1_0_1, k15_1_0_2⟩ := HQ1.out _ y3_15
      obtain ⟨k15_2_0_0, k15_2_0_1, k15_2_0_2⟩ := HQ2.out _ y5_15
      go_wp2_with fail
      go_ret
      exact ⟨rfl, bb hb0 y0_15⟩
    by_cases hz : X = 0 ∧ n < 0
    · clear zpw
      have P1 := Lib.hid (fun (w1 : World) (q : Q w1 s0 a0 len0 cap0 e0 lem0 cab0 X) => pw_pow_z q zx (by omega) n (by omega) hz.2 hz.1)
      have P2 := Lib.hid (fun (w1 : World) (q : Q w1 s0 a0 len0 cap0 e0 lem0 cab0 X) => ref_pow_z q zx (by omega) n (by omega) hz.2 hz.1)
      clear hz ho
      go_enter Tryz.func3, Tryz.ntmps3
      go_wp2_with fail
      rw [HV.out]
      clear HV
      have y0_0 : Below V.heap.size V V := Below.refl _ _
      obtain ⟨k0_0_0_0, k0_0_0_1, k0_0_0_2⟩ := HS.out _ y0_0
      refine (HR.out _ (bb hb0 y0_0)).mono ?_
      rintro _ w1 ⟨rfl, b1⟩
      have y0_1 := bb y0_0 b1
      clear k0_0_0_0 k0_0_0_1 k0_0_0_2
      obtain ⟨k1_0_0_0, k1_0_0_1, k1_0_0_2⟩ := HS.out _ y0_1
      go_wp2_with fail
      refine (P1.out _ (qx.below y0_1)).mono ?_
      rintro _ w2 ⟨rfl, b2⟩
      have y0_2 := bb y0_1 b2
      clear k1_0_0_0 k1_0_0_1 k1_0_0_2
      obtain ⟨k2_0_0_0, k2_0_0_1, k2_0_0_2⟩ := HS.out _ y0_2
      have z2_HL := HL.out _ y0_2
      obtain ⟨w3, hV3, B3, b3⟩ := box0 24 w2 #[.bool false, .slice none 0 0, .slice none 0 0]
      have HV3 := Lib.hid hV3
      clear hV3
      go_wp2_with fail
      rw [HV3.out]
      clear HV3
      have y0_3 := bb y0_2 b3
      clear z2_HL
      have HQ1 := Lib.hid (fun (w' : World) (hb : Below w3.heap.size w3 w') => (B3.below' hb).three.1)
      have HQ1l := Lib.hid (fun (w' : World) (hb : Below w3.heap.size w3 w') => (B3.below' hb).lt)
      clear B3
      have y3_3 : Below w3.heap.size w3 w3 := Below.refl _ _
      clear k2_0_0_0 k2_0_0_1 k2_0_0_2
      obtain ⟨k3_0_0_0, k3_0_0_1, k3_0_0_2⟩ := HS.out _ y0_3
      obtain ⟨k3_1_0_0, k3_1_0_1, k3_1_0_2⟩ := HQ1.out _ y3_3
      refine (P2.out _ (qx.below y0_3)).mono ?_
      rintro _ w4 ⟨rfl, b4⟩
      have y0_4 := bb y0_3 b4
      have y3_4 := bb y3_3 b4
      clear k3_0_0_0 k3_0_0_1 k3_0_0_2 k3_1_0_0 k3_1_0_1 k3_1_0_2
      obtain ⟨k4_0_0_0, k4_0_0_1, k4_0_0_2⟩ := HS.out _ y0_4
      obtain ⟨k4_1_0_0, k4_1_0_1, k4_1_0_2⟩ := HQ1.out _ y3_4
      have z4_HL := HL.out _ y0_4
      have z4_HQ1l := HQ1l.out _ y3_4
      obtain ⟨w5, hV5, B5, b5⟩ := box0 24 w4 #[.bool false, .slice none 0 0, .slice none 0 0]
      have HV5 := Lib.hid hV5
      clear hV5
      go_wp2_with fail
      rw [HV5.out]
      clear HV5
      have y0_5 := bb y0_4 b5
      have y3_5 := bb y3_4 b5
      clear z4_HL
      clear z4_HQ1l
      have HQ2 := Lib.hid (fun (w' : World) (hb : Below w5.heap.size w5 w') => (B5.below' hb).three.1)
      have HQ2l := Lib.hid (fun (w' : World) (hb : Below w5.heap.size w5 w') => (B5.below' hb).lt)
      clear B5
      have y5_5 : Below w5.heap.size w5 w5 := Below.refl _ _
      clear k4_0_0_0 k4_0_0_1 k4_0_0_2 k4_1_0_0 k4_1_0_1 k4_1_0_2
      obtain ⟨k5_0_0_0, k5_0_0_1, k5_0_0_2⟩ := HS.out _ y0_5
      obtain ⟨k5_1_0_0, k5_1_0_1, k5_1_0_2⟩ := HQ1.out _ y3_5
      obtain ⟨k5_2_0_0, k5_2_0_1, k5_2_0_2⟩ := HQ2.out _ y5_5
      go_region_held3 (fun w' => (w'.cell? ⟨w.heap.size, 0, none⟩ = some (.bool s0) ∧ w'.cell? ⟨w.heap.size, 1, none⟩ = some (.slice a0 len0 cap0) ∧ w'.cell? ⟨w.heap.size, 2, none⟩ = some (.slice e0 lem0 cab0)) ∧ (w'.cell? ⟨w2.heap.size, 0, none⟩ = some (.bool false) ∧ w'.cell? ⟨w2.heap.size, 1, none⟩ = some (.slice none 0 0) ∧ w'.cell? ⟨w2.heap.size, 2, none⟩ = some (.slice none 0 0)) ∧ (w'.cell? ⟨w4.heap.size, 0, none⟩ = some (.bool false) ∧ w'.cell? ⟨w4.heap.size, 1, none⟩ = some (.slice none 0 0) ∧ w'.cell? ⟨w4.heap.size, 2, none⟩ = some (.slice none 0 0))) (first | exact ⟨HS.out _ y0_5.drew, HQ1.out _ y3_5.drew, HQ2.out _ y5_5.drew⟩ | exact ⟨HS.out _ y0_8, HQ1.out _ y3_8, HQ2.out _ y5_8⟩ | exact ⟨HS.out _ y0_7, HQ1.out _ y3_7, HQ2.out _ y5_7⟩ | exact ⟨HS.out _ y0_6, HQ1.out _ y3_6, HQ2.out _ y5_6⟩ | fail)
        (first
          | (go_at_call 9; (with_reducible refine (ref_sameZ _).mono ?_); rintro _ w6 ⟨rfl, b6⟩; have b6 := Below.undrew b6; have y0_6 := bb y0_5 b6; have y3_6 := bb y3_5 b6; have y5_6 := bb y5_5 b6)
          | (go_at_call 10; (with_reducible refine (HB1.out _ (qx.below y0_6)).mono ?_); rintro _ w7 ⟨rfl, b7⟩; have y0_7 := bb y0_6 b7; have y3_7 := bb y3_6 b7; have y5_7 := bb y5_6 b7)
          | (go_at_call 11; (with_reducible refine (HB2.out _ (qx.below y0_7)).mono ?_); rintro _ w8 ⟨rfl, b8⟩; have y0_8 := bb y0_7 b8; have y3_8 := bb y3_7 b8; have y5_8 := bb y5_7 b8))
      obtain ⟨k8_0_0_0, k8_0_0_1, k8_0_0_2⟩ := HS.out _ y0_8
      obtain ⟨k8_1_0_0, k8_1_0_1, k8_1_0_2⟩ := HQ1.out _ y3_8
      obtain ⟨k8_2_0_0, k8_2_0_1, k8_2_0_2⟩ := HQ2.out _ y5_8
      go_wp2_with fail
      go_region_held3 (fun w' => (w'.cell? ⟨w.heap.size, 0, none⟩ = some (.bool s0) ∧ w'.cell? ⟨w.heap.size, 1, none⟩ = some (.slice a0 len0 cap0) ∧ w'.cell? ⟨w.heap.size, 2, none⟩ = some (.slice e0 lem0 cab0)) ∧ (w'.cell? ⟨w2.heap.size, 0, none⟩ = some (.bool false) ∧ w'.cell? ⟨w2.heap.size, 1, none⟩ = some (.slice none 0 0) ∧ w'.cell? ⟨w2.heap.size, 2, none⟩ = some (.slice none 0 0)) ∧ (w'.cell? ⟨w4.heap.size, 0, none⟩ = some (.bool false) ∧ w'.cell? ⟨w4.heap.size, 1, none⟩ = some (.slice none 0 0) ∧ w'.cell? ⟨w4.heap.size, 2, none⟩ = some (.slice none 0 0))) (first | exact ⟨HS.out _ y0_8.drew, HQ1.out _ y3_8.drew, HQ2.out _ y5_8.drew⟩ | exact ⟨HS.out _ y0_15, HQ1.out _ y3_15, HQ2.out _ y5_15⟩ | exact ⟨HS.out _ y0_14, HQ1.out _ y3_14, HQ2.out _ y5_14⟩ | exact ⟨HS.out _ y0_13, HQ1.out _ y3_13, HQ2.out _ y5_13⟩ | exact ⟨HS.out _ y0_12, HQ1.out _ y3_12, HQ2.out _ y5_12⟩ | exact ⟨HS.out _ y0_11, HQ1.out _ y3_11, HQ2.out _ y5_11⟩ | exact ⟨HS.out _ y0_10, HQ1.out _ y3_10, HQ2.out _ y5_10⟩ | exact ⟨HS.out _ y0_9, HQ1.out _ y3_9, HQ2.out _ y5_9⟩ | fail)
        (first
          | (go_at_call 12; (with_reducible refine (HA1.out _ ?hq1).mono ?_); (case hq1 => (have hh := (qx.below y0_8); exact hh)); rintro _ w9 ⟨rs9, rA9, rn9, rc9, rD9, rm9, rd9, rfl, v1, b9⟩; have b9 := Below.undrew b9; have y0_9 := bb y0_8 b9; have y3_9 := bb y3_8 b9; have y5_9 := bb y5_8 b9)
          | (go_at_call 13; (with_reducible refine (HA2.out _ (qx.below y0_9)).mono ?_); rintro _ w10 ⟨rs10, rA10, rn10, rc10, rD10, rm10, rd10, rfl, v2, b10⟩; have y0_10 := bb y0_9 b10; have y3_10 := bb y3_9 b10; have y5_10 := bb y5_9 b10)
          | (go_at_call 9; (with_reducible refine (ref_sameT (v1.below b10) v2 za za (by omega) rfl).mono ?_); rintro _ w11 ⟨rfl, b11⟩; have y0_11 := bb y0_10 b11; have y3_11 := bb y3_10 b11; have y5_11 := bb y5_10 b11)
          | (go_at_call 14; (with_reducible refine (HF1.out _ (qx.below y0_11)).mono ?_); rintro _ w12 ⟨rs12, rA12, rn12, rc12, rD12, rm12, rd12, rfl, v3, b12⟩; have y0_12 := bb y0_11 b12; have y3_12 := bb y3_11 b12; have y5_12 := bb y5_11 b12)
          | (go_at_call 15; (with_reducible refine (HF2.out _ (qx.below y0_12)).mono ?_); rintro _ w13 ⟨rs13, rA13, rn13, rc13, rD13, rm13, rd13, rfl, v4, b13⟩; have y0_13 := bb y0_12 b13; have y3_13 := bb y3_12 b13; have y5_13 := bb y5_12 b13)
          | (go_at_call 9; (with_reducible refine (ref_sameT (v3.below b13) v4 zf zf (by omega) rfl).mono ?_); rintro _ w14 ⟨rfl, b14⟩; have y0_14 := bb y0_13 b14; have y3_14 := bb y3_13 b14; have y5_14 := bb y5_13 b14)
          | (go_at_call 6; (with_reducible refine (same08 _).mono ?_); rintro _ w15 ⟨rfl, b15⟩; have y0_15 := bb y0_14 b15; have y3_15 := bb y3_14 b15; have y5_15 := bb y5_14 b15))
      obtain ⟨k15_0_0_0, k15_0_0_1, k15_0_0_2⟩ := HS.out _ y0_15
      obtain ⟨k15_1_0_0, k15_1_0_1, k15_1_0_2⟩ := HQ1.out _ y3_15
      obtain ⟨k15_2_0_0, k15_2_0_1, k15_2_0_2⟩ := HQ2.out _ y5_15
      go_wp2_with fail
      go_ret
      exact ⟨rfl, bb hb0 y0_15⟩
    have h0 : X ≠ 0 ∨ 0 ≤ n := by by_cases hx : X = 0; exact .inr (by have : ¬ n < 0 := fun e => hz ⟨hx, e⟩; omega); exact .inl hx
    have zp := zpw n (by omega) (by omega)
    have P1 := Lib.hid (fun (w1 : World) (q : Q w1 s0 a0 len0 cap0 e0 lem0 cab0 X) => pw_pow_any q zx (by omega) n (by omega) (by omega) h0)
    have P2 := Lib.hid (fun (w1 : World) (q : Q w1 s0 a0 len0 cap0 e0 lem0 cab0 X) => ref_pow_any q zx (by omega) n (by omega) (by omega) h0)
    generalize X ^ n = Xp at *
    clear hz ho h0 zpw
    go_enter Tryz.func3, Tryz.ntmps3
    go_wp2_with fail
    rw [HV.out]
    clear HV
    have y0_0 : Below V.heap.size V V := Below.refl _ _
    obtain ⟨k0_0_0_0, k0_0_0_1, k0_0_0_2⟩ := HS.out _ y0_0
    refine (HR.out _ (bb hb0 y0_0)).mono ?_
    rintro _ w1 ⟨rfl, b1⟩
    have y0_1 := bb y0_0 b1
    clear k0_0_0_0 k0_0_0_1 k0_0_0_2
    obtain ⟨k1_0_0_0, k1_0_0_1, k1_0_0_2⟩ := HS.out _ y0_1
    go_wp2_with fail
    refine (P1.out _ (qx.below y0_1)).mono ?_
    rintro _ w2 ⟨rs2, rA2, rn2, rc2, rD2, rm2, rd2, rfl, u1, b2⟩
    have y0_2 := bb y0_1 b2
    clear k1_0_0_0 k1_0_0_1 k1_0_0_2
    obtain ⟨k2_0_0_0, k2_0_0_1, k2_0_0_2⟩ := HS.out _ y0_2
    have z2_HL := HL.out _ y0_2
    obtain ⟨w3, hV3, B3, b3⟩ := box0 24 w2 #[.bool rs2, .slice rA2 rn2 rc2, .slice rD2 rm2 rd2]
    have HV3 := Lib.hid hV3
    clear hV3
    go_wp2_with fail
    rw [HV3.out]
    clear HV3
    have y0_3 := bb y0_2 b3
    clear z2_HL
    have HQ1 := Lib.hid (fun (w' : World) (hb : Below w3.heap.size w3 w') => (B3.below' hb).three.1)
    have HQ1l := Lib.hid (fun (w' : World) (hb : Below w3.heap.size w3 w') => (B3.below' hb).lt)
    clear B3
    have y3_3 : Below w3.heap.size w3 w3 := Below.refl _ _
    clear k2_0_0_0 k2_0_0_1 k2_0_0_2
    obtain ⟨k3_0_0_0, k3_0_0_1, k3_0_0_2⟩ := HS.out _ y0_3
    obtain ⟨k3_1_0_0, k3_1_0_1, k3_1_0_2⟩ := HQ1.out _ y3_3
    refine (P2.out _ (qx.below y0_3)).mono ?_
    rintro _ w4 ⟨rs4, rA4, rn4, rc4, rD4, rm4, rd4, rfl, u2, b4⟩
    have y0_4 := bb y0_3 b4
    have y3_4 := bb y3_3 b4
    clear k3_0_0_0 k3_0_0_1 k3_0_0_2 k3_1_0_0 k3_1_0_1 k3_1_0_2
    obtain ⟨k4_0_0_0, k4_0_0_1, k4_0_0_2⟩ := HS.out _ y0_4
    obtain ⟨k4_1_0_0, k4_1_0_1, k4_1_0_2⟩ := HQ1.out _ y3_4
    have z4_HL := HL.out _ y0_4
    have z4_HQ1l := HQ1l.out _ y3_4
    obtain ⟨w5, hV5, B5, b5⟩ := box0 24 w4 #[.bool rs4, .slice rA4 rn4 rc4, .slice rD4 rm4 rd4]
    have HV5 := Lib.hid hV5
    clear hV5
    go_wp2_with fail
    rw [HV5.out]
    clear HV5
    have y0_5 := bb y0_4 b5
    have y3_5 := bb y3_4 b5
    clear z4_HL
    clear z4_HQ1l
    have HQ2 := Lib.hid (fun (w' : World) (hb : Below w5.heap.size w5 w') => (B5.below' hb).three.1)
    have HQ2l := Lib.hid (fun (w' : World) (hb : Below w5.heap.size w5 w') => (B5.below' hb).lt)
    clear B5
    have y5_5 : Below w5.heap.size w5 w5 := Below.refl _ _
    clear k4_0_0_0 k4_0_0_1 k4_0_0_2 k4_1_0_0 k4_1_0_1 k4_1_0_2
    obtain ⟨k5_0_0_0, k5_0_0_1, k5_0_0_2⟩ := HS.out _ y0_5
    obtain ⟨k5_1_0_0, k5_1_0_1, k5_1_0_2⟩ := HQ1.out _ y3_5
    obtain ⟨k5_2_0_0, k5_2_0_1, k5_2_0_2⟩ := HQ2.out _ y5_5
    go_region_held3 (fun w' => (w'.cell? ⟨w.heap.size, 0, none⟩ = some (.bool s0) ∧ w'.cell? ⟨w.heap.size, 1, none⟩ = some (.slice a0 len0 cap0) ∧ w'.cell? ⟨w.heap.size, 2, none⟩ = some (.slice e0 lem0 cab0)) ∧ (w'.cell? ⟨w2.heap.size, 0, none⟩ = some (.bool rs2) ∧ w'.cell? ⟨w2.heap.size, 1, none⟩ = some (.slice rA2 rn2 rc2) ∧ w'.cell? ⟨w2.heap.size, 2, none⟩ = some (.slice rD2 rm2 rd2)) ∧ (w'.cell? ⟨w4.heap.size, 0, none⟩ = some (.bool rs4) ∧ w'.cell? ⟨w4.heap.size, 1, none⟩ = some (.slice rA4 rn4 rc4) ∧ w'.cell? ⟨w4.heap.size, 2, none⟩ = some (.slice rD4 rm4 rd4))) (first | exact ⟨HS.out _ y0_5.drew, HQ1.out _ y3_5.drew, HQ2.out _ y5_5.drew⟩ | exact ⟨HS.out _ y0_8, HQ1.out _ y3_8, HQ2.out _ y5_8⟩ | exact ⟨HS.out _ y0_7, HQ1.out _ y3_7, HQ2.out _ y5_7⟩ | exact ⟨HS.out _ y0_6, HQ1.out _ y3_6, HQ2.out _ y5_6⟩ | fail)
      (first
        | (go_at_call 9; (with_reducible refine (ref_sameT ?hq1 ?hq2 zp zp (by omega) rfl).mono ?_); (case hq1 => (have hh := (((u1.below b3).below b4).below b5); exact hh)); (case hq2 => (have hh := (u2.below b5); exact hh)); rintro _ w6 ⟨rfl, b6⟩; have b6 := Below.undrew b6; have y0_6 := bb y0_5 b6; have y3_6 := bb y3_5 b6; have y5_6 := bb y5_5 b6)
        | (go_at_call 10; (with_reducible refine (HB1.out _ (qx.below y0_6)).mono ?_); rintro _ w7 ⟨rfl, b7⟩; have y0_7 := bb y0_6 b7; have y3_7 := bb y3_6 b7; have y5_7 := bb y5_6 b7)
        | (go_at_call 11; (with_reducible refine (HB2.out _ (qx.below y0_7)).mono ?_); rintro _ w8 ⟨rfl, b8⟩; have y0_8 := bb y0_7 b8; have y3_8 := bb y3_7 b8; have y5_8 := bb y5_7 b8))
    obtain ⟨k8_0_0_0, k8_0_0_1, k8_0_0_2⟩ := HS.out _ y0_8
    obtain ⟨k8_1_0_0, k8_1_0_1, k8_1_0_2⟩ := HQ1.out _ y3_8
    obtain ⟨k8_2_0_0, k8_2_0_1, k8_2_0_2⟩ := HQ2.out _ y5_8
    go_wp2_with fail
    go_region_held3 (fun w' => (w'.cell? ⟨w.heap.size, 0, none⟩ = some (.bool s0) ∧ w'.cell? ⟨w.heap.size, 1, none⟩ = some (.slice a0 len0 cap0) ∧ w'.cell? ⟨w.heap.size, 2, none⟩ = some (.slice e0 lem0 cab0)) ∧ (w'.cell? ⟨w2.heap.size, 0, none⟩ = some (.bool rs2) ∧ w'.cell? ⟨w2.heap.size, 1, none⟩ = some (.slice rA2 rn2 rc2) ∧ w'.cell? ⟨w2.heap.size, 2, none⟩ = some (.slice rD2 rm2 rd2)) ∧ (w'.cell? ⟨w4.heap.size, 0, none⟩ = some (.bool rs4) ∧ w'.cell? ⟨w4.heap.size, 1, none⟩ = some (.slice rA4 rn4 rc4) ∧ w'.cell? ⟨w4.heap.size, 2, none⟩ = some (.slice rD4 rm4 rd4))) (first | exact ⟨HS.out _ y0_8.drew, HQ1.out _ y3_8.drew, HQ2.out _ y5_8.drew⟩ | exact ⟨HS.out _ y0_15, HQ1.out _ y3_15, HQ2.out _ y5_15⟩ | exact ⟨HS.out _ y0_14, HQ1.out _ y3_14, HQ2.out _ y5_14⟩ | exact ⟨HS.out _ y0_13, HQ1.out _ y3_13, HQ2.out _ y5_13⟩ | exact ⟨HS.out _ y0_12, HQ1.out _ y3_12, HQ2.out _ y5_12⟩ | exact ⟨HS.out _ y0_11, HQ1.out _ y3_11, HQ2.out _ y5_11⟩ | exact ⟨HS.out _ y0_10, HQ1.out _ y3_10, HQ2.out _ y5_10⟩ | exact ⟨HS.out _ y0_9, HQ1.out _ y3_9, HQ2.out _ y5_9⟩ | fail)
      (first
        | (go_at_call 12; (with_reducible refine (HA1.out _ ?hq3).mono ?_); (case hq3 => (have hh := (qx.below y0_8); exact hh)); rintro _ w9 ⟨rs9, rA9, rn9, rc9, rD9, rm9, rd9, rfl, v1, b9⟩; have b9 := Below.undrew b9; have y0_9 := bb y0_8 b9; have y3_9 := bb y3_8 b9; have y5_9 := bb y5_8 b9)
        | (go_at_call 13; (with_reducible refine (HA2.out _ (qx.below y0_9)).mono ?_); rintro _ w10 ⟨rs10, rA10, rn10, rc10, rD10, rm10, rd10, rfl, v2, b10⟩; have y0_10 := bb y0_9 b10; have y3_10 := bb y3_9 b10; have y5_10 := bb y5_9 b10)
        | (go_at_call 9; (with_reducible refine (ref_sameT (v1.below b10) v2 za za (by omega) rfl).mono ?_); rintro _ w11 ⟨rfl, b11⟩; have y0_11 := bb y0_10 b11; have y3_11 := bb y3_10 b11; have y5_11 := bb y5_10 b11)
        | (go_at_call 14; (with_reducible refine (HF1.out _ (qx.below y0_11)).mono ?_); rintro _ w12 ⟨rs12, rA12, rn12, rc12, rD12, rm12, rd12, rfl, v3, b12⟩; have y0_12 := bb y0_11 b12; have y3_12 := bb y3_11 b12; have y5_12 := bb y5_11 b12)
        | (go_at_call 15; (with_reducible refine (HF2.out _ (qx.below y0_12)).mono ?_); rintro _ w13 ⟨rs13, rA13, rn13, rc13, rD13, rm13, rd13, rfl, v4, b13⟩; have y0_13 := bb y0_12 b13; have y3_13 := bb y3_12 b13; have y5_13 := bb y5_12 b13)
        | (go_at_call 9; (with_reducible refine (ref_sameT (v3.below b13) v4 zf zf (by omega) rfl).mono ?_); rintro _ w14 ⟨rfl, b14⟩; have y0_14 := bb y0_13 b14; have y3_14 := bb y3_13 b14; have y5_14 := bb y5_13 b14)
        | (go_at_call 6; (with_reducible refine (same08 _).mono ?_); rintro _ w15 ⟨rfl, b15⟩; have y0_15 := bb y0_14 b15; have y3_15 := bb y3_14 b15; have y5_15 := bb y5_14 b15))
    obtain ⟨k15_0_0_0, k15_0_0_1, k15_0_0_2⟩ := HS.out _ y0_15
    obtain ⟨k15_1_0_0, k15_1_0_1, k15_1_0_2⟩ := HQ1.out _ y3_15
    obtain ⟨k15_2_0_0, k15_2_0_1, k15_2_0_2⟩ := HQ2.out _ y5_15
    go_wp2_with fail
    go_ret
    exact ⟨rfl, bb hb0 y0_15⟩

end Go.Proofs.YtnheefhbchkbdaaGreatDoor
