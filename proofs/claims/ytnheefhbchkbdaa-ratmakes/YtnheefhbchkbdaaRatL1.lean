/-
  The law RatMakes: any quotient in lowest terms, or that it is none; which numbers are valid.
-/
import Derived.Test.YtnheefhbchkbdaaRatLaws
namespace Go.Proofs.Ytnheefhbchkbdaa
open Go.RowKit
set_option linter.unusedVariables false
set_option linter.unusedSimpArgs false

theorem i64_wf {a : Int} (h : (Lit.int .i64 a).wf = true) : -9223372036854775808 ≤ a ∧ a ≤ 9223372036854775807 := by
  simp [Lit.wf, IntKind.min, IntKind.max, IntKind.signed, IntKind.bits] at h
  omega
theorem same_b {P : Program} {f : Nat} {args : Array Value} {w : World} {a b : Bool} (e : a = b) (h : Calls P f args w (RetBl a w)) : Calls P f args w (RetBl b w) := e ▸ h
set_option maxRecDepth 100000 in
set_option maxHeartbeats 8000000 in
theorem ratMakes_walk (s : Bool) (s0 : Bool) (a0 : Option Addr) (len0 cap0 : Nat) (z0 : List Int) (e0 : Option Addr) (lem0 cab0 : Nat) (y0 : List Int) (z : Int) (hz : (Lit.int .i64 z).wf = true) (w : World) (w0 : IsRow .u64 w a0 len0 cap0 z0) (v0 : IsRow .u64 w e0 lem0 cab0 y0) :
    Calls Try.prog 3 #[.bool s, .agg #[.bool s0, .slice a0 len0 cap0, .slice e0 lem0 cab0], .int .i64 z] w fun e w' => e = .returned (.bool true) ∧ Below w.heap.size w w' := by
  obtain ⟨p0, _⟩ := w0.sl
  obtain ⟨r0, _⟩ := v0.sl
  generalize z0.take len0 = xs at p0
  generalize y0.take lem0 = ys at r0
  clear w0 v0
  have hz1 : -9223372036854775808 ≤ z ∧ z ≤ 9223372036854775807 := i64_wf hz
  obtain ⟨hz1, hz2⟩ := hz1
  obtain ⟨V, hV, B0, hb0⟩ := box0 24 w #[.bool s0, .slice a0 len0 cap0, .slice e0 lem0 cab0]
  have L := fun w1 => plain_long (w := w1) (s := s0) (A := a0) (A' := e0) (n := len0) (n' := lem0) (c := cap0) (c' := cab0) 8
  have HS := Lib.hid (fun (w' : World) (hb : Below V.heap.size V w') => (B0.below' hb).three.1)
  have HL := Lib.hid (fun (w' : World) (hb : Below V.heap.size V w') => (B0.below' hb).lt)
  have HV := Lib.hid hV
  have px := p0.below hb0
  have py := r0.below hb0
  clear hV B0
  by_cases hl : len0 ≤ 8 ∧ lem0 ≤ 8
  · rw [decide_eq_false (by omega)] at L
    have HLG := Lib.hid L
    obtain ⟨hl1, hl2⟩ := hl
    clear L
    have z2 : val ys = 0 ↔ sz ys = 0 := valB_zero_iff W_pos (Dg_U r0.us)
    have SZ := fun (w1 : World) (x : Sl w1 e0 lem0 cab0 ys) => ref_size x (by omega)
    by_cases h0 : val ys = 0
    · rw [z2.1 h0] at SZ
      have HSZ := Lib.hid SZ
      have HY := Lib.hid h0
      have RT := fun (w1 : World) (x : Sl w1 a0 len0 cap0 xs) (y : Sl w1 e0 lem0 cab0 ys) => rat_right (s := s0) (N := 8) x y hl1 hl2 (by omega)
      rw [right_no3 h0] at RT
      have HRT := Lib.hid RT
      clear h0 z2 SZ RT
      go_enter Try.func3, Try.ntmps3
      go_wp2_with fail
      rw [HV.out]
      clear HV
      have y0_0 : Below V.heap.size V V := Below.refl _ _
      obtain ⟨k0_0_0_0, k0_0_0_1, k0_0_0_2⟩ := HS.out _ y0_0
      refine (HLG.out _).mono ?_
      rintro _ w1 ⟨rfl, b1⟩
      have y0_1 := bb y0_0 b1
      clear k0_0_0_0 k0_0_0_1 k0_0_0_2
      obtain ⟨k1_0_0_0, k1_0_0_1, k1_0_0_2⟩ := HS.out _ y0_1
      go_wp2_with fail
      refine (rat_make_zero (xs := xs) s (py.below y0_1) (by omega) HY.out).mono ?_
      rintro _ w2 ⟨rfl, b2⟩
      have y0_2 := bb y0_1 b2
      clear k1_0_0_0 k1_0_0_1 k1_0_0_2
      obtain ⟨k2_0_0_0, k2_0_0_1, k2_0_0_2⟩ := HS.out _ y0_2
      have z2_HL := HL.out _ y0_2
      obtain ⟨w3, hV3, B3, b3⟩ := box0 24 w2 #[.bool false, .slice none 0 0, .slice none 0 0]
      have HV3 := Lib.hid hV3
      clear hV3
      go_wp2_with fail
      rw [HV3.out]
      clear HV3
      have y0_3 := bb y0_2 b3
      clear z2_HL
      have HQ1 := Lib.hid (fun (w' : World) (hb : Below w3.heap.size w3 w') => (B3.below' hb).three.1)
      have HQ1l := Lib.hid (fun (w' : World) (hb : Below w3.heap.size w3 w') => (B3.below' hb).lt)
      clear B3
      have y3_3 : Below w3.heap.size w3 w3 := Below.refl _ _
      clear k2_0_0_0 k2_0_0_1 k2_0_0_2
      obtain ⟨k3_0_0_0, k3_0_0_1, k3_0_0_2⟩ := HS.out _ y0_3
      obtain ⟨k3_1_0_0, k3_1_0_1, k3_1_0_2⟩ := HQ1.out _ y3_3
      refine (HSZ.out _ (py.below y0_3)).mono ?_
      rintro _ _ ⟨rfl, rfl⟩
      go_wp2_with fail
      refine (ref_sameZ _).mono ?_
      rintro _ w4 ⟨rfl, b4⟩
      have y0_4 := bb y0_3 b4
      have y3_4 := bb y3_3 b4
      clear k3_0_0_0 k3_0_0_1 k3_0_0_2 k3_1_0_0 k3_1_0_1 k3_1_0_2
      obtain ⟨k4_0_0_0, k4_0_0_1, k4_0_0_2⟩ := HS.out _ y0_4
      obtain ⟨k4_1_0_0, k4_1_0_1, k4_1_0_2⟩ := HQ1.out _ y3_4
      go_wp2_with fail
      refine (HRT.out _ (px.below y0_4) (py.below y0_4)).mono ?_
      rintro _ w5 ⟨rfl, b5⟩
      have y0_5 := bb y0_4 b5
      have y3_5 := bb y3_4 b5
      clear k4_0_0_0 k4_0_0_1 k4_0_0_2 k4_1_0_0 k4_1_0_1 k4_1_0_2
      obtain ⟨k5_0_0_0, k5_0_0_1, k5_0_0_2⟩ := HS.out _ y0_5
      obtain ⟨k5_1_0_0, k5_1_0_1, k5_1_0_2⟩ := HQ1.out _ y3_5
      go_wp2_with fail
      refine (same07 _).mono ?_
      rintro _ w6 ⟨rfl, b6⟩
      have y0_6 := bb y0_5 b6
      have y3_6 := bb y3_5 b6
      clear k5_0_0_0 k5_0_0_1 k5_0_0_2 k5_1_0_0 k5_1_0_1 k5_1_0_2
      obtain ⟨k6_0_0_0, k6_0_0_1, k6_0_0_2⟩ := HS.out _ y0_6
      obtain ⟨k6_1_0_0, k6_1_0_1, k6_1_0_2⟩ := HQ1.out _ y3_6
      go_wp2_with fail
      go_ret
      exact ⟨rfl, bb hb0 y0_6⟩
    · have hne : ((sz ys : Int) == 0) = false := by
        have : sz ys ≠ 0 := fun e => h0 (z2.2 e)
        simp; omega
      generalize ((sz ys : Nat) : Int) = k at *
      have HSZ := Lib.hid SZ
      have HY := Lib.hid h0
      have MK := fun (w1 : World) (x : Sl w1 a0 len0 cap0 xs) (y : Sl w1 e0 lem0 cab0 ys) => rat_make s x y (by omega) (by omega) h0
      have MR := fun (w1 : World) (x : Sl w1 a0 len0 cap0 xs) (y : Sl w1 e0 lem0 cab0 ys) => ref_make (N := 8) s x y hl1 hl2 (by omega) h0
      have zX : Sz (rq s (val xs) (val ys)) 8 := rq_sz h0 (val_lt_pow p0.us (by have := p0.len; omega)) (val_lt_pow r0.us (by have := r0.len; omega))
      have RT := fun (w1 : World) (x : Sl w1 a0 len0 cap0 xs) (y : Sl w1 e0 lem0 cab0 ys) => rat_right (s := s0) (N := 8) x y hl1 hl2 (by omega)
      have RR := fun (w1 : World) (x : Sl w1 a0 len0 cap0 xs) (y : Sl w1 e0 lem0 cab0 ys) => ref_ratRight (s := s0) (N := 8) x y hl1 hl2 (by omega)
      have zO := sz_of z hz1 hz2
      have OF := fun w1 => rat_of z hz1 hz2 w1
      have OR := fun w1 => ref_of z hz1 hz2 w1
      generalize rightB s0 xs ys = rb at *
      generalize rq s (val xs) (val ys) = X at *
      generalize (z : Rat) = O at *
      have S1 := fun (w1 : World) (x : Sl w1 a0 len0 cap0 xs) (y : Sl w1 e0 lem0 cab0 ys) (t : Bool) (B B' : Option Addr) (m m' d d' : Nat) (q : Q w1 t B m d B' m' d' X) => rat_same (s := s0) (t := t) x y q.2.1 q.2.2 (by omega) (by omega) (by have := q.2.1.small zX.1; omega) (by have := q.2.2.small zX.2; omega)
      have S2 := fun (w1 : World) (x : Sl w1 a0 len0 cap0 xs) (y : Sl w1 e0 lem0 cab0 ys) (t : Bool) (B B' : Option Addr) (m m' d d' : Nat) (q : Q w1 t B m d B' m' d' X) => ref_same (s := s0) (t := t) x y q.2.1 q.2.2 (by omega) (by omega) (by have := q.2.1.small zX.1; omega) (by have := q.2.2.small zX.2; omega)
      have HMK := Lib.hid MK
      have HMR := Lib.hid MR
      have HRT := Lib.hid RT
      have HRR := Lib.hid RR
      have HOF := Lib.hid OF
      have HOR := Lib.hid OR
      have HS1 := Lib.hid S1
      have HS2 := Lib.hid S2
      clear h0 z2 SZ MK MR RT RR OF OR S1 S2
      go_enter Try.func3, Try.ntmps3
      go_wp2_with fail
      rw [HV.out]
      clear HV
      have y0_0 : Below V.heap.size V V := Below.refl _ _
      obtain ⟨k0_0_0_0, k0_0_0_1, k0_0_0_2⟩ := HS.out _ y0_0
      refine (HLG.out _).mono ?_
      rintro _ w1 ⟨rfl, b1⟩
      have y0_1 := bb y0_0 b1
      clear k0_0_0_0 k0_0_0_1 k0_0_0_2
      obtain ⟨k1_0_0_0, k1_0_0_1, k1_0_0_2⟩ := HS.out _ y0_1
      go_wp2_with fail
      refine (HMK.out _ (px.below y0_1) (py.below y0_1)).mono ?_
      rintro _ w2 ⟨rs2, rA2, rn2, rc2, rD2, rm2, rd2, rfl, v1, b2⟩
      have y0_2 := bb y0_1 b2
      clear k1_0_0_0 k1_0_0_1 k1_0_0_2
      obtain ⟨k2_0_0_0, k2_0_0_1, k2_0_0_2⟩ := HS.out _ y0_2
      obtain ⟨sb, esb⟩ : ∃ b, decide (s0 = rs2 ∧ xs = words X.num.natAbs ∧ ys = words X.den) = b := ⟨_, rfl⟩
      have HSB := Lib.hid esb
      clear esb
      have z2_HL := HL.out _ y0_2
      obtain ⟨w3, hV3, B3, b3⟩ := box0 24 w2 #[.bool rs2, .slice rA2 rn2 rc2, .slice rD2 rm2 rd2]
      have HV3 := Lib.hid hV3
      clear hV3
      go_wp2_with fail
      rw [HV3.out]
      clear HV3
      have y0_3 := bb y0_2 b3
      clear z2_HL
      have HQ1 := Lib.hid (fun (w' : World) (hb : Below w3.heap.size w3 w') => (B3.below' hb).three.1)
      have HQ1l := Lib.hid (fun (w' : World) (hb : Below w3.heap.size w3 w') => (B3.below' hb).lt)
      clear B3
      have y3_3 : Below w3.heap.size w3 w3 := Below.refl _ _
      clear k2_0_0_0 k2_0_0_1 k2_0_0_2
      obtain ⟨k3_0_0_0, k3_0_0_1, k3_0_0_2⟩ := HS.out _ y0_3
      obtain ⟨k3_1_0_0, k3_1_0_1, k3_1_0_2⟩ := HQ1.out _ y3_3
      refine (HSZ.out _ (py.below y0_3)).mono ?_
      rintro _ _ ⟨rfl, rfl⟩
      go_wp2_with fail
      go_region_held3 (fun w' => (w'.cell? ⟨w.heap.size, 0, none⟩ = some (.bool s0) ∧ w'.cell? ⟨w.heap.size, 1, none⟩ = some (.slice a0 len0 cap0) ∧ w'.cell? ⟨w.heap.size, 2, none⟩ = some (.slice e0 lem0 cab0)) ∧ (w'.cell? ⟨w2.heap.size, 0, none⟩ = some (.bool rs2) ∧ w'.cell? ⟨w2.heap.size, 1, none⟩ = some (.slice rA2 rn2 rc2) ∧ w'.cell? ⟨w2.heap.size, 2, none⟩ = some (.slice rD2 rm2 rd2))) (first | exact ⟨HS.out _ y0_3.drew, HQ1.out _ y3_3.drew⟩ | exact ⟨HS.out _ y0_8, HQ1.out _ y3_8⟩ | exact ⟨HS.out _ y0_7, HQ1.out _ y3_7⟩ | exact ⟨HS.out _ y0_6, HQ1.out _ y3_6⟩ | exact ⟨HS.out _ y0_5, HQ1.out _ y3_5⟩ | exact ⟨HS.out _ y0_4, HQ1.out _ y3_4⟩ | fail)
        (first
          | (go_at_call 14; (with_reducible refine (HMR.out _ ?hq1 ?hq2).mono ?_); (case hq1 => (have hh := (px.below y0_3); exact hh)); (case hq2 => (have hh := (py.below y0_3); exact hh)); rintro _ w4 ⟨rs4, rA4, rn4, rc4, rD4, rm4, rd4, rfl, v2, b4⟩; have b4 := Below.undrew b4; have y0_4 := bb y0_3 b4; have y3_4 := bb y3_3 b4)
          | (go_at_call 12; (with_reducible refine (ref_sameT ((v1.below b3).below b4) v2 zX zX (by omega) rfl).mono ?_); rintro _ w5 ⟨rfl, b5⟩; have y0_5 := bb y0_4 b5; have y3_5 := bb y3_4 b5)
          | (go_at_call 15; (with_reducible refine (HOF.out _).mono ?_); rintro _ w6 ⟨rs6, rA6, rn6, rc6, rD6, rm6, rd6, rfl, v3, b6⟩; have y0_6 := bb y0_5 b6; have y3_6 := bb y3_5 b6)
          | (go_at_call 16; (with_reducible refine (HOR.out _).mono ?_); rintro _ w7 ⟨rs7, rA7, rn7, rc7, rD7, rm7, rd7, rfl, v4, b7⟩; have y0_7 := bb y0_6 b7; have y3_7 := bb y3_6 b7)
          | (go_at_call 12; (with_reducible refine (ref_sameT (v3.below b7) v4 zO zO (by omega) rfl).mono ?_); rintro _ w8 ⟨rfl, b8⟩; have y0_8 := bb y0_7 b8; have y3_8 := bb y3_7 b8))
      obtain ⟨k8_0_0_0, k8_0_0_1, k8_0_0_2⟩ := HS.out _ y0_8
      obtain ⟨k8_1_0_0, k8_1_0_1, k8_1_0_2⟩ := HQ1.out _ y3_8
      go_wp2_with fail
      go_region_held3 (fun w' => (w'.cell? ⟨w.heap.size, 0, none⟩ = some (.bool s0) ∧ w'.cell? ⟨w.heap.size, 1, none⟩ = some (.slice a0 len0 cap0) ∧ w'.cell? ⟨w.heap.size, 2, none⟩ = some (.slice e0 lem0 cab0)) ∧ (w'.cell? ⟨w2.heap.size, 0, none⟩ = some (.bool rs2) ∧ w'.cell? ⟨w2.heap.size, 1, none⟩ = some (.slice rA2 rn2 rc2) ∧ w'.cell? ⟨w2.heap.size, 2, none⟩ = some (.slice rD2 rm2 rd2))) (first | exact ⟨HS.out _ y0_8.drew, HQ1.out _ y3_8.drew⟩ | exact ⟨HS.out _ y0_13, HQ1.out _ y3_13⟩ | exact ⟨HS.out _ y0_12, HQ1.out _ y3_12⟩ | exact ⟨HS.out _ y0_11, HQ1.out _ y3_11⟩ | exact ⟨HS.out _ y0_10, HQ1.out _ y3_10⟩ | exact ⟨HS.out _ y0_9, HQ1.out _ y3_9⟩ | fail)
        (first
          | (go_at_call 13; (with_reducible refine (HRT.out _ ?hq3 ?hq4).mono ?_); (case hq3 => (have hh := (px.below y0_8); exact hh)); (case hq4 => (have hh := (py.below y0_8); exact hh)); rintro _ w9 ⟨rfl, b9⟩; have b9 := Below.undrew b9; have y0_9 := bb y0_8 b9; have y3_9 := bb y3_8 b9)
          | (go_at_call 17; (with_reducible refine (HRR.out _ (px.below y0_9) (py.below y0_9)).mono ?_); rintro _ w10 ⟨rfl, b10⟩; have y0_10 := bb y0_9 b10; have y3_10 := bb y3_9 b10)
          | (go_at_call 18; (with_reducible refine (same_b HSB.out (HS1.out _ (px.below y0_10) (py.below y0_10) _ _ _ _ _ _ _ ((((((((v1.below b3).below b4).below b5).below b6).below b7).below b8).below b9).below b10))).mono ?_); rintro _ w11 ⟨rfl, b11⟩; have y0_11 := bb y0_10 b11; have y3_11 := bb y3_10 b11)
          | (go_at_call 12; (with_reducible refine (same_b HSB.out (HS2.out _ (px.below y0_11) (py.below y0_11) _ _ _ _ _ _ _ (((((((((v1.below b3).below b4).below b5).below b6).below b7).below b8).below b9).below b10).below b11))).mono ?_); rintro _ w12 ⟨rfl, b12⟩; have y0_12 := bb y0_11 b12; have y3_12 := bb y3_11 b12)
          | (go_at_call 9; (with_reducible refine (same07 _).mono ?_); rintro _ w13 ⟨rfl, b13⟩; have y0_13 := bb y0_12 b13; have y3_13 := bb y3_12 b13))
      obtain ⟨k13_0_0_0, k13_0_0_1, k13_0_0_2⟩ := HS.out _ y0_13
      obtain ⟨k13_1_0_0, k13_1_0_1, k13_1_0_2⟩ := HQ1.out _ y3_13
      go_wp2_with fail
      go_ret
      exact ⟨rfl, bb hb0 y0_13⟩
  · rw [decide_eq_true (by omega)] at L
    have HLG := Lib.hid L
    clear L hl
    go_enter Try.func3, Try.ntmps3
    go_wp2_with fail
    rw [HV.out]
    clear HV
    have y0_0 : Below V.heap.size V V := Below.refl _ _
    obtain ⟨k0_0_0_0, k0_0_0_1, k0_0_0_2⟩ := HS.out _ y0_0
    refine (HLG.out _).mono ?_
    rintro _ w1 ⟨rfl, b1⟩
    have y0_1 := bb y0_0 b1
    clear k0_0_0_0 k0_0_0_1 k0_0_0_2
    obtain ⟨k1_0_0_0, k1_0_0_1, k1_0_0_2⟩ := HS.out _ y0_1
    go_wp2_with fail
    refine (same07 _).mono ?_
    rintro _ w2 ⟨rfl, b2⟩
    have y0_2 := bb y0_1 b2
    clear k1_0_0_0 k1_0_0_1 k1_0_0_2
    obtain ⟨k2_0_0_0, k2_0_0_1, k2_0_0_2⟩ := HS.out _ y0_2
    go_wp2_with fail
    go_ret
    exact ⟨rfl, bb hb0 y0_2⟩

end Go.Proofs.Ytnheefhbchkbdaa
