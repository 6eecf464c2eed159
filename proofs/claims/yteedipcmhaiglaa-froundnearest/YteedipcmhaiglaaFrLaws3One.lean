/-
  The walk of the law FroundNearest: it returns true for any exact number (valid or not) and any word. No condition but that they fit their kinds.
-/
import Derived.Test.YteedipcmhaiglaaFrLaws2One
namespace Go.Proofs.Yteedipcmhaiglaa
set_option maxRecDepth 100000
open Go.RowKit
set_option linter.unusedVariables false
set_option linter.unusedSimpArgs false

theorem fromQ_lt (X : Rat) : fromQ X < 18446744073709551616 := by
  unfold fromQ; exact sg_lt (by have := magR_le' X.num.natAbs X.den 0; rw [INF_lit]; exact this)
theorem fromQ_kind (X : Rat) : kd (fromQ X) ≠ 4 := by
  obtain ⟨_, p2⟩ := fromQ_parts X
  have hle := magR_le' X.num.natAbs X.den 0
  rw [← p2] at hle
  unfold kd
  by_cases h : fld (fromQ X) = 2047
  · rw [if_pos h]
    have : rst (fromQ X) = 0 := by unfold mant at hle; unfold fld at h; unfold rst; omega
    rw [if_pos this]; omega
  · rw [if_neg h]
    split
    · split <;> omega
    · omega

set_option maxRecDepth 100000 in
set_option maxHeartbeats 16000000 in
theorem froundNearest_walk (s : Bool) (a0 : Option Addr) (len0 cap0 : Nat) (z0 : List Int) (e0 : Option Addr) (lem0 cab0 : Nat) (y0 : List Int) (z : Int) (w1 : (Lit.int .u64 z).wf = true) (w : World) (w0 : IsRow .u64 w a0 len0 cap0 z0) (v0 : IsRow .u64 w e0 lem0 cab0 y0) :
    Calls Try.prog 9 #[.agg #[.bool s, .slice a0 len0 cap0, .slice e0 lem0 cab0], .int .u64 z] w fun e w' => e = .returned (.bool true) ∧ Below w.heap.size w w' := by
  obtain ⟨z, rfl, hz⟩ := u64_wf w1
  obtain ⟨s1, _⟩ := w0.sl
  obtain ⟨s2, _⟩ := v0.sl
  generalize z0.take len0 = xs at *
  generalize y0.take lem0 = ys at *
  clear w0 v0 w1
  obtain ⟨V, hV, Ba, hb0⟩ := box0 39 w #[.bool s, .slice a0 len0 cap0, .slice e0 lem0 cab0]
  have hS : ∀ w', Below V.heap.size V w' → w'.cell? ⟨w.heap.size, 0, none⟩ = some (.bool s) ∧ w'.cell? ⟨w.heap.size, 1, none⟩ = some (.slice a0 len0 cap0) ∧ w'.cell? ⟨w.heap.size, 2, none⟩ = some (.slice e0 lem0 cab0) := fun w' hb => (Ba.below' hb).three.1
  have hL : ∀ w', Below V.heap.size V w' → w.heap.size < w'.heap.size := fun w' hb => (Ba.below' hb).lt
  have R := fun w1 (hb : Below V.heap.size V w1) => right10 (s := s) (s1.below (bb hb0 hb)) (s2.below (bb hb0 hb))
  have HS := Lib.hid hS
  have HL := Lib.hid hL
  have HV := Lib.hid hV
  have H10 := Lib.hid (fun w1 => same10 w1)
  clear hS hL hV Ba
  by_cases hr : (decide (len0 ≤ 20 ∧ lem0 ≤ 20) && rightB s xs ys) = true
  · obtain ⟨X, hQ, hX⟩ := right10_Q s1 s2 hr
    rw [hr] at R
    have HR := Lib.hid R
    have F1 := Lib.hid (fun w1 (hb : Below V.heap.size V w1) => fr_from (hQ.below (bb hb0 hb)) hX)
    have hF := fromQ_lt X
    have hK := fromQ_kind X
    have K1 := Lib.hid (fun w1 => rf_kind hF w1)
    have N1 := fun w1 => rf_neg hF w1
    rw [(fromQ_parts X).1, ← hQ.1] at N1
    have N1 := Lib.hid N1
    have G1 := fun w1 => rf_finite hF w1
    unfold fin at G1
    have hkk : ((kd (fromQ X) : Int) == 4) = false := by simp; omega
    by_cases fy : fld (fromQ X) < 2047
    · rw [decide_eq_true fy] at G1
      have HG1 := Lib.hid G1
      have G2 := fun w1 => rf_finite hz w1
      unfold fin at G2
      by_cases fz : fld z < 2047
      · rw [decide_eq_true fz] at G2
        have HG2 := Lib.hid G2
        have T1 := Lib.hid (fun w1 => rf_torat hF fy w1)
        have T2 := Lib.hid (fun w1 => rf_torat hz fz w1)
        have zD1 := (dq_sz fy).mono (show 18 ≤ 20 by omega)
        have zD2 := (dq_sz fz).mono (show 18 ≤ 20 by omega)
        obtain ⟨c1, c2⟩ := nearestQ X fy fz
        have P1 := Lib.hid (fun (w1 : World) (hb : Below V.heap.size V w1) (t : Bool) (B B' : Option Addr) (m d m' d' : Nat) (q : Q w1 t B m d B' m' d' (dq (fromQ X))) => apart10 (hQ.below (bb hb0 hb)) q hX zD1 (by omega))
        have P2 := Lib.hid (fun (w1 : World) (hb : Below V.heap.size V w1) (t : Bool) (B B' : Option Addr) (m d m' d' : Nat) (q : Q w1 t B m d B' m' d' (dq z)) => apart10 (hQ.below (bb hb0 hb)) q hX zD2 (by omega))
        have zA1 := sz_absQ (hX.sub zD1)
        have zA2 := sz_absQ (hX.sub zD2)
        have C1 := Lib.hid (fun (w1 : World) (s3 s4 : Bool) (A1 B1 A2 B2 : Option Addr) (n1 c1 m1 e1 n2 c2 m2 e2 : Nat) (q1 : Q w1 s3 A1 n1 c1 B1 m1 e1 (absQ (X - dq (fromQ X)))) (q2 : Q w1 s4 A2 n2 c2 B2 m2 e2 (absQ (X - dq z))) => ref_cmpQ q1 q2 zA1 zA2 (by omega))
        have SM := Lib.hid (fun (w1 : World) (s3 s4 : Bool) (A1 B1 A2 B2 : Option Addr) (n1 c1 m1 e1 n2 c2 m2 e2 : Nat) (q1 : Q w1 s3 A1 n1 c1 B1 m1 e1 (dq (fromQ X))) (q2 : Q w1 s4 A2 n2 c2 B2 m2 e2 (dq z)) => ref_sameQ q1 q2 zD1 zD2 (by omega))
        generalize cmpQ (absQ (X - dq (fromQ X))) (absQ (X - dq z)) = cm at *
        generalize absQ (X - dq (fromQ X)) = E1 at *
        generalize absQ (X - dq z) = E2 at *
        generalize kd (fromQ X) = kk at *
        generalize dq (fromQ X) = D1 at *
        generalize dq z = D2 at *
        generalize fromQ X = F at *
        clear R hr s1 s2 hQ hX zD1 zD2 zA1 zA2 fy fz G1 G2 hK
        have C2 := Lib.hid c2
        clear c2
        go_enter Try.func9, Try.ntmps9
        go_wp2_with fail
        rw [HV.out]
        clear HV
        refine (HR.out _ (Below.refl _ _)).mono ?_
        rintro _ w1 ⟨rfl, b1⟩
        clear HR
        obtain ⟨k0, k1, k2⟩ := HS.out _ b1
        go_wp2_with fail
        refine (F1.out _ b1).mono ?_
        rintro _ w2 ⟨rfl, b2⟩
        have x2 := bb b1 b2
        clear k0 k1 k2 F1
        obtain ⟨k0, k1, k2⟩ := HS.out _ x2
        go_wp2_with fail
        go_region_held3 (fun w' => w'.cell? ⟨w.heap.size, 0, none⟩ = some (.bool s) ∧ w'.cell? ⟨w.heap.size, 1, none⟩ = some (.slice a0 len0 cap0) ∧ w'.cell? ⟨w.heap.size, 2, none⟩ = some (.slice e0 lem0 cab0)) (exact HS.out _ x2.drew)
          (first
            | (go_at_call 13; (with_reducible refine (K1.out _).mono ?_); rintro _ _ ⟨rfl, rfl⟩)
            | (go_at_call 15; (with_reducible refine (N1.out _).mono ?_); rintro _ _ ⟨rfl, rfl⟩)
            | fail)
        have x3 : Below V.heap.size V w2.drew := x2.drew
        clear k0 k1 k2 hkk K1 N1
        generalize w2.drew = w3 at x3 ⊢
        go_wp2_with fail
        refine (HG1.out _).mono ?_
        rintro _ _ ⟨rfl, rfl⟩
        go_wp2_with fail
        refine (HG2.out _).mono ?_
        rintro _ _ ⟨rfl, rfl⟩
        go_wp2_with fail
        refine (T1.out _).mono ?_
        rintro _ w4 ⟨s4, A4, n4, c4, D4, m4, d4, rfl, q4, b4⟩
        go_wp2_with fail
        refine (T2.out _).mono ?_
        rintro _ w5 ⟨s5, A5, n5, c5, D5, m5, d5, rfl, q5, b5⟩
        obtain ⟨w6, hV6, B1, B2, b6⟩ := boxes1 39 w5 #[.bool s4, .slice A4 n4 c4, .slice D4 m4 d4] #[.bool s5, .slice A5 n5 c5, .slice D5 m5 d5]
        have x6 := bb x3 (bb b4 (bb b5 b6))
        have q4' := (q4.below b5).below b6
        have q5' := q5.below b6
        have HT := Lib.hid (fun (w' : World) (hb : Below w6.heap.size w6 w') => And.intro (B1.below' hb).three.1 (B2.below' hb).three.1)
        have HV6 := Lib.hid hV6
        clear hV6 B1 B2 q4 q5 b4 b5 b6 T1 T2 HG1 HG2
        go_wp2_with fail
        rw [HV6.out]
        clear HV6
        obtain ⟨k0, k1, k2⟩ := HS.out _ x6
        obtain ⟨⟨i0, i1, i2⟩, ⟨j0, j1, j2⟩⟩ := HT.out _ (Below.refl _ w6)
        go_region_held3 (fun w' => (w'.cell? ⟨w.heap.size, 0, none⟩ = some (.bool s) ∧ w'.cell? ⟨w.heap.size, 1, none⟩ = some (.slice a0 len0 cap0) ∧ w'.cell? ⟨w.heap.size, 2, none⟩ = some (.slice e0 lem0 cab0)) ∧ ((w'.cell? ⟨w5.heap.size, 0, none⟩ = some (.bool s4) ∧ w'.cell? ⟨w5.heap.size, 1, none⟩ = some (.slice A4 n4 c4) ∧ w'.cell? ⟨w5.heap.size, 2, none⟩ = some (.slice D4 m4 d4)) ∧ (w'.cell? ⟨w5.heap.size + 1, 0, none⟩ = some (.bool s5) ∧ w'.cell? ⟨w5.heap.size + 1, 1, none⟩ = some (.slice A5 n5 c5) ∧ w'.cell? ⟨w5.heap.size + 1, 2, none⟩ = some (.slice D5 m5 d5)))) (first | exact ⟨HS.out _ x6.drew, HT.out _ (Below.refl _ w6).drew⟩ | exact ⟨HS.out _ x9, HT.out _ y9⟩ | exact ⟨HS.out _ x8, HT.out _ y8⟩ | exact ⟨HS.out _ x7, HT.out _ y7⟩ | fail)
          (first
            | (go_at_call 44; (with_reducible refine (P1.out _ ?hq1 _ _ _ _ _ _ _ ?hq2).mono ?_); (case hq1 => exact x6.drew); (case hq2 => exact q4'); rintro _ w7 ⟨s7, A7, n7, c7, D7, m7, d7, rfl, q7, b7⟩; have y7 : Below w6.heap.size w6 w7 := Below.undrew b7; have x7 := bb x6 y7)
            | (go_at_call 44; (with_reducible refine (P2.out _ x7 _ _ _ _ _ _ _ (q5'.below y7)).mono ?_); rintro _ w8 ⟨s8, A8, n8, c8, D8, m8, d8, rfl, q8, b8⟩; have y8 := bb y7 b8; have x8 := bb x7 b8)
            | (go_at_call 29; (with_reducible refine (C1.out _ _ _ _ _ _ _ _ _ _ _ _ _ _ _ (q7.below b8) q8).mono ?_); rintro _ w9 ⟨rfl, b9⟩; have y9 := bb y8 b9; have x9 := bb x8 b9)
            | fail)
        clear k0 k1 k2 i0 i1 i2 j0 j1 j2 P1 P2 C1
        have d0 : decide (cm ≤ 0) = true := decide_eq_true c1
        by_cases hc : cm < 0
        · have d1 : decide (cm < 0) = true := decide_eq_true hc
          go_wp2_with fail
          refine (H10.out _).mono ?_
          rintro _ w10 ⟨rfl, b10⟩
          go_wp2_with fail
          go_ret
          exact ⟨rfl, bb hb0 (bb x9 b10)⟩
        · have d1 : decide (cm < 0) = false := decide_eq_false hc
          obtain ⟨⟨i0, i1, i2⟩, ⟨j0, j1, j2⟩⟩ := HT.out _ y9
          have S9 := SM.out _ _ _ _ _ _ _ _ _ _ _ _ _ _ _ (q4'.below y9) (q5'.below y9)
          by_cases hD : D1 = D2
          · rw [decide_eq_true hD] at S9
            have HS9 := Lib.hid S9
            clear S9 SM
            go_wp2_with fail
            refine HS9.out.mono ?_
            rintro _ w10 ⟨rfl, b10⟩
            clear i0 i1 i2 j0 j1 j2
            go_wp2_with fail
            refine (H10.out _).mono ?_
            rintro _ w11 ⟨rfl, b11⟩
            go_wp2_with fail
            go_ret
            exact ⟨rfl, bb hb0 (bb x9 (bb b10 b11))⟩
          · rw [decide_eq_false hD] at S9
            have HS9 := Lib.hid S9
            have hev : F % 2 = 0 := by
              rcases C2.out with h | h | h
              · exact absurd h hc
              · exact absurd h hD
              · exact h
            have hev2 : (((F : Int) % 2) == 0) = true := by simp; omega
            clear S9 SM
            go_wp2_with fail
            refine HS9.out.mono ?_
            rintro _ w10 ⟨rfl, b10⟩
            clear i0 i1 i2 j0 j1 j2
            go_wp2_with fail
            refine (H10.out _).mono ?_
            rintro _ w11 ⟨rfl, b11⟩
            go_wp2_with fail
            go_ret
            exact ⟨rfl, bb hb0 (bb x9 (bb b10 b11))⟩
      · rw [decide_eq_false fz] at G2
        have HG2 := Lib.hid G2
        generalize kd (fromQ X) = kk at *
        generalize fromQ X = F at *
        clear R hr s1 s2 hQ hX fy fz G1 G2 hK
        go_enter Try.func9, Try.ntmps9
        go_wp2_with fail
        rw [HV.out]
        clear HV
        refine (HR.out _ (Below.refl _ _)).mono ?_
        rintro _ w1 ⟨rfl, b1⟩
        clear HR
        obtain ⟨k0, k1, k2⟩ := HS.out _ b1
        go_wp2_with fail
        refine (F1.out _ b1).mono ?_
        rintro _ w2 ⟨rfl, b2⟩
        have x2 := bb b1 b2
        clear k0 k1 k2 F1
        obtain ⟨k0, k1, k2⟩ := HS.out _ x2
        go_wp2_with fail
        go_region_held3 (fun w' => w'.cell? ⟨w.heap.size, 0, none⟩ = some (.bool s) ∧ w'.cell? ⟨w.heap.size, 1, none⟩ = some (.slice a0 len0 cap0) ∧ w'.cell? ⟨w.heap.size, 2, none⟩ = some (.slice e0 lem0 cab0)) (exact HS.out _ x2.drew)
          (first
            | (go_at_call 13; (with_reducible refine (K1.out _).mono ?_); rintro _ _ ⟨rfl, rfl⟩)
            | (go_at_call 15; (with_reducible refine (N1.out _).mono ?_); rintro _ _ ⟨rfl, rfl⟩)
            | fail)
        have x3 : Below V.heap.size V w2.drew := x2.drew
        clear k0 k1 k2 hkk K1 N1
        generalize w2.drew = w3 at x3 ⊢
        go_wp2_with fail
        refine (HG1.out _).mono ?_
        rintro _ _ ⟨rfl, rfl⟩
        go_wp2_with fail
        refine (HG2.out _).mono ?_
        rintro _ _ ⟨rfl, rfl⟩
        go_wp2_with fail
        refine (H10.out _).mono ?_
        rintro _ w4 ⟨rfl, b4⟩
        go_wp2_with fail
        go_ret
        exact ⟨rfl, bb hb0 (bb x3 b4)⟩
    · rw [decide_eq_false fy] at G1
      have HG1 := Lib.hid G1
      have hinf := infQ X fy
      have fa : fld 9218868437227405311 < 2047 := by decide
      have fb : fld 8975674057349398528 < 2047 := by decide
      have T1 := Lib.hid (fun w1 => rf_torat (b := 9218868437227405311) (by omega) fa w1)
      have T2 := Lib.hid (fun w1 => rf_torat (b := 8975674057349398528) (by omega) fb w1)
      have zD1 := dq_sz fa
      have zD2 := dq_sz fb
      have MK := fun w1 (hb : Below V.heap.size V w1) => ref_make (N := 20) false (hQ.below (bb hb0 hb)).2.1 (hQ.below (bb hb0 hb)).2.2 (hQ.2.1.small hX.1) (hQ.2.2.small hX.2) (by omega) (by rw [val_words]; exact den_ne X)
      simp only [val_words] at MK
      have e : rq false X.num.natAbs X.den = absQ X := rfl
      rw [e] at MK
      have MK := Lib.hid MK
      have zA := (sz_absQ hX).mono (show 20 ≤ 18 + 18 + 1 by omega)
      have zS := zD1.add zD2
      have AD := Lib.hid (fun (w1 : World) (s3 s4 : Bool) (A1 B1 A2 B2 : Option Addr) (n1 c1 m1 e1 n2 c2 m2 e2 : Nat) (q1 : Q w1 s3 A1 n1 c1 B1 m1 e1 (dq 9218868437227405311)) (q2 : Q w1 s4 A2 n2 c2 B2 m2 e2 (dq 8975674057349398528)) => ref_qadd q1 q2 zD1 zD2 (by omega))
      have CM := Lib.hid (fun (w1 : World) (s3 s4 : Bool) (A1 B1 A2 B2 : Option Addr) (n1 c1 m1 e1 n2 c2 m2 e2 : Nat) (q1 : Q w1 s3 A1 n1 c1 B1 m1 e1 (absQ X)) (q2 : Q w1 s4 A2 n2 c2 B2 m2 e2 (dq 9218868437227405311 + dq 8975674057349398528)) => ref_cmpQ q1 q2 zA zS (by omega))
      generalize cmpQ (absQ X) (dq 9218868437227405311 + dq 8975674057349398528) = cm at *
      generalize dq 9218868437227405311 + dq 8975674057349398528 = D3 at *
      generalize dq 9218868437227405311 = D1 at *
      generalize dq 8975674057349398528 = D2 at *
      generalize absQ X = E1 at *
      generalize kd (fromQ X) = kk at *
      generalize fromQ X = F at *
      have dcm : decide (0 ≤ cm) = true := decide_eq_true hinf
      clear R hr s1 s2 hQ hX fy G1 hK zD1 zD2 zA zS e fa fb
      go_enter Try.func9, Try.ntmps9
      go_wp2_with fail
      rw [HV.out]
      clear HV
      refine (HR.out _ (Below.refl _ _)).mono ?_
      rintro _ w1 ⟨rfl, b1⟩
      clear HR
      obtain ⟨k0, k1, k2⟩ := HS.out _ b1
      go_wp2_with fail
      refine (F1.out _ b1).mono ?_
      rintro _ w2 ⟨rfl, b2⟩
      have x2 := bb b1 b2
      clear k0 k1 k2 F1
      obtain ⟨k0, k1, k2⟩ := HS.out _ x2
      go_wp2_with fail
      go_region_held3 (fun w' => w'.cell? ⟨w.heap.size, 0, none⟩ = some (.bool s) ∧ w'.cell? ⟨w.heap.size, 1, none⟩ = some (.slice a0 len0 cap0) ∧ w'.cell? ⟨w.heap.size, 2, none⟩ = some (.slice e0 lem0 cab0)) (exact HS.out _ x2.drew)
        (first
          | (go_at_call 13; (with_reducible refine (K1.out _).mono ?_); rintro _ _ ⟨rfl, rfl⟩)
          | (go_at_call 15; (with_reducible refine (N1.out _).mono ?_); rintro _ _ ⟨rfl, rfl⟩)
          | fail)
      have x3 : Below V.heap.size V w2.drew := x2.drew
      clear k0 k1 k2 hkk K1 N1
      generalize w2.drew = w3 at x3 ⊢
      go_wp2_with fail
      refine (HG1.out _).mono ?_
      rintro _ _ ⟨rfl, rfl⟩
      go_wp2_with fail
      refine (T1.out _).mono ?_
      rintro _ w4 ⟨s4, A4, n4, c4, D4, m4, d4, rfl, q4, b4⟩
      obtain ⟨w5, hV5, B5, b5⟩ := box0 39 w4 #[.bool s4, .slice A4 n4 c4, .slice D4 m4 d4]
      have HV5 := Lib.hid hV5
      have x5 := bb x3 (bb b4 b5)
      have q5 := q4.below b5
      clear hV5 q4 T1 HG1
      go_wp2_with fail
      rw [HV5.out]
      clear HV5
      refine (T2.out _).mono ?_
      rintro _ w6 ⟨s6, A6, n6, c6, D6, m6, d6, rfl, q6, b6⟩
      have B6 := B5.below' b6
      obtain ⟨w7, hV7, B7, b7⟩ := box0 39 w6 #[.bool s6, .slice A6 n6 c6, .slice D6 m6 d6]
      have HV7 := Lib.hid hV7
      have x7 := bb x5 (bb b6 b7)
      have q7 := q6.below b7
      have q5' := (q5.below b6).below b7
      have BB := B6.below' b7
      have HT := Lib.hid (fun (w' : World) (hb : Below w7.heap.size w7 w') => And.intro (BB.below' hb).three.1 (B7.below' hb).three.1)
      clear hV7 B5 B6 B7 BB q5 q6 T2 b4 b5 b6 b7
      go_wp2_with fail
      rw [HV7.out]
      clear HV7
      obtain ⟨k0, k1, k2⟩ := HS.out _ x7
      obtain ⟨⟨i0, i1, i2⟩, ⟨j0, j1, j2⟩⟩ := HT.out _ (Below.refl _ w7)
      go_region_held3 (fun w' => (w'.cell? ⟨w.heap.size, 0, none⟩ = some (.bool s) ∧ w'.cell? ⟨w.heap.size, 1, none⟩ = some (.slice a0 len0 cap0) ∧ w'.cell? ⟨w.heap.size, 2, none⟩ = some (.slice e0 lem0 cab0)) ∧ ((w'.cell? ⟨w4.heap.size, 0, none⟩ = some (.bool s4) ∧ w'.cell? ⟨w4.heap.size, 1, none⟩ = some (.slice A4 n4 c4) ∧ w'.cell? ⟨w4.heap.size, 2, none⟩ = some (.slice D4 m4 d4)) ∧ (w'.cell? ⟨w6.heap.size, 0, none⟩ = some (.bool s6) ∧ w'.cell? ⟨w6.heap.size, 1, none⟩ = some (.slice A6 n6 c6) ∧ w'.cell? ⟨w6.heap.size, 2, none⟩ = some (.slice D6 m6 d6)))) (first | exact ⟨HS.out _ x7.drew, HT.out _ (Below.refl _ w7).drew⟩ | exact ⟨HS.out _ x11, HT.out _ y11⟩ | exact ⟨HS.out _ x10, HT.out _ y10⟩ | exact ⟨HS.out _ x9, HT.out _ y9⟩ | exact ⟨HS.out _ x8, HT.out _ y8⟩ | fail)
        (first
          | (go_at_call 42; (with_reducible refine (MK.out _ ?hq1).mono ?_); (case hq1 => exact x7.drew); rintro _ w8 ⟨s8, A8, n8, c8, D8, m8, d8, rfl, q8, b8⟩; have y8 : Below w7.heap.size w7 w8 := Below.undrew b8; have x8 := bb x7 y8)
          | (go_at_call 43; (with_reducible refine (AD.out _ _ _ _ _ _ _ _ _ _ _ _ _ _ _ (q5'.below y8) (q7.below y8)).mono ?_); rintro _ w9 ⟨s9, A9, n9, c9, D9, m9, d9, rfl, q9, b9⟩; have y9 := bb y8 b9; have x9 := bb x8 b9)
          | (go_at_call 29; (with_reducible refine (CM.out _ _ _ _ _ _ _ _ _ _ _ _ _ _ _ (q8.below b9) q9).mono ?_); rintro _ w10 ⟨rfl, b10⟩; have y10 := bb y9 b10; have x10 := bb x9 b10)
          | (go_at_call 33; (with_reducible refine (H10.out _).mono ?_); rintro _ w11 ⟨rfl, b11⟩; have y11 := bb y10 b11; have x11 := bb x10 b11)
          | fail)
      go_wp2_with fail
      go_ret
      exact ⟨rfl, bb hb0 x11⟩
  · have hr' : (decide (len0 ≤ 20 ∧ lem0 ≤ 20) && rightB s xs ys) = false := by simpa using hr
    rw [hr'] at R
    have HR := Lib.hid R
    clear R hr hr'
    go_enter Try.func9, Try.ntmps9
    go_wp2_with fail
    rw [HV.out]
    refine (HR.out _ (Below.refl _ _)).mono ?_
    rintro _ w1 ⟨rfl, b1⟩
    go_wp2_with fail
    refine (H10.out _).mono ?_
    rintro _ w2 ⟨rfl, b2⟩
    go_wp2_with fail
    go_ret
    exact ⟨rfl, bb hb0 (bb b1 b2)⟩

end Go.Proofs.Yteedipcmhaiglaa
