/-
  The walk of the law FroundBack: it returns true for any word and any two exact numbers (valid or not). No condition but that they fit their kinds.
-/
import Derived.Test.YteedipcmhaiglaaFrLaws3One
namespace Go.Proofs.Yteedipcmhaiglaa
set_option maxRecDepth 100000
open Go.RowKit
set_option linter.unusedVariables false
set_option linter.unusedSimpArgs false

theorem put3_self {t : TypeId} {w : World} {g : Nat} {v0 v1 v2 : Value} (h : Box t w g #[v0, v1, v2]) (x0 x1 x2 : Value) : Box t (put3 w g x0 x1 x2) g #[x0, x1, x2] := by
  unfold Box at h ⊢
  unfold put3
  simp [World.setCell, Array.getElem?_modify, h]
theorem fr_fromE {w : World} {s : Bool} {A A' : Option Addr} {n n' c c' F : Nat} {X : Rat} (h : Q w s A n c A' n' c' X) (hX : Sz X 20) (hF : fromQ X = F) :
    Calls Try.prog 40 #[.agg #[.bool s, .slice A n c, .slice A' n' c']] w (RetW F w) := by rw [← hF]; exact fr_from h hX

set_option maxRecDepth 100000 in
set_option maxHeartbeats 32000000 in
theorem froundBack_walk (b : Int) (s1 : Bool) (a1 : Option Addr) (len1 cap1 : Nat) (z1 : List Int) (e1 : Option Addr) (lem1 cab1 : Nat) (y1 : List Int) (s2 : Bool) (a2 : Option Addr) (len2 cap2 : Nat) (z2 : List Int) (e2 : Option Addr) (lem2 cab2 : Nat) (y2 : List Int) (w0 : (Lit.int .u64 b).wf = true) (w : World) (w1 : IsRow .u64 w a1 len1 cap1 z1) (v1 : IsRow .u64 w e1 lem1 cab1 y1) (w2 : IsRow .u64 w a2 len2 cap2 z2) (v2 : IsRow .u64 w e2 lem2 cab2 y2) :
    Calls Try.prog 10 #[.int .u64 b, .agg #[.bool s1, .slice a1 len1 cap1, .slice e1 lem1 cab1], .agg #[.bool s2, .slice a2 len2 cap2, .slice e2 lem2 cab2]] w fun e w' => e = .returned (.bool true) ∧ Below w.heap.size w w' := by
  obtain ⟨b, rfl, hb⟩ := u64_wf w0
  obtain ⟨t1, _⟩ := w1.sl
  obtain ⟨r1, _⟩ := v1.sl
  generalize z1.take len1 = xs1 at *
  generalize y1.take lem1 = ys1 at *
  obtain ⟨t2, _⟩ := w2.sl
  obtain ⟨r2, _⟩ := v2.sl
  generalize z2.take len2 = xs2 at *
  generalize y2.take lem2 = ys2 at *
  clear w0 w1 v1 w2 v2
  obtain ⟨V, hV, Bx, By, hb0⟩ := boxes1 39 w #[.bool s1, .slice a1 len1 cap1, .slice e1 lem1 cab1] #[.bool s2, .slice a2 len2 cap2, .slice e2 lem2 cab2]
  have HS := Lib.hid (fun (w' : World) (hb : Below V.heap.size V w') => And.intro (Bx.below' hb).three.1 (By.below' hb).three.1)
  have HBx := Lib.hid (fun (w' : World) (hb : Below V.heap.size V w') => Bx.below' hb)
  have HBy := Lib.hid (fun (w' : World) (hb : Below V.heap.size V w') => By.below' hb)
  have R1 := fun w1 (hb : Below V.heap.size V w1) => right10 (s := s1) (t1.below (bb hb0 hb)) (r1.below (bb hb0 hb))
  have R2 := fun w1 (hb : Below V.heap.size V w1) => right10 (s := s2) (t2.below (bb hb0 hb)) (r2.below (bb hb0 hb))
  have HV := Lib.hid hV
  have H10 := Lib.hid (fun w1 => same10 w1)
  clear hV Bx By
  by_cases hr1 : (decide (len1 ≤ 20 ∧ lem1 ≤ 20) && rightB s1 xs1 ys1) = true
  · obtain ⟨X1, hQ1, hX1⟩ := right10_Q t1 r1 hr1
    rw [hr1] at R1
    have HR1 := Lib.hid R1
    clear R1 hr1 t1 r1
    by_cases hr2 : (decide (len2 ≤ 20 ∧ lem2 ≤ 20) && rightB s2 xs2 ys2) = true
    · obtain ⟨X2, hQ2, hX2⟩ := right10_Q t2 r2 hr2
      rw [hr2] at R2
      have HR2 := Lib.hid R2
      clear R2 hr2 t2 r2
      obtain ⟨cm, hcm⟩ : ∃ cm, cmpQ X1 X2 = cm := ⟨_, rfl⟩
      have CM := Lib.hid (fun w1 (hb : Below V.heap.size V w1) => ref_cmpE (hQ1.below (bb hb0 hb)) (hQ2.below (bb hb0 hb)) hX1 hX2 (by omega) cm hcm)
      have HCM := Lib.hid hcm
      clear hcm
      by_cases fb : fld b < 2047
      · have T1 := Lib.hid (fun w1 => fr_torat hb fb w1)
        have zD := (dq_sz fb).mono (show 18 ≤ 20 by omega)
        have hret := fromQ_dq hb fb
        obtain ⟨FD, hFD⟩ : ∃ FD, fromQ (dq b) = FD := ⟨_, rfl⟩
        rw [hFD] at hret
        have FR := Lib.hid (fun (w1 : World) (t : Bool) (B B' : Option Addr) (m d m' d' : Nat) (q : Q w1 t B m d B' m' d' (dq b)) => fr_fromE q zD hFD)
        generalize dq b = D at *
        clear zD hFD fb
        go_enter Try.func10, Try.ntmps10
        go_wp2_with fail
        rw [HV.out]
        clear HV
        refine (HR1.out _ (Below.refl _ _)).mono ?_
        rintro _ w1 ⟨rfl, b1⟩
        obtain ⟨k0, k1, k2⟩ := (HS.out _ b1).1
        obtain ⟨j0, j1, j2⟩ := (HS.out _ b1).2
        go_wp2_with fail
        refine (HR2.out _ b1).mono ?_
        rintro _ w2 ⟨rfl, b2⟩
        have x2 := bb b1 b2
        clear k0 k1 k2 j0 j1 j2 b1 b2
        go_wp2_with fail
        refine (T1.out _).mono ?_
        rintro _ w3 ⟨s3, A3, n3, c3, D3, m3, d3, rfl, q3, b3⟩
        obtain ⟨w4, hV4, B4, b4⟩ := box0 39 w3 #[.bool s3, .slice A3 n3 c3, .slice D3 m3 d3]
        have HV4 := Lib.hid hV4
        have q4 := q3.below b4
        have x4 := bb x2 (bb b3 b4)
        obtain ⟨⟨i0, i1, i2⟩, _, _, _⟩ := B4.three
        clear hV4 B4 q3 b3 b4 x2 T1 HR1 HR2
        go_wp2_with fail
        rw [HV4.out]
        clear HV4
        refine (FR.out _ _ _ _ _ _ _ _ q4).mono ?_
        rintro _ w5 ⟨rfl, b5⟩
        have x5 := bb x4 b5
        clear i0 i1 i2 FR q4 b5 x4
        rcases hret with hret | ⟨hret1, hret2⟩
        · subst hret
          obtain ⟨k0, k1, k2⟩ := (HS.out _ x5).1
          obtain ⟨j0, j1, j2⟩ := (HS.out _ x5).2
          go_wp2_with fail
          refine (CM.out _ x5).mono ?_
          rintro _ w6 ⟨rfl, b6⟩
          have x6 := bb x5 b6
          clear k0 k1 k2 j0 j1 j2 CM x5 b6
          by_cases hc : 0 < cm
          · have d0 : decide (0 < cm) = true := decide_eq_true hc
            have hle : X2 ≤ X1 := by
              have := HCM.out
              rw [cmpQ_flip] at this
              exact (cmpQ_le _ _).1 (by omega)
            have Bx := HBx.out _ x6
            have By := HBy.out _ x6
            obtain ⟨⟨k0, k1, k2⟩, g0, g1, g2⟩ := Bx.three
            obtain ⟨⟨j0, j1, j2⟩, h0, h1, h2⟩ := By.three
            have Bx2 := (put3_self Bx (.bool s2) (.slice a2 len2 cap2) (.slice e2 lem2 cab2)).put3 (show w.heap.size ≠ w.heap.size + 1 by omega) (.bool s1) (.slice a1 len1 cap1) (.slice e1 lem1 cab1)
            have By2 := put3_self (By.put3 (show w.heap.size + 1 ≠ w.heap.size by omega) (.bool s2) (.slice a2 len2 cap2) (.slice e2 lem2 cab2)) (.bool s1) (.slice a1 len1 cap1) (.slice e1 lem1 cab1)
            have xU := below_put3 (below_put3 (bb hb0 x6) (Nat.le_refl _) (Nat.le_refl _) (.bool s2) (.slice a2 len2 cap2) (.slice e2 lem2 cab2)) (show w.heap.size ≤ w.heap.size + 1 by omega) (Nat.le_refl _) (.bool s1) (.slice a1 len1 cap1) (.slice e1 lem1 cab1)
            obtain ⟨U, hU⟩ : ∃ U, put3 (put3 w6 (w.heap.size) (.bool s2) (.slice a2 len2 cap2) (.slice e2 lem2 cab2)) (w.heap.size + 1) (.bool s1) (.slice a1 len1 cap1) (.slice e1 lem1 cab1) = U := ⟨_, rfl⟩
            rw [hU] at Bx2 By2 xU
            have HU := Lib.hid (fun (w' : World) (hb : Below U.heap.size U w') => And.intro (Bx2.below' hb).three.1 (By2.below' hb).three.1)
            unfold put3 at hU
            have HUU := Lib.hid hU
            clear hU Bx By Bx2 By2
            go_upto_region 10 with (fail)
            rw [HUU.out]
            clear HUU k0 k1 k2 j0 j1 j2 g0 g1 g2 h0 h1 h2
            have mono := fromQ_mono hle
            have np : ng (fromQ X2) = s2 := by rw [(fromQ_parts X2).1, ← hQ2.1]
            have nq : ng (fromQ X1) = s1 := by rw [(fromQ_parts X1).1, ← hQ1.1]
            rw [← hQ2.1, ← hQ1.1] at mono
            have FP := Lib.hid (fun w1 (hb : Below w.heap.size w w1) => fr_from (hQ2.below hb) hX2)
            have FQ := Lib.hid (fun w1 (hb : Below w.heap.size w w1) => fr_from (hQ1.below hb) hX1)
            have NP := fun w1 => rf_neg (fromQ_lt X2) w1
            have NQ := fun w1 => rf_neg (fromQ_lt X1) w1
            rw [np] at NP
            rw [nq] at NQ
            have NP := Lib.hid NP
            have NQ := Lib.hid NQ
            generalize fromQ X2 = FX at *
            generalize fromQ X1 = FY at *
            obtain ⟨mo1, mo2⟩ := mono
            have MO1 := Lib.hid mo1
            have MO2 := Lib.hid mo2
            clear mo1 mo2 np nq hle
            obtain ⟨⟨k0, k1, k2⟩, ⟨j0, j1, j2⟩⟩ := HU.out _ (Below.refl _ U)
            go_wp2_with fail
            go_region_held3 (fun w' => (w'.cell? ⟨w.heap.size, 0, none⟩ = some (.bool s2) ∧ w'.cell? ⟨w.heap.size, 1, none⟩ = some (.slice a2 len2 cap2) ∧ w'.cell? ⟨w.heap.size, 2, none⟩ = some (.slice e2 lem2 cab2)) ∧ (w'.cell? ⟨w.heap.size + 1, 0, none⟩ = some (.bool s1) ∧ w'.cell? ⟨w.heap.size + 1, 1, none⟩ = some (.slice a1 len1 cap1) ∧ w'.cell? ⟨w.heap.size + 1, 2, none⟩ = some (.slice e1 lem1 cab1))) (first | exact HU.out _ (Below.refl _ U).drew | exact HU.out _ y7 | exact HU.out _ y6 | fail)
              (first
                | (go_at_call 40; (with_reducible refine (FP.out _ ?hq1).mono ?_); (case hq1 => exact xU.drew); rintro _ w6 ⟨rfl, b6⟩; have y6 : Below U.heap.size U w6 := Below.undrew b6; have x6 := bb xU y6)
                | (go_at_call 40; (with_reducible refine (FQ.out _ ?hq2).mono ?_); (case hq2 => exact x6); rintro _ w7 ⟨rfl, b7⟩; have y7 := bb y6 b7; have x7 := bb x6 b7)
                | fail)
            clear k0 k1 k2 j0 j1 j2 FP FQ
            cases s2
            · obtain ⟨m1, m2⟩ := MO2.out rfl
              subst m1
              have d1 : decide ((FX : Int) ≤ FY) = true := decide_eq_true (by omega)
              have d2 : decide (FX ≤ FY) = true := decide_eq_true m2
              go_wp2_with fail
              with_reducible refine (NP.out _).mono ?_
              rintro _ _ ⟨rfl, rfl⟩
              go_wp2_with fail
              with_reducible refine (NP.out _).mono ?_
              rintro _ _ ⟨rfl, rfl⟩
              go_wp2_with fail
              with_reducible refine (NQ.out _).mono ?_
              rintro _ _ ⟨rfl, rfl⟩
              go_wp2_with fail
              refine (H10.out _).mono ?_
              rintro _ w8 ⟨rfl, b8⟩
              go_wp2_with fail
              go_ret
              exact ⟨rfl, bb x7 b8⟩
            · cases s1
              · go_wp2_with fail
                with_reducible refine (NP.out _).mono ?_
                rintro _ _ ⟨rfl, rfl⟩
                go_wp2_with fail
                with_reducible refine (NQ.out _).mono ?_
                rintro _ _ ⟨rfl, rfl⟩
                go_wp2_with fail
                with_reducible refine (NP.out _).mono ?_
                rintro _ _ ⟨rfl, rfl⟩
                go_wp2_with fail
                refine (H10.out _).mono ?_
                rintro _ w8 ⟨rfl, b8⟩
                go_wp2_with fail
                go_ret
                exact ⟨rfl, bb x7 b8⟩
              · have m2 := MO1.out rfl rfl
                have d1 : decide ((FY : Int) ≤ FX) = true := decide_eq_true (by omega)
                have d2 : decide (FY ≤ FX) = true := decide_eq_true m2
                go_wp2_with fail
                with_reducible refine (NP.out _).mono ?_
                rintro _ _ ⟨rfl, rfl⟩
                go_wp2_with fail
                with_reducible refine (NQ.out _).mono ?_
                rintro _ _ ⟨rfl, rfl⟩
                go_wp2_with fail
                refine (H10.out _).mono ?_
                rintro _ w8 ⟨rfl, b8⟩
                go_wp2_with fail
                go_ret
                exact ⟨rfl, bb x7 b8⟩
          · have d0 : decide (0 < cm) = false := decide_eq_false hc
            have hle : X1 ≤ X2 := by
              have := HCM.out
              exact (cmpQ_le _ _).1 (by omega)
            have xU := bb hb0 x6
            have HU := Lib.hid (fun (w' : World) (hb : Below w6.heap.size w6 w') => HS.out _ (bb x6 hb))
            go_upto_region 10 with (fail)
            generalize w6 = U at *
            have mono := fromQ_mono hle
            have np : ng (fromQ X1) = s1 := by rw [(fromQ_parts X1).1, ← hQ1.1]
            have nq : ng (fromQ X2) = s2 := by rw [(fromQ_parts X2).1, ← hQ2.1]
            rw [← hQ1.1, ← hQ2.1] at mono
            have FP := Lib.hid (fun w1 (hb : Below w.heap.size w w1) => fr_from (hQ1.below hb) hX1)
            have FQ := Lib.hid (fun w1 (hb : Below w.heap.size w w1) => fr_from (hQ2.below hb) hX2)
            have NP := fun w1 => rf_neg (fromQ_lt X1) w1
            have NQ := fun w1 => rf_neg (fromQ_lt X2) w1
            rw [np] at NP
            rw [nq] at NQ
            have NP := Lib.hid NP
            have NQ := Lib.hid NQ
            generalize fromQ X1 = FX at *
            generalize fromQ X2 = FY at *
            obtain ⟨mo1, mo2⟩ := mono
            have MO1 := Lib.hid mo1
            have MO2 := Lib.hid mo2
            clear mo1 mo2 np nq hle
            obtain ⟨⟨k0, k1, k2⟩, ⟨j0, j1, j2⟩⟩ := HU.out _ (Below.refl _ U)
            go_wp2_with fail
            go_region_held3 (fun w' => (w'.cell? ⟨w.heap.size, 0, none⟩ = some (.bool s1) ∧ w'.cell? ⟨w.heap.size, 1, none⟩ = some (.slice a1 len1 cap1) ∧ w'.cell? ⟨w.heap.size, 2, none⟩ = some (.slice e1 lem1 cab1)) ∧ (w'.cell? ⟨w.heap.size + 1, 0, none⟩ = some (.bool s2) ∧ w'.cell? ⟨w.heap.size + 1, 1, none⟩ = some (.slice a2 len2 cap2) ∧ w'.cell? ⟨w.heap.size + 1, 2, none⟩ = some (.slice e2 lem2 cab2))) (first | exact HU.out _ (Below.refl _ U).drew | exact HU.out _ y7 | exact HU.out _ y6 | fail)
              (first
                | (go_at_call 40; (with_reducible refine (FP.out _ ?hq1).mono ?_); (case hq1 => exact xU.drew); rintro _ w6 ⟨rfl, b6⟩; have y6 : Below U.heap.size U w6 := Below.undrew b6; have x6 := bb xU y6)
                | (go_at_call 40; (with_reducible refine (FQ.out _ ?hq2).mono ?_); (case hq2 => exact x6); rintro _ w7 ⟨rfl, b7⟩; have y7 := bb y6 b7; have x7 := bb x6 b7)
                | fail)
            clear k0 k1 k2 j0 j1 j2 FP FQ
            cases s1
            · obtain ⟨m1, m2⟩ := MO2.out rfl
              subst m1
              have d1 : decide ((FX : Int) ≤ FY) = true := decide_eq_true (by omega)
              have d2 : decide (FX ≤ FY) = true := decide_eq_true m2
              go_wp2_with fail
              with_reducible refine (NP.out _).mono ?_
              rintro _ _ ⟨rfl, rfl⟩
              go_wp2_with fail
              with_reducible refine (NP.out _).mono ?_
              rintro _ _ ⟨rfl, rfl⟩
              go_wp2_with fail
              with_reducible refine (NQ.out _).mono ?_
              rintro _ _ ⟨rfl, rfl⟩
              go_wp2_with fail
              refine (H10.out _).mono ?_
              rintro _ w8 ⟨rfl, b8⟩
              go_wp2_with fail
              go_ret
              exact ⟨rfl, bb x7 b8⟩
            · cases s2
              · go_wp2_with fail
                with_reducible refine (NP.out _).mono ?_
                rintro _ _ ⟨rfl, rfl⟩
                go_wp2_with fail
                with_reducible refine (NQ.out _).mono ?_
                rintro _ _ ⟨rfl, rfl⟩
                go_wp2_with fail
                with_reducible refine (NP.out _).mono ?_
                rintro _ _ ⟨rfl, rfl⟩
                go_wp2_with fail
                refine (H10.out _).mono ?_
                rintro _ w8 ⟨rfl, b8⟩
                go_wp2_with fail
                go_ret
                exact ⟨rfl, bb x7 b8⟩
              · have m2 := MO1.out rfl rfl
                have d1 : decide ((FY : Int) ≤ FX) = true := decide_eq_true (by omega)
                have d2 : decide (FY ≤ FX) = true := decide_eq_true m2
                go_wp2_with fail
                with_reducible refine (NP.out _).mono ?_
                rintro _ _ ⟨rfl, rfl⟩
                go_wp2_with fail
                with_reducible refine (NQ.out _).mono ?_
                rintro _ _ ⟨rfl, rfl⟩
                go_wp2_with fail
                refine (H10.out _).mono ?_
                rintro _ w8 ⟨rfl, b8⟩
                go_wp2_with fail
                go_ret
                exact ⟨rfl, bb x7 b8⟩
        · subst hret1
          subst hret2
          obtain ⟨k0, k1, k2⟩ := (HS.out _ x5).1
          obtain ⟨j0, j1, j2⟩ := (HS.out _ x5).2
          go_wp2_with fail
          refine (CM.out _ x5).mono ?_
          rintro _ w6 ⟨rfl, b6⟩
          have x6 := bb x5 b6
          clear k0 k1 k2 j0 j1 j2 CM x5 b6
          by_cases hc : 0 < cm
          · have d0 : decide (0 < cm) = true := decide_eq_true hc
            have hle : X2 ≤ X1 := by
              have := HCM.out
              rw [cmpQ_flip] at this
              exact (cmpQ_le _ _).1 (by omega)
            have Bx := HBx.out _ x6
            have By := HBy.out _ x6
            obtain ⟨⟨k0, k1, k2⟩, g0, g1, g2⟩ := Bx.three
            obtain ⟨⟨j0, j1, j2⟩, h0, h1, h2⟩ := By.three
            have Bx2 := (put3_self Bx (.bool s2) (.slice a2 len2 cap2) (.slice e2 lem2 cab2)).put3 (show w.heap.size ≠ w.heap.size + 1 by omega) (.bool s1) (.slice a1 len1 cap1) (.slice e1 lem1 cab1)
            have By2 := put3_self (By.put3 (show w.heap.size + 1 ≠ w.heap.size by omega) (.bool s2) (.slice a2 len2 cap2) (.slice e2 lem2 cab2)) (.bool s1) (.slice a1 len1 cap1) (.slice e1 lem1 cab1)
            have xU := below_put3 (below_put3 (bb hb0 x6) (Nat.le_refl _) (Nat.le_refl _) (.bool s2) (.slice a2 len2 cap2) (.slice e2 lem2 cab2)) (show w.heap.size ≤ w.heap.size + 1 by omega) (Nat.le_refl _) (.bool s1) (.slice a1 len1 cap1) (.slice e1 lem1 cab1)
            obtain ⟨U, hU⟩ : ∃ U, put3 (put3 w6 (w.heap.size) (.bool s2) (.slice a2 len2 cap2) (.slice e2 lem2 cab2)) (w.heap.size + 1) (.bool s1) (.slice a1 len1 cap1) (.slice e1 lem1 cab1) = U := ⟨_, rfl⟩
            rw [hU] at Bx2 By2 xU
            have HU := Lib.hid (fun (w' : World) (hb : Below U.heap.size U w') => And.intro (Bx2.below' hb).three.1 (By2.below' hb).three.1)
            unfold put3 at hU
            have HUU := Lib.hid hU
            clear hU Bx By Bx2 By2
            go_upto_region 10 with (fail)
            rw [HUU.out]
            clear HUU k0 k1 k2 j0 j1 j2 g0 g1 g2 h0 h1 h2
            have mono := fromQ_mono hle
            have np : ng (fromQ X2) = s2 := by rw [(fromQ_parts X2).1, ← hQ2.1]
            have nq : ng (fromQ X1) = s1 := by rw [(fromQ_parts X1).1, ← hQ1.1]
            rw [← hQ2.1, ← hQ1.1] at mono
            have FP := Lib.hid (fun w1 (hb : Below w.heap.size w w1) => fr_from (hQ2.below hb) hX2)
            have FQ := Lib.hid (fun w1 (hb : Below w.heap.size w w1) => fr_from (hQ1.below hb) hX1)
            have NP := fun w1 => rf_neg (fromQ_lt X2) w1
            have NQ := fun w1 => rf_neg (fromQ_lt X1) w1
            rw [np] at NP
            rw [nq] at NQ
            have NP := Lib.hid NP
            have NQ := Lib.hid NQ
            generalize fromQ X2 = FX at *
            generalize fromQ X1 = FY at *
            obtain ⟨mo1, mo2⟩ := mono
            have MO1 := Lib.hid mo1
            have MO2 := Lib.hid mo2
            clear mo1 mo2 np nq hle
            obtain ⟨⟨k0, k1, k2⟩, ⟨j0, j1, j2⟩⟩ := HU.out _ (Below.refl _ U)
            go_wp2_with fail
            go_region_held3 (fun w' => (w'.cell? ⟨w.heap.size, 0, none⟩ = some (.bool s2) ∧ w'.cell? ⟨w.heap.size, 1, none⟩ = some (.slice a2 len2 cap2) ∧ w'.cell? ⟨w.heap.size, 2, none⟩ = some (.slice e2 lem2 cab2)) ∧ (w'.cell? ⟨w.heap.size + 1, 0, none⟩ = some (.bool s1) ∧ w'.cell? ⟨w.heap.size + 1, 1, none⟩ = some (.slice a1 len1 cap1) ∧ w'.cell? ⟨w.heap.size + 1, 2, none⟩ = some (.slice e1 lem1 cab1))) (first | exact HU.out _ (Below.refl _ U).drew | exact HU.out _ y7 | exact HU.out _ y6 | fail)
              (first
                | (go_at_call 40; (with_reducible refine (FP.out _ ?hq1).mono ?_); (case hq1 => exact xU.drew); rintro _ w6 ⟨rfl, b6⟩; have y6 : Below U.heap.size U w6 := Below.undrew b6; have x6 := bb xU y6)
                | (go_at_call 40; (with_reducible refine (FQ.out _ ?hq2).mono ?_); (case hq2 => exact x6); rintro _ w7 ⟨rfl, b7⟩; have y7 := bb y6 b7; have x7 := bb x6 b7)
                | fail)
            clear k0 k1 k2 j0 j1 j2 FP FQ
            cases s2
            · obtain ⟨m1, m2⟩ := MO2.out rfl
              subst m1
              have d1 : decide ((FX : Int) ≤ FY) = true := decide_eq_true (by omega)
              have d2 : decide (FX ≤ FY) = true := decide_eq_true m2
              go_wp2_with fail
              with_reducible refine (NP.out _).mono ?_
              rintro _ _ ⟨rfl, rfl⟩
              go_wp2_with fail
              with_reducible refine (NP.out _).mono ?_
              rintro _ _ ⟨rfl, rfl⟩
              go_wp2_with fail
              with_reducible refine (NQ.out _).mono ?_
              rintro _ _ ⟨rfl, rfl⟩
              go_wp2_with fail
              refine (H10.out _).mono ?_
              rintro _ w8 ⟨rfl, b8⟩
              go_wp2_with fail
              go_ret
              exact ⟨rfl, bb x7 b8⟩
            · cases s1
              · go_wp2_with fail
                with_reducible refine (NP.out _).mono ?_
                rintro _ _ ⟨rfl, rfl⟩
                go_wp2_with fail
                with_reducible refine (NQ.out _).mono ?_
                rintro _ _ ⟨rfl, rfl⟩
                go_wp2_with fail
                with_reducible refine (NP.out _).mono ?_
                rintro _ _ ⟨rfl, rfl⟩
                go_wp2_with fail
                refine (H10.out _).mono ?_
                rintro _ w8 ⟨rfl, b8⟩
                go_wp2_with fail
                go_ret
                exact ⟨rfl, bb x7 b8⟩
              · have m2 := MO1.out rfl rfl
                have d1 : decide ((FY : Int) ≤ FX) = true := decide_eq_true (by omega)
                have d2 : decide (FY ≤ FX) = true := decide_eq_true m2
                go_wp2_with fail
                with_reducible refine (NP.out _).mono ?_
                rintro _ _ ⟨rfl, rfl⟩
                go_wp2_with fail
                with_reducible refine (NQ.out _).mono ?_
                rintro _ _ ⟨rfl, rfl⟩
                go_wp2_with fail
                refine (H10.out _).mono ?_
                rintro _ w8 ⟨rfl, b8⟩
                go_wp2_with fail
                go_ret
                exact ⟨rfl, bb x7 b8⟩
          · have d0 : decide (0 < cm) = false := decide_eq_false hc
            have hle : X1 ≤ X2 := by
              have := HCM.out
              exact (cmpQ_le _ _).1 (by omega)
            have xU := bb hb0 x6
            have HU := Lib.hid (fun (w' : World) (hb : Below w6.heap.size w6 w') => HS.out _ (bb x6 hb))
            go_upto_region 10 with (fail)
            generalize w6 = U at *
            have mono := fromQ_mono hle
            have np : ng (fromQ X1) = s1 := by rw [(fromQ_parts X1).1, ← hQ1.1]
            have nq : ng (fromQ X2) = s2 := by rw [(fromQ_parts X2).1, ← hQ2.1]
            rw [← hQ1.1, ← hQ2.1] at mono
            have FP := Lib.hid (fun w1 (hb : Below w.heap.size w w1) => fr_from (hQ1.below hb) hX1)
            have FQ := Lib.hid (fun w1 (hb : Below w.heap.size w w1) => fr_from (hQ2.below hb) hX2)
            have NP := fun w1 => rf_neg (fromQ_lt X1) w1
            have NQ := fun w1 => rf_neg (fromQ_lt X2) w1
            rw [np] at NP
            rw [nq] at NQ
            have NP := Lib.hid NP
            have NQ := Lib.hid NQ
            generalize fromQ X1 = FX at *
            generalize fromQ X2 = FY at *
            obtain ⟨mo1, mo2⟩ := mono
            have MO1 := Lib.hid mo1
            have MO2 := Lib.hid mo2
            clear mo1 mo2 np nq hle
            obtain ⟨⟨k0, k1, k2⟩, ⟨j0, j1, j2⟩⟩ := HU.out _ (Below.refl _ U)
            go_wp2_with fail
            go_region_held3 (fun w' => (w'.cell? ⟨w.heap.size, 0, none⟩ = some (.bool s1) ∧ w'.cell? ⟨w.heap.size, 1, none⟩ = some (.slice a1 len1 cap1) ∧ w'.cell? ⟨w.heap.size, 2, none⟩ = some (.slice e1 lem1 cab1)) ∧ (w'.cell? ⟨w.heap.size + 1, 0, none⟩ = some (.bool s2) ∧ w'.cell? ⟨w.heap.size + 1, 1, none⟩ = some (.slice a2 len2 cap2) ∧ w'.cell? ⟨w.heap.size + 1, 2, none⟩ = some (.slice e2 lem2 cab2))) (first | exact HU.out _ (Below.refl _ U).drew | exact HU.out _ y7 | exact HU.out _ y6 | fail)
              (first
                | (go_at_call 40; (with_reducible refine (FP.out _ ?hq1).mono ?_); (case hq1 => exact xU.drew); rintro _ w6 ⟨rfl, b6⟩; have y6 : Below U.heap.size U w6 := Below.undrew b6; have x6 := bb xU y6)
                | (go_at_call 40; (with_reducible refine (FQ.out _ ?hq2).mono ?_); (case hq2 => exact x6); rintro _ w7 ⟨rfl, b7⟩; have y7 := bb y6 b7; have x7 := bb x6 b7)
                | fail)
            clear k0 k1 k2 j0 j1 j2 FP FQ
            cases s1
            · obtain ⟨m1, m2⟩ := MO2.out rfl
              subst m1
              have d1 : decide ((FX : Int) ≤ FY) = true := decide_eq_true (by omega)
              have d2 : decide (FX ≤ FY) = true := decide_eq_true m2
              go_wp2_with fail
              with_reducible refine (NP.out _).mono ?_
              rintro _ _ ⟨rfl, rfl⟩
              go_wp2_with fail
              with_reducible refine (NP.out _).mono ?_
              rintro _ _ ⟨rfl, rfl⟩
              go_wp2_with fail
              with_reducible refine (NQ.out _).mono ?_
              rintro _ _ ⟨rfl, rfl⟩
              go_wp2_with fail
              refine (H10.out _).mono ?_
              rintro _ w8 ⟨rfl, b8⟩
              go_wp2_with fail
              go_ret
              exact ⟨rfl, bb x7 b8⟩
            · cases s2
              · go_wp2_with fail
                with_reducible refine (NP.out _).mono ?_
                rintro _ _ ⟨rfl, rfl⟩
                go_wp2_with fail
                with_reducible refine (NQ.out _).mono ?_
                rintro _ _ ⟨rfl, rfl⟩
                go_wp2_with fail
                with_reducible refine (NP.out _).mono ?_
                rintro _ _ ⟨rfl, rfl⟩
                go_wp2_with fail
                refine (H10.out _).mono ?_
                rintro _ w8 ⟨rfl, b8⟩
                go_wp2_with fail
                go_ret
                exact ⟨rfl, bb x7 b8⟩
              · have m2 := MO1.out rfl rfl
                have d1 : decide ((FY : Int) ≤ FX) = true := decide_eq_true (by omega)
                have d2 : decide (FY ≤ FX) = true := decide_eq_true m2
                go_wp2_with fail
                with_reducible refine (NP.out _).mono ?_
                rintro _ _ ⟨rfl, rfl⟩
                go_wp2_with fail
                with_reducible refine (NQ.out _).mono ?_
                rintro _ _ ⟨rfl, rfl⟩
                go_wp2_with fail
                refine (H10.out _).mono ?_
                rintro _ w8 ⟨rfl, b8⟩
                go_wp2_with fail
                go_ret
                exact ⟨rfl, bb x7 b8⟩
      · have T1 := Lib.hid (fun w1 => fr_torat_no hb fb w1)
        clear fb
        go_enter Try.func10, Try.ntmps10
        go_wp2_with fail
        rw [HV.out]
        clear HV
        refine (HR1.out _ (Below.refl _ _)).mono ?_
        rintro _ w1 ⟨rfl, b1⟩
        obtain ⟨k0, k1, k2⟩ := (HS.out _ b1).1
        obtain ⟨j0, j1, j2⟩ := (HS.out _ b1).2
        go_wp2_with fail
        refine (HR2.out _ b1).mono ?_
        rintro _ w2 ⟨rfl, b2⟩
        have x2 := bb b1 b2
        clear k0 k1 k2 j0 j1 j2 b1 b2
        go_wp2_with fail
        refine (T1.out _).mono ?_
        rintro _ w3 ⟨rfl, b3⟩
        obtain ⟨w5, hV4, B4, b4⟩ := box0 39 w3 #[.bool false, .slice none 0 0, .slice none 0 0]
        have HV4 := Lib.hid hV4
        have x5 := bb x2 (bb b3 b4)
        have hs4 := B4.lt
        clear hV4 B4 b3 b4 x2 T1 HR1 HR2
        go_upto_region 8 with (fail)
        rw [HV4.out]
        clear HV4
        obtain ⟨k0, k1, k2⟩ := (HS.out _ x5).1
        obtain ⟨j0, j1, j2⟩ := (HS.out _ x5).2
        go_wp2_with fail
        refine (CM.out _ x5).mono ?_
        rintro _ w6 ⟨rfl, b6⟩
        have x6 := bb x5 b6
        clear k0 k1 k2 j0 j1 j2 CM x5 b6
        by_cases hc : 0 < cm
        · have d0 : decide (0 < cm) = true := decide_eq_true hc
          have hle : X2 ≤ X1 := by
            have := HCM.out
            rw [cmpQ_flip] at this
            exact (cmpQ_le _ _).1 (by omega)
          have Bx := HBx.out _ x6
          have By := HBy.out _ x6
          obtain ⟨⟨k0, k1, k2⟩, g0, g1, g2⟩ := Bx.three
          obtain ⟨⟨j0, j1, j2⟩, h0, h1, h2⟩ := By.three
          have Bx2 := (put3_self Bx (.bool s2) (.slice a2 len2 cap2) (.slice e2 lem2 cab2)).put3 (show w.heap.size ≠ w.heap.size + 1 by omega) (.bool s1) (.slice a1 len1 cap1) (.slice e1 lem1 cab1)
          have By2 := put3_self (By.put3 (show w.heap.size + 1 ≠ w.heap.size by omega) (.bool s2) (.slice a2 len2 cap2) (.slice e2 lem2 cab2)) (.bool s1) (.slice a1 len1 cap1) (.slice e1 lem1 cab1)
          have xU := below_put3 (below_put3 (bb hb0 x6) (Nat.le_refl _) (Nat.le_refl _) (.bool s2) (.slice a2 len2 cap2) (.slice e2 lem2 cab2)) (show w.heap.size ≤ w.heap.size + 1 by omega) (Nat.le_refl _) (.bool s1) (.slice a1 len1 cap1) (.slice e1 lem1 cab1)
          obtain ⟨U, hU⟩ : ∃ U, put3 (put3 w6 (w.heap.size) (.bool s2) (.slice a2 len2 cap2) (.slice e2 lem2 cab2)) (w.heap.size + 1) (.bool s1) (.slice a1 len1 cap1) (.slice e1 lem1 cab1) = U := ⟨_, rfl⟩
          rw [hU] at Bx2 By2 xU
          have HU := Lib.hid (fun (w' : World) (hb : Below U.heap.size U w') => And.intro (Bx2.below' hb).three.1 (By2.below' hb).three.1)
          unfold put3 at hU
          have HUU := Lib.hid hU
          clear hU Bx By Bx2 By2
          go_upto_region 10 with (fail)
          rw [HUU.out]
          clear HUU k0 k1 k2 j0 j1 j2 g0 g1 g2 h0 h1 h2
          have mono := fromQ_mono hle
          have np : ng (fromQ X2) = s2 := by rw [(fromQ_parts X2).1, ← hQ2.1]
          have nq : ng (fromQ X1) = s1 := by rw [(fromQ_parts X1).1, ← hQ1.1]
          rw [← hQ2.1, ← hQ1.1] at mono
          have FP := Lib.hid (fun w1 (hb : Below w.heap.size w w1) => fr_from (hQ2.below hb) hX2)
          have FQ := Lib.hid (fun w1 (hb : Below w.heap.size w w1) => fr_from (hQ1.below hb) hX1)
          have NP := fun w1 => rf_neg (fromQ_lt X2) w1
          have NQ := fun w1 => rf_neg (fromQ_lt X1) w1
          rw [np] at NP
          rw [nq] at NQ
          have NP := Lib.hid NP
          have NQ := Lib.hid NQ
          generalize fromQ X2 = FX at *
          generalize fromQ X1 = FY at *
          obtain ⟨mo1, mo2⟩ := mono
          have MO1 := Lib.hid mo1
          have MO2 := Lib.hid mo2
          clear mo1 mo2 np nq hle
          obtain ⟨⟨k0, k1, k2⟩, ⟨j0, j1, j2⟩⟩ := HU.out _ (Below.refl _ U)
          go_wp2_with fail
          go_region_held3 (fun w' => (w'.cell? ⟨w.heap.size, 0, none⟩ = some (.bool s2) ∧ w'.cell? ⟨w.heap.size, 1, none⟩ = some (.slice a2 len2 cap2) ∧ w'.cell? ⟨w.heap.size, 2, none⟩ = some (.slice e2 lem2 cab2)) ∧ (w'.cell? ⟨w.heap.size + 1, 0, none⟩ = some (.bool s1) ∧ w'.cell? ⟨w.heap.size + 1, 1, none⟩ = some (.slice a1 len1 cap1) ∧ w'.cell? ⟨w.heap.size + 1, 2, none⟩ = some (.slice e1 lem1 cab1))) (first | exact HU.out _ (Below.refl _ U).drew | exact HU.out _ y7 | exact HU.out _ y6 | fail)
            (first
              | (go_at_call 40; (with_reducible refine (FP.out _ ?hq1).mono ?_); (case hq1 => exact xU.drew); rintro _ w6 ⟨rfl, b6⟩; have y6 : Below U.heap.size U w6 := Below.undrew b6; have x6 := bb xU y6)
              | (go_at_call 40; (with_reducible refine (FQ.out _ ?hq2).mono ?_); (case hq2 => exact x6); rintro _ w7 ⟨rfl, b7⟩; have y7 := bb y6 b7; have x7 := bb x6 b7)
              | fail)
          clear k0 k1 k2 j0 j1 j2 FP FQ
          cases s2
          · obtain ⟨m1, m2⟩ := MO2.out rfl
            subst m1
            have d1 : decide ((FX : Int) ≤ FY) = true := decide_eq_true (by omega)
            have d2 : decide (FX ≤ FY) = true := decide_eq_true m2
            go_wp2_with fail
            with_reducible refine (NP.out _).mono ?_
            rintro _ _ ⟨rfl, rfl⟩
            go_wp2_with fail
            with_reducible refine (NP.out _).mono ?_
            rintro _ _ ⟨rfl, rfl⟩
            go_wp2_with fail
            with_reducible refine (NQ.out _).mono ?_
            rintro _ _ ⟨rfl, rfl⟩
            go_wp2_with fail
            refine (H10.out _).mono ?_
            rintro _ w8 ⟨rfl, b8⟩
            go_wp2_with fail
            go_ret
            exact ⟨rfl, bb x7 b8⟩
          · cases s1
            · go_wp2_with fail
              with_reducible refine (NP.out _).mono ?_
              rintro _ _ ⟨rfl, rfl⟩
              go_wp2_with fail
              with_reducible refine (NQ.out _).mono ?_
              rintro _ _ ⟨rfl, rfl⟩
              go_wp2_with fail
              with_reducible refine (NP.out _).mono ?_
              rintro _ _ ⟨rfl, rfl⟩
              go_wp2_with fail
              refine (H10.out _).mono ?_
              rintro _ w8 ⟨rfl, b8⟩
              go_wp2_with fail
              go_ret
              exact ⟨rfl, bb x7 b8⟩
            · have m2 := MO1.out rfl rfl
              have d1 : decide ((FY : Int) ≤ FX) = true := decide_eq_true (by omega)
              have d2 : decide (FY ≤ FX) = true := decide_eq_true m2
              go_wp2_with fail
              with_reducible refine (NP.out _).mono ?_
              rintro _ _ ⟨rfl, rfl⟩
              go_wp2_with fail
              with_reducible refine (NQ.out _).mono ?_
              rintro _ _ ⟨rfl, rfl⟩
              go_wp2_with fail
              refine (H10.out _).mono ?_
              rintro _ w8 ⟨rfl, b8⟩
              go_wp2_with fail
              go_ret
              exact ⟨rfl, bb x7 b8⟩
        · have d0 : decide (0 < cm) = false := decide_eq_false hc
          have hle : X1 ≤ X2 := by
            have := HCM.out
            exact (cmpQ_le _ _).1 (by omega)
          have xU := bb hb0 x6
          have HU := Lib.hid (fun (w' : World) (hb : Below w6.heap.size w6 w') => HS.out _ (bb x6 hb))
          go_upto_region 10 with (fail)
          generalize w6 = U at *
          have mono := fromQ_mono hle
          have np : ng (fromQ X1) = s1 := by rw [(fromQ_parts X1).1, ← hQ1.1]
          have nq : ng (fromQ X2) = s2 := by rw [(fromQ_parts X2).1, ← hQ2.1]
          rw [← hQ1.1, ← hQ2.1] at mono
          have FP := Lib.hid (fun w1 (hb : Below w.heap.size w w1) => fr_from (hQ1.below hb) hX1)
          have FQ := Lib.hid (fun w1 (hb : Below w.heap.size w w1) => fr_from (hQ2.below hb) hX2)
          have NP := fun w1 => rf_neg (fromQ_lt X1) w1
          have NQ := fun w1 => rf_neg (fromQ_lt X2) w1
          rw [np] at NP
          rw [nq] at NQ
          have NP := Lib.hid NP
          have NQ := Lib.hid NQ
          generalize fromQ X1 = FX at *
          generalize fromQ X2 = FY at *
          obtain ⟨mo1, mo2⟩ := mono
          have MO1 := Lib.hid mo1
          have MO2 := Lib.hid mo2
          clear mo1 mo2 np nq hle
          obtain ⟨⟨k0, k1, k2⟩, ⟨j0, j1, j2⟩⟩ := HU.out _ (Below.refl _ U)
          go_wp2_with fail
          go_region_held3 (fun w' => (w'.cell? ⟨w.heap.size, 0, none⟩ = some (.bool s1) ∧ w'.cell? ⟨w.heap.size, 1, none⟩ = some (.slice a1 len1 cap1) ∧ w'.cell? ⟨w.heap.size, 2, none⟩ = some (.slice e1 lem1 cab1)) ∧ (w'.cell? ⟨w.heap.size + 1, 0, none⟩ = some (.bool s2) ∧ w'.cell? ⟨w.heap.size + 1, 1, none⟩ = some (.slice a2 len2 cap2) ∧ w'.cell? ⟨w.heap.size + 1, 2, none⟩ = some (.slice e2 lem2 cab2))) (first | exact HU.out _ (Below.refl _ U).drew | exact HU.out _ y7 | exact HU.out _ y6 | fail)
            (first
              | (go_at_call 40; (with_reducible refine (FP.out _ ?hq1).mono ?_); (case hq1 => exact xU.drew); rintro _ w6 ⟨rfl, b6⟩; have y6 : Below U.heap.size U w6 := Below.undrew b6; have x6 := bb xU y6)
              | (go_at_call 40; (with_reducible refine (FQ.out _ ?hq2).mono ?_); (case hq2 => exact x6); rintro _ w7 ⟨rfl, b7⟩; have y7 := bb y6 b7; have x7 := bb x6 b7)
              | fail)
          clear k0 k1 k2 j0 j1 j2 FP FQ
          cases s1
          · obtain ⟨m1, m2⟩ := MO2.out rfl
            subst m1
            have d1 : decide ((FX : Int) ≤ FY) = true := decide_eq_true (by omega)
            have d2 : decide (FX ≤ FY) = true := decide_eq_true m2
            go_wp2_with fail
            with_reducible refine (NP.out _).mono ?_
            rintro _ _ ⟨rfl, rfl⟩
            go_wp2_with fail
            with_reducible refine (NP.out _).mono ?_
            rintro _ _ ⟨rfl, rfl⟩
            go_wp2_with fail
            with_reducible refine (NQ.out _).mono ?_
            rintro _ _ ⟨rfl, rfl⟩
            go_wp2_with fail
            refine (H10.out _).mono ?_
            rintro _ w8 ⟨rfl, b8⟩
            go_wp2_with fail
            go_ret
            exact ⟨rfl, bb x7 b8⟩
          · cases s2
            · go_wp2_with fail
              with_reducible refine (NP.out _).mono ?_
              rintro _ _ ⟨rfl, rfl⟩
              go_wp2_with fail
              with_reducible refine (NQ.out _).mono ?_
              rintro _ _ ⟨rfl, rfl⟩
              go_wp2_with fail
              with_reducible refine (NP.out _).mono ?_
              rintro _ _ ⟨rfl, rfl⟩
              go_wp2_with fail
              refine (H10.out _).mono ?_
              rintro _ w8 ⟨rfl, b8⟩
              go_wp2_with fail
              go_ret
              exact ⟨rfl, bb x7 b8⟩
            · have m2 := MO1.out rfl rfl
              have d1 : decide ((FY : Int) ≤ FX) = true := decide_eq_true (by omega)
              have d2 : decide (FY ≤ FX) = true := decide_eq_true m2
              go_wp2_with fail
              with_reducible refine (NP.out _).mono ?_
              rintro _ _ ⟨rfl, rfl⟩
              go_wp2_with fail
              with_reducible refine (NQ.out _).mono ?_
              rintro _ _ ⟨rfl, rfl⟩
              go_wp2_with fail
              refine (H10.out _).mono ?_
              rintro _ w8 ⟨rfl, b8⟩
              go_wp2_with fail
              go_ret
              exact ⟨rfl, bb x7 b8⟩
    · have hr2' : (decide (len2 ≤ 20 ∧ lem2 ≤ 20) && rightB s2 xs2 ys2) = false := by simpa using hr2
      rw [hr2'] at R2
      have HR2 := Lib.hid R2
      clear R2 hr2 hr2'
      go_enter Try.func10, Try.ntmps10
      go_wp2_with fail
      rw [HV.out]
      clear HV
      refine (HR1.out _ (Below.refl _ _)).mono ?_
      rintro _ w1 ⟨rfl, b1⟩
      obtain ⟨k0, k1, k2⟩ := (HS.out _ b1).1
      obtain ⟨j0, j1, j2⟩ := (HS.out _ b1).2
      go_wp2_with fail
      refine (HR2.out _ b1).mono ?_
      rintro _ w2 ⟨rfl, b2⟩
      have x2 := bb b1 b2
      clear k0 k1 k2 j0 j1 j2 b1 b2
      go_wp2_with fail
      refine (H10.out _).mono ?_
      rintro _ w3 ⟨rfl, b3⟩
      go_wp2_with fail
      go_ret
      exact ⟨rfl, bb hb0 (bb x2 b3)⟩
  · have hr1' : (decide (len1 ≤ 20 ∧ lem1 ≤ 20) && rightB s1 xs1 ys1) = false := by simpa using hr1
    rw [hr1'] at R1
    have HR1 := Lib.hid R1
    clear R1 hr1 hr1'
    go_enter Try.func10, Try.ntmps10
    go_wp2_with fail
    rw [HV.out]
    refine (HR1.out _ (Below.refl _ _)).mono ?_
    rintro _ w1 ⟨rfl, b1⟩
    go_wp2_with fail
    refine (H10.out _).mono ?_
    rintro _ w3 ⟨rfl, b3⟩
    go_wp2_with fail
    go_ret
    exact ⟨rfl, bb hb0 (bb b1 b3)⟩

end Go.Proofs.Yteedipcmhaiglaa
