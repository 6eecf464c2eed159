/-
  The walk of the law FroundRats, and what gradinelaw10.right and apart do: true for any exact number (valid or not) and any word. No condition but that they fit their kinds.
-/
import Derived.Test.YteedipcmhaiglaaFrToRatAll
namespace Go.Proofs.Yteedipcmhaiglaa
set_option maxRecDepth 100000
open Go.RowKit
set_option linter.unusedVariables false
set_option linter.unusedSimpArgs false

set_option maxHeartbeats 1000000 in
theorem right10 {w : World} {s : Bool} {A A' : Option Addr} {n n' c c' : Nat} {xs ys : List Int} (h : Sl w A n c xs) (h' : Sl w A' n' c' ys) :
    Calls Try.prog 37 #[.agg #[.bool s, .slice A n c, .slice A' n' c']] w (RetBl (decide (n ≤ 20 ∧ n' ≤ 20) && rightB s xs ys) w) := by
  have L := fun w1 => plain_long (w := w1) (s := s) (A := A) (A' := A') (n := n) (n' := n') (c := c) (c' := c') 20
  obtain ⟨V, hV, B, hb0⟩ := box0 39 w #[.bool s, .slice A n c, .slice A' n' c']
  by_cases hl : n ≤ 20 ∧ n' ≤ 20
  · rw [decide_eq_false (by omega)] at L
    have R := fun w1 (hb : Below w.heap.size w w1) => ref_ratRight (s := s) (N := 20) (h.below hb) (h'.below hb) hl.1 hl.2 (by omega)
    rw [decide_eq_true hl, Bool.true_and]
    generalize rightB s xs ys = r at *
    have HL := Lib.hid L
    have HR := Lib.hid R
    have HV := Lib.hid hV
    clear L R hV hl
    go_enter Try.func37, Try.ntmps37
    go_wp2_with fail
    rw [HV.out]
    refine (HL.out _).mono ?_
    rintro _ w1 ⟨rfl, b1⟩
    obtain ⟨⟨k0, k1, k2⟩, _, _, _⟩ := (B.below' b1).three
    go_wp2_with fail
    refine (HR.out _ (bb hb0 b1)).mono ?_
    rintro _ w2 ⟨rfl, b2⟩
    go_wp2_with fail
    go_ret
    exact ⟨rfl, bb hb0 (bb b1 b2)⟩
  · rw [decide_eq_true (by omega)] at L
    rw [decide_eq_false hl, Bool.false_and]
    have HL := Lib.hid L
    have HV := Lib.hid hV
    clear L hV hl
    go_enter Try.func37, Try.ntmps37
    go_wp2_with fail
    rw [HV.out]
    refine (HL.out _).mono ?_
    rintro _ w1 ⟨rfl, b1⟩
    go_wp2_with fail
    go_ret
    exact ⟨rfl, bb hb0 b1⟩
theorem right10_Q {w : World} {s : Bool} {A A' : Option Addr} {n n' c c' : Nat} {xs ys : List Int} (h : Sl w A n c xs) (h' : Sl w A' n' c' ys) (hr : (decide (n ≤ 20 ∧ n' ≤ 20) && rightB s xs ys) = true) :
    ∃ X, Q w s A n c A' n' c' X ∧ Sz X 20 := by
  rw [Bool.and_eq_true, decide_eq_true_eq] at hr
  obtain ⟨X, h1, h2, _⟩ := right_Q h h' hr.1.1 hr.1.2 hr.2
  exact ⟨X, h1, h2⟩

set_option maxRecDepth 100000 in
set_option maxHeartbeats 4000000 in
theorem apart10 {w : World} {s t : Bool} {A A' B B' : Option Addr} {n n' c c' m m' d d' N : Nat} {X Y : Rat} (h : Q w s A n c A' n' c' X) (k : Q w t B m d B' m' d' Y) (hX : Sz X N) (hY : Sz Y N) (hN : N ≤ 40) :
    Calls Try.prog 44 #[.agg #[.bool s, .slice A n c, .slice A' n' c'], .agg #[.bool t, .slice B m d, .slice B' m' d']] w (RetQ (absQ (X - Y)) w) := by
  obtain ⟨V, hW, Ba, Bb, Br, hb0⟩ := boxes2 39 w #[.bool s, .slice A n c, .slice A' n' c'] #[.bool t, .slice B m d, .slice B' m' d'] #[.bool false, .slice none 0 0, .slice none 0 0]
  have SB := fun w1 (hb : Below V.heap.size V w1) => ref_qsub (h.below (bb hb0 hb)) (k.below (bb hb0 hb)) hX hY (by omega)
  have hz : Sz (X - Y) (N + N + 1) := hX.sub hY
  have MK := fun (w1 : World) (s1 : Bool) (A1 B1 : Option Addr) (n1 c1 m1 d1 : Nat) (q : Q w1 s1 A1 n1 c1 B1 m1 d1 (X - Y)) => ref_make (N := N + N + 1) false q.2.1 q.2.2 (q.2.1.small hz.1) (q.2.2.small hz.2) (by omega) (by rw [val_words]; exact den_ne _)
  simp only [val_words] at MK
  have e : rq false (X - Y).num.natAbs (X - Y).den = absQ (X - Y) := rfl
  rw [e] at MK
  generalize absQ (X - Y) = Z at *
  generalize X - Y = D at *
  have HSB := Lib.hid SB
  have HMK := Lib.hid MK
  have HW := Lib.hid hW
  have HBr := Lib.hid Br
  clear SB MK hW Br Ba Bb h k hX hY hz e
  go_enter Try.func44, Try.ntmps44
  go_wp2_with fail
  rw [HW.out]
  clear HW
  refine (HSB.out _ (Below.refl _ _)).mono ?_
  rintro _ w1 ⟨s1, A1, n1, c1, A2, n2, c2, rfl, q1, b1⟩
  obtain ⟨w2, hV2, B2, b2⟩ := box0 39 w1 #[.bool s1, .slice A1 n1 c1, .slice A2 n2 c2]
  have HV2 := Lib.hid hV2
  obtain ⟨⟨k0, k1, k2⟩, _, _, _⟩ := B2.three
  clear hV2 B2
  go_wp2_with fail
  rw [HV2.out]
  clear HV2
  refine (HMK.out _ _ _ _ _ _ _ _ (q1.below b2)).mono ?_
  rintro _ w3 ⟨s3, A3, n3, c3, A4, n4, c4, rfl, q3, b3⟩
  have x3 := bb b1 (bb b2 b3)
  have B3 := HBr.out.below' x3
  obtain ⟨⟨r0, r1, r2⟩, f0, f1, f2⟩ := B3.three
  clear k0 k1 k2
  go_wp2_with fail
  refine bodyPost_ret (v := .agg #[.bool s3, .slice A3 n3 c3, .slice A4 n4 c4]) (by simp [results, Try.results44, go_sem, r0, r1, r2]) rfl ?_
  exact ⟨_, _, _, _, _, _, _, rfl, q3.put3 ⟨_, _, _, _, _, _, _, B3⟩, below_put3 (bb hb0 x3) (by omega) (Nat.le_refl _) _ _ _⟩

set_option maxRecDepth 100000 in
set_option maxHeartbeats 8000000 in
theorem froundRats_walk (s : Bool) (a0 : Option Addr) (len0 cap0 : Nat) (z0 : List Int) (e0 : Option Addr) (lem0 cab0 : Nat) (y0 : List Int) (b : Int) (w1 : (Lit.int .u64 b).wf = true) (w : World) (w0 : IsRow .u64 w a0 len0 cap0 z0) (v0 : IsRow .u64 w e0 lem0 cab0 y0) :
    Calls Try.prog 8 #[.agg #[.bool s, .slice a0 len0 cap0, .slice e0 lem0 cab0], .int .u64 b] w fun e w' => e = .returned (.bool true) ∧ Below w.heap.size w w' := by
  obtain ⟨b, rfl, hb⟩ := u64_wf w1
  obtain ⟨s1, _⟩ := w0.sl
  obtain ⟨s2, _⟩ := v0.sl
  generalize z0.take len0 = xs at *
  generalize y0.take lem0 = ys at *
  clear w0 v0 w1
  obtain ⟨V, hV, Ba, hb0⟩ := box0 39 w #[.bool s, .slice a0 len0 cap0, .slice e0 lem0 cab0]
  have hS : ∀ w', Below V.heap.size V w' → w'.cell? ⟨w.heap.size, 0, none⟩ = some (.bool s) ∧ w'.cell? ⟨w.heap.size, 1, none⟩ = some (.slice a0 len0 cap0) ∧ w'.cell? ⟨w.heap.size, 2, none⟩ = some (.slice e0 lem0 cab0) := fun w' hb => (Ba.below' hb).three.1
  have hL : ∀ w', Below V.heap.size V w' → w.heap.size < w'.heap.size := fun w' hb => (Ba.below' hb).lt
  have R := fun w1 (hb : Below V.heap.size V w1) => right10 (s := s) (s1.below (bb hb0 hb)) (s2.below (bb hb0 hb))
  have HS := Lib.hid hS
  have HL := Lib.hid hL
  have HV := Lib.hid hV
  have H10 := Lib.hid (fun w1 => same10 w1)
  clear hS hL hV Ba
  by_cases hr : (decide (len0 ≤ 20 ∧ lem0 ≤ 20) && rightB s xs ys) = true
  · obtain ⟨X, hQ, hX⟩ := right10_Q s1 s2 hr
    rw [hr] at R
    have HR := Lib.hid R
    have F1 := Lib.hid (fun w1 (hb : Below V.heap.size V w1) => fr_from (hQ.below (bb hb0 hb)) hX)
    have F2 := Lib.hid (fun w1 (hb : Below V.heap.size V w1) => rf_from (hQ.below (bb hb0 hb)) hX)
    generalize fromQ X = F at *
    clear R hr s1 s2 hQ
    have FB := rf_finite hb
    unfold fin at FB
    by_cases fb : fld b < 2047
    · rw [decide_eq_true fb] at FB
      have HFB := Lib.hid FB
      have T1 := Lib.hid (fun w1 => fr_torat hb fb w1)
      have T2 := Lib.hid (fun w1 => rf_torat hb fb w1)
      have SM := Lib.hid (fun (w1 : World) (s3 s4 : Bool) (A1 B1 A2 B2 : Option Addr) (n1 c1 m1 e1 n2 c2 m2 e2 : Nat) (q1 : Q w1 s3 A1 n1 c1 B1 m1 e1 (dq b)) (q2 : Q w1 s4 A2 n2 c2 B2 m2 e2 (dq b)) => ref_sameT q1 q2 (dq_sz fb) (dq_sz fb) (by omega) rfl)
      generalize dq b = D at *
      clear FB fb
      go_enter Try.func8, Try.ntmps8
      go_wp2_with fail
      rw [HV.out]
      clear HV
      refine (HR.out _ (Below.refl _ _)).mono ?_
      rintro _ w1 ⟨rfl, b1⟩
      clear HR
      go_wp2_with fail
      refine (T1.out _).mono ?_
      rintro _ w2 ⟨s2, A2, n2, c2, D2, m2, d2, rfl, q2, b2⟩
      have x2 := bb b1 b2
      obtain ⟨w3, hV3, B3, b3⟩ := box0 39 w2 #[.bool s2, .slice A2 n2 c2, .slice D2 m2 d2]
      have HV3 := Lib.hid hV3
      have x3 := bb x2 b3
      have q3 := q2.below b3
      have HT := Lib.hid (fun (w' : World) (hb : Below w3.heap.size w3 w') => (B3.below' hb).three.1)
      clear hV3 B3 q2
      go_wp2_with fail
      rw [HV3.out]
      clear HV3
      refine (HFB.out _).mono ?_
      rintro _ _ ⟨rfl, rfl⟩
      obtain ⟨k0, k1, k2⟩ := HS.out _ x3
      obtain ⟨j0, j1, j2⟩ := HT.out _ (Below.refl _ w3)
      go_wp2_with fail
      go_region_held3 (fun w' => (w'.cell? ⟨w.heap.size, 0, none⟩ = some (.bool s) ∧ w'.cell? ⟨w.heap.size, 1, none⟩ = some (.slice a0 len0 cap0) ∧ w'.cell? ⟨w.heap.size, 2, none⟩ = some (.slice e0 lem0 cab0)) ∧ (w'.cell? ⟨w2.heap.size, 0, none⟩ = some (.bool s2) ∧ w'.cell? ⟨w2.heap.size, 1, none⟩ = some (.slice A2 n2 c2) ∧ w'.cell? ⟨w2.heap.size, 2, none⟩ = some (.slice D2 m2 d2))) (first | exact ⟨HS.out _ x3.drew, HT.out _ (Below.refl _ w3).drew⟩ | exact ⟨HS.out _ x5, HT.out _ y5⟩ | exact ⟨HS.out _ x4, HT.out _ y4⟩ | fail)
        (first
          | (go_at_call 30; (with_reducible refine (T2.out _).mono ?_); rintro _ w4 ⟨s4, A4, n4, c4, D4, m4, d4, rfl, q4, b4⟩; have y4 : Below w3.heap.size w3 w4 := Below.undrew b4; have x4 := bb x3 y4)
          | (go_at_call 39; (with_reducible refine (SM.out _ _ _ _ _ _ _ _ _ _ _ _ _ _ _ (q3.below y4) q4).mono ?_); rintro _ w5 ⟨rfl, b5⟩; have y5 := bb y4 b5; have x5 := bb x4 b5)
          | fail)
      clear k0 k1 k2 j0 j1 j2
      obtain ⟨k0, k1, k2⟩ := HS.out _ x5
      go_wp2_with fail
      go_region_held3 (fun w' => w'.cell? ⟨w.heap.size, 0, none⟩ = some (.bool s) ∧ w'.cell? ⟨w.heap.size, 1, none⟩ = some (.slice a0 len0 cap0) ∧ w'.cell? ⟨w.heap.size, 2, none⟩ = some (.slice e0 lem0 cab0)) (first | exact HS.out _ x5.drew | exact HS.out _ x8 | exact HS.out _ x7 | exact HS.out _ x6 | fail)
        (first
          | (go_at_call 40; (with_reducible refine (F1.out _ ?hq1).mono ?_); (case hq1 => exact x5.drew); rintro _ w6 ⟨rfl, b6⟩; have x6 : Below V.heap.size V w6 := bb x5 (Below.undrew b6))
          | (go_at_call 41; (with_reducible refine (F2.out _ ?hq2).mono ?_); (case hq2 => exact x6); rintro _ w7 ⟨rfl, b7⟩; have x7 := bb x6 b7)
          | (go_at_call 33; (with_reducible refine (H10.out _).mono ?_); rintro _ w8 ⟨rfl, b8⟩; have x8 := bb x7 b8)
          | fail)
      go_wp2_with fail
      go_ret
      exact ⟨rfl, bb hb0 x8⟩
    · rw [decide_eq_false fb] at FB
      have HFB := Lib.hid FB
      have T1 := Lib.hid (fun w1 => fr_torat_no hb fb w1)
      clear FB fb
      go_enter Try.func8, Try.ntmps8
      go_wp2_with fail
      rw [HV.out]
      clear HV
      refine (HR.out _ (Below.refl _ _)).mono ?_
      rintro _ w1 ⟨rfl, b1⟩
      clear HR
      go_wp2_with fail
      refine (T1.out _).mono ?_
      rintro _ w2 ⟨rfl, b2⟩
      have x2 := bb b1 b2
      obtain ⟨w3, hV3, B3, b3⟩ := box0 39 w2 #[.bool false, .slice none 0 0, .slice none 0 0]
      have HV3 := Lib.hid hV3
      have x3 := bb x2 b3
      have HT := Lib.hid (fun (w' : World) (hb : Below w3.heap.size w3 w') => (B3.below' hb).three.1)
      clear hV3 B3
      go_wp2_with fail
      rw [HV3.out]
      clear HV3
      refine (HFB.out _).mono ?_
      rintro _ _ ⟨rfl, rfl⟩
      obtain ⟨j0, j1, j2⟩ := HT.out _ (Below.refl _ w3)
      go_wp2_with fail
      refine (ref_sameZ _).mono ?_
      rintro _ w5 ⟨rfl, b5⟩
      have x5 := bb x3 b5
      clear j0 j1 j2
      obtain ⟨k0, k1, k2⟩ := HS.out _ x5
      go_wp2_with fail
      go_region_held3 (fun w' => w'.cell? ⟨w.heap.size, 0, none⟩ = some (.bool s) ∧ w'.cell? ⟨w.heap.size, 1, none⟩ = some (.slice a0 len0 cap0) ∧ w'.cell? ⟨w.heap.size, 2, none⟩ = some (.slice e0 lem0 cab0)) (first | exact HS.out _ x5.drew | exact HS.out _ x8 | exact HS.out _ x7 | exact HS.out _ x6 | fail)
        (first
          | (go_at_call 40; (with_reducible refine (F1.out _ ?hq1).mono ?_); (case hq1 => exact x5.drew); rintro _ w6 ⟨rfl, b6⟩; have x6 : Below V.heap.size V w6 := bb x5 (Below.undrew b6))
          | (go_at_call 41; (with_reducible refine (F2.out _ ?hq2).mono ?_); (case hq2 => exact x6); rintro _ w7 ⟨rfl, b7⟩; have x7 := bb x6 b7)
          | (go_at_call 33; (with_reducible refine (H10.out _).mono ?_); rintro _ w8 ⟨rfl, b8⟩; have x8 := bb x7 b8)
          | fail)
      go_wp2_with fail
      go_ret
      exact ⟨rfl, bb hb0 x8⟩
  · have hr' : (decide (len0 ≤ 20 ∧ lem0 ≤ 20) && rightB s xs ys) = false := by simpa using hr
    rw [hr'] at R
    have HR := Lib.hid R
    clear R hr hr'
    go_enter Try.func8, Try.ntmps8
    go_wp2_with fail
    rw [HV.out]
    refine (HR.out _ (Below.refl _ _)).mono ?_
    rintro _ w1 ⟨rfl, b1⟩
    go_wp2_with fail
    refine (H10.out _).mono ?_
    rintro _ w2 ⟨rfl, b2⟩
    go_wp2_with fail
    go_ret
    exact ⟨rfl, bb hb0 (bb b1 b2)⟩

end Go.Proofs.Yteedipcmhaiglaa
