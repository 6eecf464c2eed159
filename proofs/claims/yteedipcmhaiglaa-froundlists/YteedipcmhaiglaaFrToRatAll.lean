/-
  The walks of the laws FbitsBack, FroundWords and FroundLists: each returns true for any words, signs, ints and lists. No condition but that they fit their kinds.
-/
import Derived.Test.YteedipcmhaiglaaFltRat
import Derived.Test.YteedipcmhaiglaaFbLaws
import Derived.Test.YteedipcmhaiglaaRatMulAll
import Derived.Test.YteedipcmhaiglaaRefShift
import Derived.Test.YteedipcmhaiglaaFrRunAll
import Derived.Test.YteedipcmhaiglaaRefDiv1
import Derived.Deep.RegionHeld3
namespace Go.Proofs.Yteedipcmhaiglaa
set_option maxRecDepth 100000
open Go.RowKit
set_option linter.unusedVariables false
set_option linter.unusedSimpArgs false

theorem dq_parts {b : Nat} (h : fld b < 2047) : sig b * 2 ^ clampS (xpo b) < W ^ 18 ∧ 2 ^ clampS (-(xpo b)) < W ^ 18 ∧ 2 ^ clampS (-(xpo b)) ≠ 0 := by
  obtain ⟨h1, h2⟩ := xpo_range h
  have hs := sig_lt b
  refine ⟨?_, ?_, by have := Nat.two_pow_pos (clampS (-(xpo b))); omega⟩
  · have hc : clampS (xpo b) ≤ 64 * 17 := by
      rcases Int.lt_or_le (xpo b) 0 with hl | hl
      · rw [clampS_neg hl]; omega
      · rw [clampS_mid hl (by omega)]; omega
    exact mul_lt_pow (a := sig b) (k := 1) (l := 17) (by rw [Nat.pow_one]; unfold W; omega) hc
  · have hc : clampS (-(xpo b)) ≤ 64 * 17 := by
      rcases Int.lt_or_le (-(xpo b)) 0 with hl | hl
      · rw [clampS_neg hl]; omega
      · rw [clampS_mid hl (by omega)]; omega
    have := mul_lt_pow (a := 1) (k := 1) (l := 17) (by rw [Nat.pow_one]; unfold W; omega) hc
    rwa [Nat.one_mul] at this

set_option maxRecDepth 100000 in
set_option maxHeartbeats 4000000 in
theorem rf_torat {b : Nat} (hb : b < 18446744073709551616) (hf : fld b < 2047) (w : World) :
    Calls Try.prog 30 #[.int .u64 b] w (RetQ (dq b) w) := by
  obtain ⟨V, hW, Br, hb0⟩ := box0 39 w #[.bool false, .slice none 0 0, .slice none 0 0]
  obtain ⟨x1, x2⟩ := xpo_range hf
  obtain ⟨p1, p2, p3⟩ := dq_parts hf
  have hq := dq_eq hf
  have hs := sig_lt b
  have P := fun w1 => rf_parts hb w1
  have N := fun w1 => rf_neg hb w1
  have S1 := fun w1 => ref_shl (sl_lit w1 (sig b : Int) (by unfold U; omega)) (by omega) (xpo b)
  have S2 := fun w1 => ref_shl (sl_lit w1 1 U_1) (by omega) (-(xpo b))
  rw [val_one, Int.toNat_natCast] at S1
  rw [val_one, show (1 : Int).toNat = 1 from rfl, Nat.one_mul] at S2
  have MK := fun (w1 : World) (A A' : Option Addr) (n n' c c' : Nat) (t1 : Sl w1 A n c (words (sig b * 2 ^ clampS (xpo b)))) (t2 : Sl w1 A' n' c' (words (2 ^ clampS (-(xpo b))))) => ref_make (N := 18) (ng b) t1 t2 (t1.small p1) (t2.small p2) (by omega) (by rw [val_words]; exact p3)
  simp only [val_words] at MK
  rw [hq] at MK
  generalize sig b * 2 ^ clampS (xpo b) = X1 at *
  generalize 2 ^ clampS (-(xpo b)) = X2 at *
  generalize dq b = D at *
  generalize sig b = g at *
  generalize xpo b = x at *
  generalize ng b = s at *
  have HW := Lib.hid hW
  have HBr := Lib.hid Br
  have HP := Lib.hid P
  have HN := Lib.hid N
  have HS1 := Lib.hid S1
  have HS2 := Lib.hid S2
  have HMK := Lib.hid MK
  clear hW Br P N S1 S2 MK hq p1 p2 p3 hf
  go_enter Try.func30, Try.ntmps30
  go_wp2_with fail
  rw [HW.out]
  clear HW
  refine (HP.out _).mono ?_
  rintro _ _ ⟨rfl, rfl⟩
  go_wp2_with fail
  refine (HN.out _).mono ?_
  rintro _ _ ⟨rfl, rfl⟩
  go_wp2_with fail
  with_reducible refine (HS1.out _).mono ?_
  rintro _ w1 ⟨A1, n1, c1, rfl, t1, b1⟩
  have y1 := bb (below_alloc V _) b1
  go_wp2_with fail
  with_reducible refine (HS2.out _).mono ?_
  rintro _ w2 ⟨A2, n2, c2, rfl, t2, b2⟩
  have y2 := bb (below_alloc w1 _) b2
  go_wp2_with fail
  with_reducible refine (HMK.out _ _ _ _ _ _ _ (t1.below y2) t2).mono ?_
  rintro _ w3 ⟨s3, A3, n3, c3, A4, n4, c4, rfl, q3, b3⟩
  have x3 := bb y1 (bb y2 b3)
  have B3 := HBr.out.below' x3
  obtain ⟨⟨r0, r1, r2⟩, f0, f1, f2⟩ := B3.three
  go_wp2_with fail
  refine bodyPost_ret (v := .agg #[.bool s3, .slice A3 n3 c3, .slice A4 n4 c4]) (by simp [results, Try.results30, go_sem, r0, r1, r2]) rfl ?_
  exact ⟨_, _, _, _, _, _, _, rfl, q3.put3 ⟨_, _, _, _, _, _, _, B3⟩, below_put3 (bb hb0 x3) (by omega) (Nat.le_refl _) _ _ _⟩

set_option maxRecDepth 100000 in
set_option maxHeartbeats 4000000 in
theorem fr_torat {b : Nat} (hb : b < 18446744073709551616) (hf : fld b < 2047) (w : World) :
    Calls Try.prog 38 #[.int .u64 b] w (RetQE (dq b) 0 w) := by
  obtain ⟨V, hW, Br, hb0⟩ := box0 39 w #[.bool false, .slice none 0 0, .slice none 0 0]
  obtain ⟨x1, x2⟩ := xpo_range hf
  obtain ⟨p1, p2, p3⟩ := dq_parts hf
  have hq := dq_eq hf
  have hs := sig_lt b
  have P := fun w1 => fb_partsY hb hf w1
  have O1 := fun w1 => nat_of (sig b : Int) (by unfold U; omega) w1
  have O2 := fun w1 => nat_of 1 U_1 w1
  rw [Int.toNat_natCast] at O1
  rw [show (1 : Int).toNat = 1 from rfl] at O2
  have S1 := fun (w1 : World) (A : Option Addr) (n c : Nat) (t : Sl w1 A n c (words (sig b))) => nat_shl t (by have := t.small (k := 1) (by rw [Nat.pow_one]; unfold W; omega); omega) (xpo b)
  have S2 := fun (w1 : World) (A : Option Addr) (n c : Nat) (t : Sl w1 A n c (words 1)) => nat_shl t (by have := t.small (k := 1) (by rw [Nat.pow_one]; unfold W; omega); omega) (-(xpo b))
  rw [val_words] at S1
  rw [val_words, Nat.one_mul] at S2
  have MK := fun (w1 : World) (A A' : Option Addr) (n n' c c' : Nat) (t1 : Sl w1 A n c (words (sig b * 2 ^ clampS (xpo b)))) (t2 : Sl w1 A' n' c' (words (2 ^ clampS (-(xpo b))))) => rat_make (ng b) t1 t2 (by have := t1.small p1; omega) (by have := t2.small p2; omega) (by rw [val_words]; exact p3)
  simp only [val_words] at MK
  rw [hq] at MK
  generalize sig b * 2 ^ clampS (xpo b) = X1 at *
  generalize 2 ^ clampS (-(xpo b)) = X2 at *
  generalize dq b = D at *
  generalize sig b = g at *
  generalize xpo b = x at *
  generalize ng b = s at *
  have HW := Lib.hid hW
  have HBr := Lib.hid Br
  have HP := Lib.hid P
  have HO1 := Lib.hid O1
  have HO2 := Lib.hid O2
  have HS1 := Lib.hid S1
  have HS2 := Lib.hid S2
  have HMK := Lib.hid MK
  clear hW Br P O1 O2 S1 S2 MK hq p1 p2 p3 hf
  go_enter Try.func38, Try.ntmps38
  go_wp2_with fail
  rw [HW.out]
  clear HW
  refine (HP.out _).mono ?_
  rintro _ _ ⟨rfl, rfl⟩
  go_wp2_with fail
  with_reducible refine (HO1.out _).mono ?_
  rintro _ w1 ⟨A1, n1, c1, rfl, t1, b1⟩
  go_wp2_with fail
  with_reducible refine (HS1.out _ _ _ _ t1).mono ?_
  rintro _ w2 ⟨A2, n2, c2, rfl, t2, b2⟩
  go_wp2_with fail
  with_reducible refine (HO2.out _).mono ?_
  rintro _ w3 ⟨A3, n3, c3, rfl, t3, b3⟩
  go_wp2_with fail
  with_reducible refine (HS2.out _ _ _ _ t3).mono ?_
  rintro _ w4 ⟨A4, n4, c4, rfl, t4, b4⟩
  go_wp2_with fail
  with_reducible refine (HMK.out _ _ _ _ _ _ _ ((t2.below b3).below b4) t4).mono ?_
  rintro _ w5 ⟨s5, A5, n5, c5, A6, n6, c6, rfl, q5, b5⟩
  have x5 := bb b1 (bb b2 (bb b3 (bb b4 b5)))
  have B3 := HBr.out.below' x5
  obtain ⟨⟨r0, r1, r2⟩, f0, f1, f2⟩ := B3.three
  go_wp2_with fail
  refine bodyPost_ret (v := .tuple #[.agg #[.bool s5, .slice A5 n5 c5, .slice A6 n6 c6], .int .i64 0]) (by simp [results, Try.results38, go_sem, r0, r1, r2]) rfl ?_
  exact ⟨_, _, _, _, _, _, _, rfl, q5.put3 ⟨_, _, _, _, _, _, _, B3⟩, below_put3 (bb hb0 x5) (by omega) (Nat.le_refl _) _ _ _⟩

set_option maxRecDepth 100000 in
set_option maxHeartbeats 4000000 in
theorem fr_torat_no {b : Nat} (hb : b < 18446744073709551616) (hf : ¬ fld b < 2047) (w : World) :
    Calls Try.prog 38 #[.int .u64 b] w (RetNo 1 w) := by
  obtain ⟨V, hW, Br, hb0⟩ := box0 39 w #[.bool false, .slice none 0 0, .slice none 0 0]
  have HP := Lib.hid (fun w1 => fb_partsN hb hf w1)
  have HW := Lib.hid hW
  obtain ⟨⟨r0, r1, r2⟩, f0, f1, f2⟩ := Br.three
  clear hW hf
  go_enter Try.func38, Try.ntmps38
  go_wp2_with fail
  rw [HW.out]
  clear HW
  refine (HP.out _).mono ?_
  rintro _ _ ⟨rfl, rfl⟩
  go_wp2_with fail
  refine bodyPost_ret (v := .tuple #[.agg #[.bool false, .slice none 0 0, .slice none 0 0], .int .i64 1]) (by simp [results, Try.results38, go_sem, r0, r1, r2]) rfl ?_
  exact ⟨rfl, below_put3 hb0 (by omega) (Nat.le_refl _) _ _ _⟩

end Go.Proofs.Yteedipcmhaiglaa

namespace Go.Proofs.Yteedipcmhaiglaa
set_option maxRecDepth 100000
open Go.RowKit
set_option linter.unusedVariables false
set_option linter.unusedSimpArgs false

theorem fromQ_zero {X : Rat} (h : X.num.natAbs = 0) : fromQ X = 0 := by
  unfold fromQ
  rw [neg_zero_ X h, h, magR_zero]; rfl
theorem fromQ_exact {X : Rat} {sh : Nat} (h : X.num.natAbs * 2 ^ sh % X.den = 0) : sg (neg_ X) (magM (X.num.natAbs * 2 ^ sh / X.den) (-(sh : Int)) false) = fromQ X := by
  unfold fromQ
  rw [magM_no, quot_exact (Nat.pos_of_ne_zero (den_ne X)) h]
theorem fromQ_sticky {X : Rat} {sh : Nat} (h0 : 0 < X.num.natAbs) (hs : 64 + blen X.den ≤ blen X.num.natAbs + sh) (h : X.num.natAbs * 2 ^ sh % X.den ≠ 0) : sg (neg_ X) (magM (X.num.natAbs * 2 ^ sh / X.den) (-(sh : Int)) true) = fromQ X := by
  unfold fromQ
  rw [magM_yes, quot_sticky (Nat.pos_of_ne_zero (den_ne X)) h0 hs h]

set_option maxRecDepth 100000 in
set_option maxHeartbeats 8000000 in
theorem fr_from {w : World} {s : Bool} {A A' : Option Addr} {n n' c c' : Nat} {X : Rat} (h : Q w s A n c A' n' c' X) (hX : Sz X 20) :
    Calls Try.prog 40 #[.agg #[.bool s, .slice A n c, .slice A' n' c']] w (RetW (fromQ X) w) := by
  obtain ⟨V, hW, Ba, hb0⟩ := box0 39 w #[.bool s, .slice A n c, .slice A' n' c']
  have l1 : n ≤ 20 := h.2.1.small hX.1
  have l2 : n' ≤ 20 := h.2.2.small hX.2
  have h1 := h.2.1.below hb0
  have h2 := h.2.2.below hb0
  have hs := h.1
  have N1 := fun (w1 : World) (x : Sl w1 A n c (words X.num.natAbs)) => nat_bits x (by omega)
  have N2 := fun (w1 : World) (x : Sl w1 A' n' c' (words X.den)) => nat_bits x (by omega)
  simp only [val_words] at N1 N2
  have hS : ∀ w', Below V.heap.size V w' → w'.cell? ⟨w.heap.size, 0, none⟩ = some (.bool s) ∧ w'.cell? ⟨w.heap.size, 1, none⟩ = some (.slice A n c) ∧ w'.cell? ⟨w.heap.size, 2, none⟩ = some (.slice A' n' c') := fun w' hb => (Ba.below' hb).three.1
  have hq0 : 0 < X.den := Nat.pos_of_ne_zero (den_ne X)
  have hb2 := blen_pos hq0
  have hbx : blen X.num.natAbs ≤ 1280 := blen_pow_W hX.1
  have hby : blen X.den ≤ 1280 := blen_pow_W hX.2
  rcases Nat.eq_zero_or_pos X.num.natAbs with hz | hp0
  · rw [fromQ_zero hz]
    have N1 := N1
    rw [hz, blen_zero] at N1
    rw [hz] at h1
    generalize blen X.den = d at *
    have HN1 := Lib.hid N1
    have HN2 := Lib.hid N2
    have HS := Lib.hid hS
    have HW := Lib.hid hW
    clear N1 N2 hS Ba hW h hX hs
    go_enter Try.func40, Try.ntmps40
    go_wp2_with fail
    rw [HW.out]
    obtain ⟨k0, k1, k2⟩ := HS.out _ (Below.refl _ V)
    go_region_held3 (fun w' => w'.cell? ⟨w.heap.size, 0, none⟩ = some (.bool s) ∧ w'.cell? ⟨w.heap.size, 1, none⟩ = some (.slice A n c) ∧ w'.cell? ⟨w.heap.size, 2, none⟩ = some (.slice A' n' c')) (exact HS.out _ (Below.refl _ V).drew)
      (first
        | (go_at_call 57; (with_reducible refine (HN1.out _ ?hz1).mono ?_); (case hz1 => exact h1); rintro _ _ ⟨rfl, rfl⟩)
        | (go_at_call 57; (with_reducible refine (HN2.out _ ?hz2).mono ?_); (case hz2 => exact h2); rintro _ _ ⟨rfl, rfl⟩)
        | fail)
    all_goals
      go_wp2_with fail
      go_ret
      exact ⟨rfl, hb0.drew⟩
  · have hb1 := blen_pos hp0
    obtain ⟨sh, hsh⟩ : ∃ sh : Nat, (sh : Int) = max (64 - ((blen X.num.natAbs : Int) - blen X.den)) 0 := ⟨(max (64 - ((blen X.num.natAbs : Int) - blen X.den)) 0).toNat, by omega⟩
    have hsh2 : 64 + blen X.den ≤ blen X.num.natAbs + sh := by omega
    have hP : X.num.natAbs * 2 ^ sh < W ^ (20 + 21) := mul_lt_pow hX.1 (by omega)
    have SH := fun w1 (hb : Below V.heap.size V w1) => nat_shl (h1.below hb) (by omega) (sh : Int)
    rw [val_words, clampS_nat (by omega)] at SH
    have DV := fun (w1 : World) (A2 : Option Addr) (n2 c2 : Nat) (t : Sl w1 A2 n2 c2 (words (X.num.natAbs * 2 ^ sh))) (hb : Below V.heap.size V w1) => quot_div t (h2.below hb) (by have := t.small hP; omega) (by omega) (by rw [val_words]; exact hq0)
    rw [val_words, val_words] at DV
    have hQ1 : X.num.natAbs * 2 ^ sh / X.den < W ^ (20 + 21) := Nat.lt_of_le_of_lt (Nat.div_le_self _ _) hP
    have hR1 : X.num.natAbs * 2 ^ sh % X.den < W ^ 20 := Nat.lt_trans (Nat.mod_lt _ hq0) hX.2
    have BT := fun (w1 : World) (A4 : Option Addr) (n4 c4 : Nat) (t : Sl w1 A4 n4 c4 (words (X.num.natAbs * 2 ^ sh % X.den))) => nat_bits t (by have := t.small hR1; omega)
    rw [val_words] at BT
    have OF := fun (w1 : World) (A3 : Option Addr) (n3 c3 : Nat) (t : Sl w1 A3 n3 c3 (words (X.num.natAbs * 2 ^ sh / X.den))) (more : Bool) => fr_of s t (by have := t.small hQ1; omega) (e := -(sh : Int)) (by omega) (by omega) more
    rw [val_words] at OF
    obtain ⟨more, B, hOF, hmore, hBT⟩ : ∃ (more : Bool) (B : Nat), (∀ (w1 : World) (A3 : Option Addr) (n3 c3 : Nat) (t : Sl w1 A3 n3 c3 (words (X.num.natAbs * 2 ^ sh / X.den))), Calls Try.prog 34 #[.bool s, .slice A3 n3 c3, .int .i64 (-(sh : Int)), .bool more] w1 (RetW (fromQ X) w1)) ∧ decide (0 < B) = more ∧ blen (X.num.natAbs * 2 ^ sh % X.den) = B := by
      by_cases hr : X.num.natAbs * 2 ^ sh % X.den = 0
      · refine ⟨false, 0, fun w1 A3 n3 c3 t => ?_, by decide, by rw [hr, blen_zero]⟩
        have := OF w1 A3 n3 c3 t false
        rw [hs, fromQ_exact hr, ← hs] at this
        exact this
      · refine ⟨true, _, fun w1 A3 n3 c3 t => ?_, decide_eq_true (blen_pos (Nat.pos_of_ne_zero hr)), rfl⟩
        have := OF w1 A3 n3 c3 t true
        rw [hs, fromQ_sticky hp0 hsh2 hr, ← hs] at this
        exact this
    rw [hBT] at BT
    generalize X.num.natAbs * 2 ^ sh / X.den = q1 at *
    generalize X.num.natAbs * 2 ^ sh % X.den = r1 at *
    generalize X.num.natAbs * 2 ^ sh = P1 at *
    generalize fromQ X = F at *
    generalize blen X.num.natAbs = a at *
    generalize blen X.den = d at *
    have z1 : ((a : Int) == 0) = false := by simp; omega
    have z2 : ((d : Int) == 0) = false := by simp; omega
    have z3 : decide ((a : Int) - d < -2000) = false := decide_eq_false (by omega)
    have z4 : decide (2000 < (a : Int) - d) = false := decide_eq_false (by omega)
    have HN1 := Lib.hid N1
    have HN2 := Lib.hid N2
    have HS := Lib.hid hS
    have HW := Lib.hid hW
    have HSH := Lib.hid SH
    have HDV := Lib.hid DV
    have HBT := Lib.hid BT
    have HOF := Lib.hid hOF
    have Hsh := Lib.hid hsh
    have hsh3 : sh ≤ 1344 := by omega
    have hwr : IntKind.i64.wrap (-(sh : Int)) = -(sh : Int) := IntWalk.i64_in _ (by omega)
    clear N1 N2 hS Ba hW h hX hs SH DV BT hOF OF hP hQ1 hR1 hBT hsh2 hsh hp0
    go_enter Try.func40, Try.ntmps40
    go_wp2_with fail
    rw [HW.out]
    clear HW
    obtain ⟨k0, k1, k2⟩ := HS.out _ (Below.refl _ V)
    go_region_held3 (fun w' => w'.cell? ⟨w.heap.size, 0, none⟩ = some (.bool s) ∧ w'.cell? ⟨w.heap.size, 1, none⟩ = some (.slice A n c) ∧ w'.cell? ⟨w.heap.size, 2, none⟩ = some (.slice A' n' c')) (exact HS.out _ (Below.refl _ V).drew)
      (first
        | (go_at_call 57; (with_reducible refine (HN1.out _ ?hz1).mono ?_); (case hz1 => exact h1); rintro _ _ ⟨rfl, rfl⟩)
        | (go_at_call 57; (with_reducible refine (HN2.out _ ?hz2).mono ?_); (case hz2 => exact h2); rintro _ _ ⟨rfl, rfl⟩)
        | fail)
    clear k0 k1 k2
    have x1 : Below V.heap.size V V.drew := (Below.refl _ V).drew
    generalize V.drew = V1 at x1 ⊢
    go_upto_region 7 with (fail)
    go_cut [6] (fun s6 wx => s6 = .int .i64 sh ∧ V1 = wx)
    case first =>
      by_cases g1 : 64 - ((a : Int) - d) < 0
      · go_wp2_with fail
        go_meet
        exact ⟨vint (by have := Hsh.out; omega), rfl⟩
      · go_wp2_with fail
        all_goals go_meet
        all_goals exact ⟨vint (by have := Hsh.out; omega), rfl⟩
    case rest =>
    obtain ⟨rfl, rfl⟩ := hcut
    clear z1 z2 z3 z4
    obtain ⟨k0, k1, k2⟩ := HS.out _ x1
    go_wp2_with fail
    go_region_held3 (fun w' => w'.cell? ⟨w.heap.size, 0, none⟩ = some (.bool s) ∧ w'.cell? ⟨w.heap.size, 1, none⟩ = some (.slice A n c) ∧ w'.cell? ⟨w.heap.size, 2, none⟩ = some (.slice A' n' c')) (first | exact HS.out _ x1.drew | exact HS.out _ x3 | exact HS.out _ x2 | fail)
      (first
        | (go_at_call 59; (with_reducible refine (HSH.out _ ?hb1).mono ?_); (case hb1 => exact x1.drew); rintro _ w2 ⟨A2, n2, c2, rfl, t2, b2⟩; have x2 : Below V.heap.size V w2 := bb x1 (Below.undrew b2))
        | (go_at_call 69; (with_reducible refine (HDV.out _ _ _ _ t2 x2).mono ?_); rintro _ w3 ⟨A3, n3, c3, A4, n4, c4, rfl, t3, t4, b3⟩; have x3 : Below V.heap.size V w3 := bb x2 b3)
        | fail)
    clear k0 k1 k2
    obtain ⟨k0, k1, k2⟩ := HS.out _ x3
    go_wp2_with fail
    go_region_held3 (fun w' => w'.cell? ⟨w.heap.size, 0, none⟩ = some (.bool s) ∧ w'.cell? ⟨w.heap.size, 1, none⟩ = some (.slice A n c) ∧ w'.cell? ⟨w.heap.size, 2, none⟩ = some (.slice A' n' c')) (first | exact HS.out _ x3.drew | exact HS.out _ x5 | fail)
      (first
        | (go_at_call 57; (with_reducible refine (HBT.out _ _ _ _ ?hz3).mono ?_); (case hz3 => exact t4); rintro _ _ ⟨rfl, rfl⟩)
        | (go_at_call 34; (with_reducible refine (HOF.out _ _ _ _ ?hz4).mono ?_); (case hz4 => exact t3); rintro _ w5 ⟨rfl, b5⟩; have x5 : Below V.heap.size V w5 := bb x3 (Below.undrew b5))
        | fail)
    go_wp2_with fail
    go_ret
    exact ⟨rfl, bb hb0 x5⟩

set_option maxRecDepth 100000 in
set_option maxHeartbeats 8000000 in
theorem rf_from {w : World} {s : Bool} {A A' : Option Addr} {n n' c c' : Nat} {X : Rat} (h : Q w s A n c A' n' c' X) (hX : Sz X 20) :
    Calls Try.prog 41 #[.agg #[.bool s, .slice A n c, .slice A' n' c']] w (RetW (fromQ X) w) := by
  obtain ⟨V, hW, Ba, hb0⟩ := box0 39 w #[.bool s, .slice A n c, .slice A' n' c']
  have l1 : n ≤ 20 := h.2.1.small hX.1
  have l2 : n' ≤ 20 := h.2.2.small hX.2
  have h1 := h.2.1.below hb0
  have h2 := h.2.2.below hb0
  have hs := h.1
  have ZR := fun w1 (hb : Below V.heap.size V w1) => ref_zero (h.below (bb hb0 hb))
  have N1 := fun (w1 : World) (x : Sl w1 A n c (words X.num.natAbs)) => ref_bits x (by omega)
  have N2 := fun (w1 : World) (x : Sl w1 A' n' c' (words X.den)) => ref_bits x (by omega)
  simp only [val_words] at N1 N2
  have hS : ∀ w', Below V.heap.size V w' → w'.cell? ⟨w.heap.size, 0, none⟩ = some (.bool s) ∧ w'.cell? ⟨w.heap.size, 1, none⟩ = some (.slice A n c) ∧ w'.cell? ⟨w.heap.size, 2, none⟩ = some (.slice A' n' c') := fun w' hb => (Ba.below' hb).three.1
  have hq0 : 0 < X.den := Nat.pos_of_ne_zero (den_ne X)
  have hb2 := blen_pos hq0
  have hbx : blen X.num.natAbs ≤ 1280 := blen_pow_W hX.1
  have hby : blen X.den ≤ 1280 := blen_pow_W hX.2
  rcases Nat.eq_zero_or_pos X.num.natAbs with hz | hp0
  · rw [fromQ_zero hz]
    rw [decide_eq_true ((rat_zero_iff X).2 hz)] at ZR
    have HZ := Lib.hid ZR
    have HS := Lib.hid hS
    have HW := Lib.hid hW
    clear N1 N2 hS Ba hW h hX hs ZR hz
    go_enter Try.func41, Try.ntmps41
    go_wp2_with fail
    rw [HW.out]
    with_reducible refine (HZ.out _ (Below.refl _ _)).mono ?_
    rintro _ w1 ⟨rfl, b1⟩
    go_wp2_with fail
    go_ret
    exact ⟨rfl, bb hb0 b1⟩
  · have hb1 := blen_pos hp0
    rw [decide_eq_false (fun e => by have := (rat_zero_iff X).1 e; omega)] at ZR
    by_cases cb : 1100 < (blen X.num.natAbs : Int) - blen X.den
    · have hF : fromQ X = sg s INF := by unfold fromQ; rw [quot_big hq0 hp0 (by omega) 0 (by omega), hs]
      rw [hF]
      generalize blen X.num.natAbs = a at *
      generalize blen X.den = d at *
      have HZ := Lib.hid ZR
      have HN1 := Lib.hid N1
      have HN2 := Lib.hid N2
      have HS := Lib.hid hS
      have HW := Lib.hid hW
      clear N1 N2 hS Ba hW h hX hs ZR hF
      have z3 : decide (1100 < (a : Int) - d) = true := decide_eq_true cb
      go_enter Try.func41, Try.ntmps41
      go_wp2_with fail
      rw [HW.out]
      clear HW
      with_reducible refine (HZ.out _ (Below.refl _ _)).mono ?_
      rintro _ w1 ⟨rfl, b1⟩
      obtain ⟨k0, k1, k2⟩ := HS.out _ b1
      go_wp2_with fail
      go_region_held3 (fun w' => w'.cell? ⟨w.heap.size, 0, none⟩ = some (.bool s) ∧ w'.cell? ⟨w.heap.size, 1, none⟩ = some (.slice A n c) ∧ w'.cell? ⟨w.heap.size, 2, none⟩ = some (.slice A' n' c')) (exact HS.out _ b1.drew)
        (first
          | (go_at_call 71; (with_reducible refine (HN1.out _ ?hz1).mono ?_); (case hz1 => (have hh := h1.below b1; exact hh)); rintro _ _ ⟨rfl, rfl⟩)
          | (go_at_call 71; (with_reducible refine (HN2.out _ ?hz2).mono ?_); (case hz2 => (have hh := h2.below b1; exact hh)); rintro _ _ ⟨rfl, rfl⟩)
          | fail)
      have x1 : Below V.heap.size V w1.drew := b1.drew
      clear k0 k1 k2
      generalize w1.drew = V1 at x1 ⊢
      obtain ⟨k0, k1, k2⟩ := HS.out _ x1
      go_wp2_with fail
      refine (rf_inf s _).mono ?_
      rintro _ _ ⟨rfl, rfl⟩
      go_wp2_with fail
      go_ret
      exact ⟨rfl, bb hb0 x1⟩
    · by_cases cs : (blen X.num.natAbs : Int) - blen X.den < -1200
      · have hF : fromQ X = sg s 0 := by unfold fromQ; rw [magR_small hq0 (by omega), hs]
        rw [hF]
        generalize blen X.num.natAbs = a at *
        generalize blen X.den = d at *
        have HZ := Lib.hid ZR
        have HN1 := Lib.hid N1
        have HN2 := Lib.hid N2
        have HS := Lib.hid hS
        have HW := Lib.hid hW
        clear N1 N2 hS Ba hW h hX hs ZR hF
        go_enter Try.func41, Try.ntmps41
        go_wp2_with fail
        rw [HW.out]
        clear HW
        with_reducible refine (HZ.out _ (Below.refl _ _)).mono ?_
        rintro _ w1 ⟨rfl, b1⟩
        obtain ⟨k0, k1, k2⟩ := HS.out _ b1
        go_wp2_with fail
        go_region_held3 (fun w' => w'.cell? ⟨w.heap.size, 0, none⟩ = some (.bool s) ∧ w'.cell? ⟨w.heap.size, 1, none⟩ = some (.slice A n c) ∧ w'.cell? ⟨w.heap.size, 2, none⟩ = some (.slice A' n' c')) (exact HS.out _ b1.drew)
          (first
            | (go_at_call 71; (with_reducible refine (HN1.out _ ?hz1).mono ?_); (case hz1 => (have hh := h1.below b1; exact hh)); rintro _ _ ⟨rfl, rfl⟩)
            | (go_at_call 71; (with_reducible refine (HN2.out _ ?hz2).mono ?_); (case hz2 => (have hh := h2.below b1; exact hh)); rintro _ _ ⟨rfl, rfl⟩)
            | fail)
        have x1 : Below V.heap.size V w1.drew := b1.drew
        clear k0 k1 k2
        generalize w1.drew = V1 at x1 ⊢
        obtain ⟨k0, k1, k2⟩ := HS.out _ x1
        go_wp2_with fail
        refine (rf_signed s (b := 0) (by omega) _).mono ?_
        rintro _ _ ⟨rfl, rfl⟩
        go_wp2_with fail
        go_ret
        exact ⟨rfl, bb hb0 x1⟩
      · obtain ⟨sh, hsh⟩ : ∃ sh : Nat, (sh : Int) = max 0 (64 - ((blen X.num.natAbs : Int) - blen X.den)) := ⟨(max 0 (64 - ((blen X.num.natAbs : Int) - blen X.den))).toNat, by omega⟩
        have hsh2 : 64 + blen X.den ≤ blen X.num.natAbs + sh := by omega
        have hP : X.num.natAbs * 2 ^ sh < W ^ (20 + 21) := mul_lt_pow hX.1 (by omega)
        have SH := fun w1 (hb : Below V.heap.size V w1) => ref_shl (h1.below hb) (by omega) (sh : Int)
        rw [val_words, clampS_nat (by omega)] at SH
        have DV := fun (w1 : World) (A2 : Option Addr) (n2 c2 : Nat) (t : Sl w1 A2 n2 c2 (words (X.num.natAbs * 2 ^ sh))) (hb : Below V.heap.size V w1) => ref_div t (h2.below hb) (by have := t.small hP; omega) (by omega) (by rw [val_words]; exact hq0)
        rw [val_words, val_words] at DV
        have hQ1 : X.num.natAbs * 2 ^ sh / X.den < W ^ (20 + 21) := Nat.lt_of_le_of_lt (Nat.div_le_self _ _) hP
        have hR1 : X.num.natAbs * 2 ^ sh % X.den < W ^ 20 := Nat.lt_trans (Nat.mod_lt _ hq0) hX.2
        have OF := fun (w1 : World) (A3 : Option Addr) (n3 c3 : Nat) (t : Sl w1 A3 n3 c3 (words (X.num.natAbs * 2 ^ sh / X.den))) (more : Bool) => rf_more s t (by have := t.small hQ1; omega) (e := -(sh : Int)) (by omega) (by omega) more
        rw [val_words] at OF
        obtain ⟨more, hOF, hmore⟩ : ∃ (more : Bool), (∀ (w1 : World) (A3 : Option Addr) (n3 c3 : Nat) (t : Sl w1 A3 n3 c3 (words (X.num.natAbs * 2 ^ sh / X.den))), Calls Try.prog 32 #[.bool s, .slice A3 n3 c3, .int .i64 (-(sh : Int)), .bool more] w1 (RetW (fromQ X) w1)) ∧ (∀ (w1 : World) (A4 : Option Addr) (n4 c4 : Nat) (t : Sl w1 A4 n4 c4 (words (X.num.natAbs * 2 ^ sh % X.den))), decide (0 < n4) = more) := by
          by_cases hr : X.num.natAbs * 2 ^ sh % X.den = 0
          · refine ⟨false, fun w1 A3 n3 c3 t => ?_, fun w1 A4 n4 c4 t => ?_⟩
            · have := OF w1 A3 n3 c3 t false
              rw [hs, fromQ_exact hr, ← hs] at this
              exact this
            · rw [hr] at t; have := sl_zero t; exact decide_eq_false (by omega)
          · refine ⟨true, fun w1 A3 n3 c3 t => ?_, fun w1 A4 n4 c4 t => ?_⟩
            · have := OF w1 A3 n3 c3 t true
              rw [hs, fromQ_sticky hp0 hsh2 hr, ← hs] at this
              exact this
            · exact decide_eq_true (sl_pos t (Nat.pos_of_ne_zero hr))
        generalize X.num.natAbs * 2 ^ sh / X.den = q1 at *
        generalize X.num.natAbs * 2 ^ sh % X.den = r1 at *
        generalize X.num.natAbs * 2 ^ sh = P1 at *
        generalize fromQ X = F at *
        generalize blen X.num.natAbs = a at *
        generalize blen X.den = d at *
        have z3 : decide ((a : Int) - d < -1200) = false := decide_eq_false (by omega)
        have z4 : decide (1100 < (a : Int) - d) = false := decide_eq_false (by omega)
        have HZ := Lib.hid ZR
        have HN1 := Lib.hid N1
        have HN2 := Lib.hid N2
        have HS := Lib.hid hS
        have HW := Lib.hid hW
        have HSH := Lib.hid SH
        have HDV := Lib.hid DV
        have HOF := Lib.hid hOF
        have HM := Lib.hid hmore
        have Hsh := Lib.hid hsh
        have hsh3 : sh ≤ 1344 := by omega
        clear N1 N2 hS Ba hW h hX hs SH DV hOF OF hP hQ1 hR1 hmore hsh2 hsh hp0 ZR
        go_enter Try.func41, Try.ntmps41
        go_wp2_with fail
        rw [HW.out]
        clear HW
        with_reducible refine (HZ.out _ (Below.refl _ _)).mono ?_
        rintro _ w1 ⟨rfl, b1⟩
        obtain ⟨k0, k1, k2⟩ := HS.out _ b1
        go_wp2_with fail
        go_region_held3 (fun w' => w'.cell? ⟨w.heap.size, 0, none⟩ = some (.bool s) ∧ w'.cell? ⟨w.heap.size, 1, none⟩ = some (.slice A n c) ∧ w'.cell? ⟨w.heap.size, 2, none⟩ = some (.slice A' n' c')) (exact HS.out _ b1.drew)
          (first
            | (go_at_call 71; (with_reducible refine (HN1.out _ ?hz1).mono ?_); (case hz1 => (have hh := h1.below b1; exact hh)); rintro _ _ ⟨rfl, rfl⟩)
            | (go_at_call 71; (with_reducible refine (HN2.out _ ?hz2).mono ?_); (case hz2 => (have hh := h2.below b1; exact hh)); rintro _ _ ⟨rfl, rfl⟩)
            | fail)
        have x1 : Below V.heap.size V w1.drew := b1.drew
        clear k0 k1 k2
        generalize w1.drew = V1 at x1 ⊢
        go_upto_region 8 with (fail)
        go_cut [4] (fun s4 wx => s4 = .int .i64 sh ∧ V1 = wx)
        case first =>
          by_cases g1 : 0 < 64 - ((a : Int) - d)
          · go_wp2_with fail
            all_goals go_meet
            all_goals exact ⟨vint (by have := Hsh.out; omega), rfl⟩
          · go_wp2_with fail
            all_goals go_meet
            all_goals exact ⟨vint (by have := Hsh.out; omega), rfl⟩
        case rest =>
        obtain ⟨rfl, rfl⟩ := hcut
        clear z3 z4
        obtain ⟨k0, k1, k2⟩ := HS.out _ x1
        go_wp2_with fail
        go_region_held3 (fun w' => w'.cell? ⟨w.heap.size, 0, none⟩ = some (.bool s) ∧ w'.cell? ⟨w.heap.size, 1, none⟩ = some (.slice A n c) ∧ w'.cell? ⟨w.heap.size, 2, none⟩ = some (.slice A' n' c')) (first | exact HS.out _ x1.drew | exact HS.out _ x3 | exact HS.out _ x2 | fail)
          (first
            | (go_at_call 53; (with_reducible refine (HSH.out _ ?hb1).mono ?_); (case hb1 => exact x1.drew); rintro _ w2 ⟨A2, n2, c2, rfl, t2, b2⟩; have x2 : Below V.heap.size V w2 := bb x1 (Below.undrew b2))
            | (go_at_call 72; (with_reducible refine (HDV.out _ _ _ _ t2 x2).mono ?_); rintro _ w3 ⟨A3, n3, c3, A4, n4, c4, rfl, t3, t4, b3⟩; have x3 : Below V.heap.size V w3 := bb x2 b3)
            | fail)
        clear k0 k1 k2
        obtain ⟨k0, k1, k2⟩ := HS.out _ x3
        have hmo := HM.out _ _ _ _ t4
        go_wp2_with fail
        with_reducible refine (HOF.out _ _ _ _ t3).mono ?_
        rintro _ w5 ⟨rfl, b5⟩
        go_wp2_with fail
        go_ret
        exact ⟨rfl, bb hb0 (bb x3 b5)⟩

set_option maxRecDepth 100000 in
set_option maxHeartbeats 4000000 in
theorem rf_int (z : Int) (h1 : -9223372036854775808 ≤ z) (h2 : z ≤ 9223372036854775807) (w : World) :
    Calls Try.prog 36 #[.int .i64 z] w (RetW (sg (decide (z < 0)) (magR z.natAbs 1 0)) w) := by
  have OF := fun w1 => ref_of z h1 h2 w1
  have hsz := sz_of z h1 h2
  have RO := fun (w1 : World) (s : Bool) (A A' : Option Addr) (n n' c c' : Nat) (q : Q w1 s A n c A' n' c' (z : Rat)) => rf_of s q.2.1 (by have := q.2.1.small hsz.1; omega) (e := 0) (by omega) (by omega)
  rw [val_words, Rat.num_intCast] at RO
  have hng : neg_ (z : Rat) = decide (z < 0) := by unfold neg_; rw [Rat.num_intCast]
  generalize (z : Rat) = X at *
  have HOF := Lib.hid OF
  have HRO := Lib.hid RO
  clear OF RO hsz
  go_enter Try.func36, Try.ntmps36
  go_wp2_with fail
  refine (HOF.out _).mono ?_
  rintro _ w1 ⟨s1, A1, n1, c1, A2, n2, c2, rfl, q1, b1⟩
  obtain ⟨w2, hV2, B2, b2⟩ := box0 39 w1 #[.bool s1, .slice A1 n1 c1, .slice A2 n2 c2]
  obtain ⟨⟨k0, k1, k2⟩, _, _, _⟩ := B2.three
  have HV2 := Lib.hid hV2
  have hs1 := q1.1
  rw [hng] at hs1
  have HS1 := Lib.hid hs1
  clear hV2 B2 hs1 hng
  go_wp2_with fail
  rw [HV2.out]
  with_reducible refine (HRO.out _ _ _ _ _ _ _ _ (q1.below b2)).mono ?_
  rintro _ w3 ⟨rfl, b3⟩
  go_wp2_with fail
  go_ret
  exact ⟨by rw [HS1.out]; rfl, bb b1 (bb b2 b3)⟩

end Go.Proofs.Yteedipcmhaiglaa

namespace Go.Proofs.Yteedipcmhaiglaa
set_option maxRecDepth 100000
open Go.RowKit
set_option linter.unusedVariables false
set_option linter.unusedSimpArgs false

set_option maxHeartbeats 1000000 in
theorem same10 (w : World) : Calls Try.prog 33 #[] w (RetBl true w) := by
  have W1 := fun w1 => fr_word false (m := 9007199254740993) (by omega) (e := 0) (by omega) (by omega) w1
  have W2 := fun w1 => fr_word false (m := 9007199254740995) (by omega) (e := 0) (by omega) (by omega) w1
  have I1 := fun w1 => fr_int (-1) (by omega) (by omega) w1
  rw [show sg false (magR 9007199254740993 1 0) = 4845873199050653696 by decide +kernel] at W1
  rw [show sg false (magR 9007199254740995 1 0) = 4845873199050653698 by decide +kernel] at W2
  rw [show sg (decide ((-1 : Int) < 0)) (magR (-1 : Int).natAbs 1 0) = 13830554455654793216 by decide +kernel] at I1
  have HW1 := Lib.hid W1
  have HW2 := Lib.hid W2
  have HI1 := Lib.hid I1
  clear W1 W2 I1
  go_enter Try.func33, Try.ntmps33
  go_wp2_with fail
  refine (HW1.out _).mono ?_
  rintro _ w1 ⟨rfl, b1⟩
  go_wp2_with fail
  refine (HW2.out _).mono ?_
  rintro _ w2 ⟨rfl, b2⟩
  go_wp2_with fail
  refine (HI1.out _).mono ?_
  rintro _ w3 ⟨rfl, b3⟩
  go_wp2_with fail
  go_ret
  exact ⟨rfl, bb b1 (bb b2 b3)⟩

set_option maxHeartbeats 2000000 in
theorem froundWords_walk (s : Bool) (m e : Int) (w0 : (Lit.int .u64 m).wf = true) (w1 : (Lit.int .i64 e).wf = true) (w : World) :
    Calls Try.prog 6 #[.bool s, .int .u64 m, .int .i64 e] w fun x w' => x = .returned (.bool true) ∧ Below w.heap.size w w' := by
  obtain ⟨m, rfl, hm⟩ := u64_wf w0
  obtain ⟨h1, h2⟩ := i64_wf' w1
  clear w0 w1
  have W1 := fun w1 => fr_word s hm h1 h2 w1
  have W2 := fun w1 => rf_more s (sl_lit w1 (m : Int) (by unfold U; omega)) (by omega) h1 h2 false
  rw [val_one, Int.toNat_natCast, magM_no] at W2
  generalize sg s (magR m 1 e) = k at *
  have HW1 := Lib.hid W1
  have HW2 := Lib.hid W2
  clear W1 W2
  go_enter Try.func6, Try.ntmps6
  go_wp2_with fail
  refine (HW1.out _).mono ?_
  rintro _ w1 ⟨rfl, b1⟩
  go_wp2_with fail
  refine (HW2.out _).mono ?_
  rintro _ w2 ⟨rfl, b2⟩
  have b2' := bb (below_alloc w1 _) b2
  go_wp2_with fail
  refine (same10 _).mono ?_
  rintro _ w3 ⟨rfl, b3⟩
  go_wp2_with fail
  go_ret
  exact ⟨rfl, bb b1 (bb b2' b3)⟩

theorem Box.four {t : TypeId} {w : World} {g : Nat} {v0 v1 v2 v3 : Value} (h : Box t w g #[v0, v1, v2, v3]) :
    w.cell? ⟨g, 0, none⟩ = some v0 ∧ w.cell? ⟨g, 1, none⟩ = some v1 ∧ w.cell? ⟨g, 2, none⟩ = some v2 ∧ w.cell? ⟨g, 3, none⟩ = some v3 := ⟨h.cell 0, h.cell 1, h.cell 2, h.cell 3⟩

set_option maxRecDepth 100000 in
set_option maxHeartbeats 8000000 in
theorem froundLists_walk (s m : Bool) (a : Option Addr) (len cap : Nat) (z : List Int) (x n : Int) (u0 : (Lit.int .i64 x).wf = true) (w1 : (Lit.int .i64 n).wf = true) (w : World) (w0 : IsRow .u64 w a len cap z) :
    Calls Try.prog 7 #[.agg #[.bool s, .bool m, .slice a len cap, .int .i64 x], .int .i64 n] w fun e w' => e = .returned (.bool true) ∧ Below w.heap.size w w' := by
  obtain ⟨h1, h2⟩ := i64_wf' u0
  obtain ⟨h3, h4⟩ := i64_wf' w1
  obtain ⟨sl, _⟩ := w0.sl
  obtain ⟨V, hV, Ba, hb0⟩ := box0 45 w #[.bool s, .bool m, .slice a len cap, .int .i64 x]
  have hS : ∀ w', Below V.heap.size V w' → w'.cell? ⟨w.heap.size, 0, none⟩ = some (.bool s) ∧ w'.cell? ⟨w.heap.size, 1, none⟩ = some (.bool m) ∧ w'.cell? ⟨w.heap.size, 2, none⟩ = some (.slice a len cap) ∧ w'.cell? ⟨w.heap.size, 3, none⟩ = some (.int .i64 x) := fun w' hb => (Ba.below' hb).four
  have HS := Lib.hid hS
  have HV := Lib.hid hV
  clear u0 w1 w0 hS Ba hV
  have H10 := Lib.hid (fun w1 => same10 w1)
  by_cases hl : 40 < len
  · have d : decide (40 < len) = true := decide_eq_true hl
    obtain ⟨k0, k1, k2, k3⟩ := HS.out _ (Below.refl _ V)
    go_enter Try.func7, Try.ntmps7
    go_wp2_with fail
    refine (H10.out _).mono ?_
    rintro _ w1 ⟨rfl, b1⟩
    rw [HV.out] at b1
    go_wp2_with fail
    go_ret
    exact ⟨rfl, bb hb0 b1⟩
  · have F1 := fun w1 (hb : Below V.heap.size V w1) => fr_of s (sl.below (bb hb0 hb)) (by omega) h1 h2 m
    have F2 := fun w1 (hb : Below V.heap.size V w1) => rf_more s (sl.below (bb hb0 hb)) (by omega) h1 h2 m
    have I1 := fun w1 => fr_int n h3 h4 w1
    have I2 := fun w1 => rf_int n h3 h4 w1
    generalize sg s (magM (val (z.take len)) x m) = k at *
    generalize sg (decide (n < 0)) (magR n.natAbs 1 0) = j at *
    have HF1 := Lib.hid F1
    have HF2 := Lib.hid F2
    have HI1 := Lib.hid I1
    have HI2 := Lib.hid I2
    clear F1 F2 I1 I2
    go_enter Try.func7, Try.ntmps7
    go_wp2_with fail
    rw [HV.out]
    obtain ⟨k0, k1, k2, k3⟩ := HS.out _ (Below.refl _ V)
    go_region_held3 (fun w' => w'.cell? ⟨w.heap.size, 0, none⟩ = some (.bool s) ∧ w'.cell? ⟨w.heap.size, 1, none⟩ = some (.bool m) ∧ w'.cell? ⟨w.heap.size, 2, none⟩ = some (.slice a len cap) ∧ w'.cell? ⟨w.heap.size, 3, none⟩ = some (.int .i64 x)) (first | exact HS.out _ (Below.refl _ V).drew | exact HS.out _ y5 | exact HS.out _ y4 | exact HS.out _ y3 | exact HS.out _ y2 | exact HS.out _ y1 | fail)
      (first
        | (go_at_call 34; (with_reducible refine (HF1.out _ ?hq1).mono ?_); (case hq1 => exact (Below.refl _ V).drew); rintro _ v1 ⟨rfl, c1⟩; have y1 : Below V.heap.size V v1 := Below.undrew c1)
        | (go_at_call 32; (with_reducible refine (HF2.out _ ?hq2).mono ?_); (case hq2 => exact y1); rintro _ v2 ⟨rfl, c2⟩; have y2 : Below V.heap.size V v2 := bb y1 c2)
        | (go_at_call 35; (with_reducible refine (HI1.out _).mono ?_); rintro _ v3 ⟨rfl, c3⟩; have y3 : Below V.heap.size V v3 := bb y2 c3)
        | (go_at_call 36; (with_reducible refine (HI2.out _).mono ?_); rintro _ v4 ⟨rfl, c4⟩; have y4 : Below V.heap.size V v4 := bb y3 c4)
        | (go_at_call 33; (with_reducible refine (H10.out _).mono ?_); rintro _ v5 ⟨rfl, c5⟩; have y5 : Below V.heap.size V v5 := bb y4 c5)
        | fail)
    go_wp2_with fail
    go_ret
    exact ⟨rfl, bb hb0 y5⟩

/-- what is made of a double's parts -/
theorem parts_make {b : Nat} (h : fld b < 2047) : magR (sig b) 1 (xpo b) = mant b ∧ ExR (sig b) 1 (xpo b) := by
  obtain ⟨h1, h2⟩ := xpo_range h
  obtain ⟨a, c⟩ := magR_at (m := sig b) (e := xpo b) (s := (xpo b + 1074).toNat) (by omega)
  rw [a, c, ← fv_mant]
  exact ⟨mag_fv (mant_lt h), ex_fv (mant_lt h)⟩

set_option maxRecDepth 100000 in
set_option maxHeartbeats 8000000 in
theorem fbitsBack_walk (b c : Int) (w0 : (Lit.int .u64 b).wf = true) (w1 : (Lit.int .u64 c).wf = true) (w : World) :
    Calls Try.prog 5 #[.int .u64 b, .int .u64 c] w fun e w' => e = .returned (.bool true) ∧ Below w.heap.size w w' := by
  obtain ⟨b, rfl, hb⟩ := u64_wf w0
  obtain ⟨c, rfl, hc⟩ := u64_wf w1
  clear w0 w1
  have HS := Lib.hid (fun w1 => same09 w1)
  have Fb := rf_finite hb w
  have Fc := rf_finite hc w
  have Nb := rf_neg hb w
  have Nc := rf_neg hc w
  by_cases fb : fld b < 2047
  · have P := Lib.hid (fb_partsY hb fb w)
    obtain ⟨m1, m2⟩ := parts_make fb
    obtain ⟨x1, x2⟩ := xpo_range fb
    have hsg := sig_lt b
    have M := fb_make (ng b) (m := sig b) (by omega) (e := xpo b) (by omega) (by omega) w
    unfold RetMk at M
    rw [mkW_yes m2, decide_eq_true m2, m1, sg_mant b hb] at M
    have HM := Lib.hid M
    unfold fin at Fb Fc
    rw [decide_eq_true fb] at Fb
    have HFb := Lib.hid Fb
    have HFc := Lib.hid Fc
    have HNb := Lib.hid Nb
    have HNc := Lib.hid Nc
    have TB := Lib.hid (fun w1 => rf_torat hb fb w1)
    have hdc := fun (fc : fld c < 2047) (nb : ng b = false) (nc : ng c = false) => dq_cmp fb fc nb nc
    have zb := dq_sz fb
    generalize sig b = g at *
    generalize xpo b = x at *
    clear M Fb Fc Nb Nc m1 m2
    by_cases nb : ng b = true
    · rw [nb] at HNb P HM
      by_cases fc : fld c < 2047
      · rw [decide_eq_true fc] at HFc
        go_enter Try.func5, Try.ntmps5
        go_wp2_with fail
        refine P.out.mono ?_
        rintro _ w' ⟨rfl, rfl⟩
        go_wp2_with fail
        refine HM.out.mono ?_
        rintro _ w' ⟨rfl, rfl⟩
        go_wp2_with fail
        refine HFb.out.mono ?_
        rintro _ w' ⟨rfl, rfl⟩
        go_wp2_with fail
        refine HFc.out.mono ?_
        rintro _ w' ⟨rfl, rfl⟩
        go_wp2_with fail
        refine HNb.out.mono ?_
        rintro _ w' ⟨rfl, rfl⟩
        go_wp2_with fail
        refine (HS.out _).mono ?_
        rintro _ w' ⟨rfl, rfl⟩
        go_wp2_with fail
        go_ret
        exact ⟨rfl, Below.refl _ _⟩
      · rw [decide_eq_false fc] at HFc
        go_enter Try.func5, Try.ntmps5
        go_wp2_with fail
        refine P.out.mono ?_
        rintro _ w' ⟨rfl, rfl⟩
        go_wp2_with fail
        refine HM.out.mono ?_
        rintro _ w' ⟨rfl, rfl⟩
        go_wp2_with fail
        refine HFb.out.mono ?_
        rintro _ w' ⟨rfl, rfl⟩
        go_wp2_with fail
        refine HFc.out.mono ?_
        rintro _ w' ⟨rfl, rfl⟩
        go_wp2_with fail
        refine (HS.out _).mono ?_
        rintro _ w' ⟨rfl, rfl⟩
        go_wp2_with fail
        go_ret
        exact ⟨rfl, Below.refl _ _⟩
    · have nb : ng b = false := by simpa using nb
      rw [nb] at HNb P HM
      by_cases fc : fld c < 2047
      · rw [decide_eq_true fc] at HFc
        by_cases nc : ng c = true
        · rw [nc] at HNc
          go_enter Try.func5, Try.ntmps5
          go_wp2_with fail
          refine P.out.mono ?_
          rintro _ w' ⟨rfl, rfl⟩
          go_wp2_with fail
          refine HM.out.mono ?_
          rintro _ w' ⟨rfl, rfl⟩
          go_wp2_with fail
          refine HFb.out.mono ?_
          rintro _ w' ⟨rfl, rfl⟩
          go_wp2_with fail
          refine HFc.out.mono ?_
          rintro _ w' ⟨rfl, rfl⟩
          go_wp2_with fail
          refine HNb.out.mono ?_
          rintro _ w' ⟨rfl, rfl⟩
          go_wp2_with fail
          refine HNc.out.mono ?_
          rintro _ w' ⟨rfl, rfl⟩
          go_wp2_with fail
          refine (HS.out _).mono ?_
          rintro _ w' ⟨rfl, rfl⟩
          go_wp2_with fail
          go_ret
          exact ⟨rfl, Below.refl _ _⟩
        · have nc : ng c = false := by simpa using nc
          rw [nc] at HNc
          obtain ⟨d1, d2⟩ := hdc fc nb nc
          have TC := Lib.hid (fun w1 => rf_torat hc fc w1)
          have zc := dq_sz fc
          have CM := fun (w1 : World) (s1 s2 : Bool) (A1 B1 A2 B2 : Option Addr) (n1 c1 m1 e1 n2 c2 m2 e2 : Nat) (q1 : Q w1 s1 A1 n1 c1 B1 m1 e1 (dq b)) (q2 : Q w1 s2 A2 n2 c2 B2 m2 e2 (dq c)) => ref_cmpQ q1 q2 zb zc (by omega)
          generalize cmpQ (dq b) (dq c) = m at *
          generalize dq b = D1 at *
          generalize dq c = D2 at *
          have HCM := Lib.hid CM
          have E1 := Lib.hid d1
          have E2 := Lib.hid d2
          clear d1 d2 hdc CM zb zc
          go_enter Try.func5, Try.ntmps5
          go_wp2_with fail
          refine P.out.mono ?_
          rintro _ w' ⟨rfl, rfl⟩
          go_wp2_with fail
          refine HM.out.mono ?_
          rintro _ w' ⟨rfl, rfl⟩
          go_wp2_with fail
          refine HFb.out.mono ?_
          rintro _ w' ⟨rfl, rfl⟩
          go_wp2_with fail
          refine HFc.out.mono ?_
          rintro _ w' ⟨rfl, rfl⟩
          go_wp2_with fail
          refine HNb.out.mono ?_
          rintro _ w' ⟨rfl, rfl⟩
          go_wp2_with fail
          refine HNc.out.mono ?_
          rintro _ w' ⟨rfl, rfl⟩
          go_wp2_with fail
          refine (TB.out _).mono ?_
          rintro _ w1 ⟨s1, A1, n1, c1, D3, m1, k1, rfl, q1, b1⟩
          go_wp2_with fail
          refine (TC.out _).mono ?_
          rintro _ w2 ⟨s2, A2, n2, c2, D4, m2, k2, rfl, q2, b2⟩
          go_wp2_with fail
          refine (HCM.out _ _ _ _ _ _ _ _ _ _ _ _ _ _ _ (q1.below b2) q2).mono ?_
          rintro _ w3 ⟨rfl, b3⟩
          have e1 := E1.out
          have e2 := E2.out
          clear E1 E2
          rcases Nat.lt_trichotomy b c with hl | hl | hl
          · have g1 : m < 0 := e1.2 hl
            have f1 : decide (m < 0) = true := decide_eq_true g1
            have f2 : decide (b < c) = true := decide_eq_true hl
            have f4 : (m == 0) = false := by simp; omega
            have f5 : (b == c) = false := by simp; omega
            have f6 : ((b : Int) == (c : Int)) = false := by simp; omega
            clear e1 e2
            go_wp2_with fail
            refine (HS.out _).mono ?_
            rintro _ w' ⟨rfl, rfl⟩
            go_wp2_with fail
            go_ret
            exact ⟨rfl, bb b1 (bb b2 b3)⟩
          · have g1 : m = 0 := e2.2 hl
            subst g1
            subst hl
            clear e1 e2
            go_wp2_with fail
            refine (HS.out _).mono ?_
            rintro _ w' ⟨rfl, rfl⟩
            go_wp2_with fail
            go_ret
            exact ⟨rfl, bb b1 (bb b2 b3)⟩
          · have g0 : ¬ m < 0 := fun h => by have := e1.1 h; omega
            have g1 : ¬ m = 0 := fun h => by have := e2.1 h; omega
            have f1 : decide (m < 0) = false := decide_eq_false g0
            have f2 : decide (b < c) = false := decide_eq_false (by omega)
            have f4 : (m == 0) = false := by simp; omega
            have f5 : (b == c) = false := by simp; omega
            have f6 : ((b : Int) == (c : Int)) = false := by simp; omega
            clear e1 e2
            go_wp2_with fail
            refine (HS.out _).mono ?_
            rintro _ w' ⟨rfl, rfl⟩
            go_wp2_with fail
            go_ret
            exact ⟨rfl, bb b1 (bb b2 b3)⟩
      · rw [decide_eq_false fc] at HFc
        go_enter Try.func5, Try.ntmps5
        go_wp2_with fail
        refine P.out.mono ?_
        rintro _ w' ⟨rfl, rfl⟩
        go_wp2_with fail
        refine HM.out.mono ?_
        rintro _ w' ⟨rfl, rfl⟩
        go_wp2_with fail
        refine HFb.out.mono ?_
        rintro _ w' ⟨rfl, rfl⟩
        go_wp2_with fail
        refine HFc.out.mono ?_
        rintro _ w' ⟨rfl, rfl⟩
        go_wp2_with fail
        refine (HS.out _).mono ?_
        rintro _ w' ⟨rfl, rfl⟩
        go_wp2_with fail
        go_ret
        exact ⟨rfl, Below.refl _ _⟩
  · have P := Lib.hid (fb_partsN hb fb w)
    unfold fin at Fb
    rw [decide_eq_false fb] at Fb
    have HFb := Lib.hid Fb
    clear Fb Fc Nb Nc
    go_enter Try.func5, Try.ntmps5
    go_wp2_with fail
    refine P.out.mono ?_
    rintro _ w' ⟨rfl, rfl⟩
    go_wp2_with fail
    refine HFb.out.mono ?_
    rintro _ w' ⟨rfl, rfl⟩
    go_wp2_with fail
    refine (HS.out _).mono ?_
    rintro _ w' ⟨rfl, rfl⟩
    go_wp2_with fail
    go_ret
    exact ⟨rfl, Below.refl _ _⟩

end Go.Proofs.Yteedipcmhaiglaa
