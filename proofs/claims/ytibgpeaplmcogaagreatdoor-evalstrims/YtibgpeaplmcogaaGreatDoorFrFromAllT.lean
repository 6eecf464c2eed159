/-
  What evals.floatValue and the document's Double return. Conditions: the slices read as words; where the instruction is an exponential, the variable factorials holds the factorials of 0 to 13.
-/
import Derived.Test.YtibgpeaplmcogaaGreatDoorFbRunAllT
import Derived.Test.YtibgpeaplmcogaaGreatDoorFpMathAllT
import Derived.Test.YtibgpeaplmcogaaGreatDoorRatAddAllT
import Derived.Test.YtibgpeaplmcogaaGreatDoorRefShiftAllT
import Derived.Deep.RegionHeld3
import Derived.Test.YtibgpeaplmcogaaGreatDoorKnExpAllT
import Derived.Test.YtibgpeaplmcogaaGreatDoorFpMulAllT
import Derived.Test.YtibgpeaplmcogaaGreatDoorLnMpAllT
namespace Go.Proofs.YtibgpeaplmcogaaGreatDoor
set_option maxRecDepth 100000
open Go.RowKit
set_option linter.unusedVariables false
set_option linter.unusedSimpArgs false

theorem fromQ_zero {X : Rat} (h : X.num.natAbs = 0) : fromQ X = 0 := by
  unfold fromQ
  rw [neg_zero_ X h, h, magR_zero]; rfl
theorem fromQ_exact {X : Rat} {sh : Nat} (h : X.num.natAbs * 2 ^ sh % X.den = 0) : sg (neg_ X) (magM (X.num.natAbs * 2 ^ sh / X.den) (-(sh : Int)) false) = fromQ X := by
  unfold fromQ
  rw [magM_no, quot_exact (Nat.pos_of_ne_zero (den_ne X)) h]
theorem fromQ_sticky {X : Rat} {sh : Nat} (h0 : 0 < X.num.natAbs) (hs : 64 + blen X.den ≤ blen X.num.natAbs + sh) (h : X.num.natAbs * 2 ^ sh % X.den ≠ 0) : sg (neg_ X) (magM (X.num.natAbs * 2 ^ sh / X.den) (-(sh : Int)) true) = fromQ X := by
  unfold fromQ
  rw [magM_yes, quot_sticky (Nat.pos_of_ne_zero (den_ne X)) h0 hs h]

set_option maxRecDepth 100000 in
set_option maxHeartbeats 8000000 in
theorem fr_from {w : World} {s : Bool} {A A' : Option Addr} {n n' c c' : Nat} {X : Rat} (h : Q w s A n c A' n' c' X) (hX : Sz X 20) :
    Calls Tryz.prog 95 #[.agg #[.bool s, .slice A n c, .slice A' n' c']] w (RetW (fromQ X) w) := by
  obtain ⟨V, hW, Ba, hb0⟩ := box0 25 w #[.bool s, .slice A n c, .slice A' n' c']
  have l1 : n ≤ 20 := h.2.1.small hX.1
  have l2 : n' ≤ 20 := h.2.2.small hX.2
  have h1 := h.2.1.below hb0
  have h2 := h.2.2.below hb0
  have hs := h.1
  have N1 := fun (w1 : World) (x : Sl w1 A n c (words X.num.natAbs)) => nat_bits x (by omega)
  have N2 := fun (w1 : World) (x : Sl w1 A' n' c' (words X.den)) => nat_bits x (by omega)
  simp only [val_words] at N1 N2
  have hS : ∀ w', Below V.heap.size V w' → w'.cell? ⟨w.heap.size, 0, none⟩ = some (.bool s) ∧ w'.cell? ⟨w.heap.size, 1, none⟩ = some (.slice A n c) ∧ w'.cell? ⟨w.heap.size, 2, none⟩ = some (.slice A' n' c') := fun w' hb => (Ba.below' hb).three.1
  have hq0 : 0 < X.den := Nat.pos_of_ne_zero (den_ne X)
  have hb2 := blen_pos hq0
  have hbx : blen X.num.natAbs ≤ 1280 := blen_pow_W hX.1
  have hby : blen X.den ≤ 1280 := blen_pow_W hX.2
  rcases Nat.eq_zero_or_pos X.num.natAbs with hz | hp0
  · rw [fromQ_zero hz]
    have N1 := N1
    rw [hz, blen_zero] at N1
    rw [hz] at h1
    generalize blen X.den = d at *
    have HN1 := Lib.hid N1
    have HN2 := Lib.hid N2
    have HS := Lib.hid hS
    have HW := Lib.hid hW
    clear N1 N2 hS Ba hW h hX hs
    go_enter Tryz.func95, Tryz.ntmps95
    go_wp2_with fail
    rw [HW.out]
    obtain ⟨k0, k1, k2⟩ := HS.out _ (Below.refl _ V)
    go_region_held3 (fun w' => w'.cell? ⟨w.heap.size, 0, none⟩ = some (.bool s) ∧ w'.cell? ⟨w.heap.size, 1, none⟩ = some (.slice A n c) ∧ w'.cell? ⟨w.heap.size, 2, none⟩ = some (.slice A' n' c')) (exact HS.out _ (Below.refl _ V).drew)
      (first
        | (go_at_call 86; (with_reducible refine (HN1.out _ ?hz1).mono ?_); (case hz1 => exact h1); rintro _ _ ⟨rfl, rfl⟩)
        | (go_at_call 86; (with_reducible refine (HN2.out _ ?hz2).mono ?_); (case hz2 => exact h2); rintro _ _ ⟨rfl, rfl⟩)
        | fail)
    all_goals
      go_wp2_with fail
      go_ret
      exact ⟨rfl, hb0.drew⟩
  · have hb1 := blen_pos hp0
    obtain ⟨sh, hsh⟩ : ∃ sh : Nat, (sh : Int) = max (64 - ((blen X.num.natAbs : Int) - blen X.den)) 0 := ⟨(max (64 - ((blen X.num.natAbs : Int) - blen X.den)) 0).toNat, by omega⟩
    have hsh2 : 64 + blen X.den ≤ blen X.num.natAbs + sh := by omega
    have hP : X.num.natAbs * 2 ^ sh < W ^ (20 + 21) := mul_lt_pow hX.1 (by omega)
    have SH := fun w1 (hb : Below V.heap.size V w1) => nat_shl (h1.below hb) (by omega) (sh : Int)
    rw [val_words, clampS_nat (by omega)] at SH
    have DV := fun (w1 : World) (A2 : Option Addr) (n2 c2 : Nat) (t : Sl w1 A2 n2 c2 (words (X.num.natAbs * 2 ^ sh))) (hb : Below V.heap.size V w1) => quot_div t (h2.below hb) (by have := t.small hP; omega) (by omega) (by rw [val_words]; exact hq0)
    rw [val_words, val_words] at DV
    have hQ1 : X.num.natAbs * 2 ^ sh / X.den < W ^ (20 + 21) := Nat.lt_of_le_of_lt (Nat.div_le_self _ _) hP
    have hR1 : X.num.natAbs * 2 ^ sh % X.den < W ^ 20 := Nat.lt_trans (Nat.mod_lt _ hq0) hX.2
    have BT := fun (w1 : World) (A4 : Option Addr) (n4 c4 : Nat) (t : Sl w1 A4 n4 c4 (words (X.num.natAbs * 2 ^ sh % X.den))) => nat_bits t (by have := t.small hR1; omega)
    rw [val_words] at BT
    have OF := fun (w1 : World) (A3 : Option Addr) (n3 c3 : Nat) (t : Sl w1 A3 n3 c3 (words (X.num.natAbs * 2 ^ sh / X.den))) (more : Bool) => fr_of s t (by have := t.small hQ1; omega) (e := -(sh : Int)) (by omega) (by omega) more
    rw [val_words] at OF
    obtain ⟨more, B, hOF, hmore, hBT⟩ : ∃ (more : Bool) (B : Nat), (∀ (w1 : World) (A3 : Option Addr) (n3 c3 : Nat) (t : Sl w1 A3 n3 c3 (words (X.num.natAbs * 2 ^ sh / X.den))), Calls Tryz.prog 154 #[.bool s, .slice A3 n3 c3, .int .i64 (-(sh : Int)), .bool more] w1 (RetW (fromQ X) w1)) ∧ decide (0 < B) = more ∧ blen (X.num.natAbs * 2 ^ sh % X.den) = B := by
      by_cases hr : X.num.natAbs * 2 ^ sh % X.den = 0
      · refine ⟨false, 0, fun w1 A3 n3 c3 t => ?_, by decide, by rw [hr, blen_zero]⟩
        have := OF w1 A3 n3 c3 t false
        rw [hs, fromQ_exact hr, ← hs] at this
        exact this
      · refine ⟨true, _, fun w1 A3 n3 c3 t => ?_, decide_eq_true (blen_pos (Nat.pos_of_ne_zero hr)), rfl⟩
        have := OF w1 A3 n3 c3 t true
        rw [hs, fromQ_sticky hp0 hsh2 hr, ← hs] at this
        exact this
    rw [hBT] at BT
    generalize X.num.natAbs * 2 ^ sh / X.den = q1 at *
    generalize X.num.natAbs * 2 ^ sh % X.den = r1 at *
    generalize X.num.natAbs * 2 ^ sh = P1 at *
    generalize fromQ X = F at *
    generalize blen X.num.natAbs = a at *
    generalize blen X.den = d at *
    have z1 : ((a : Int) == 0) = false := by simp; omega
    have z2 : ((d : Int) == 0) = false := by simp; omega
    have z3 : decide ((a : Int) - d < -2000) = false := decide_eq_false (by omega)
    have z4 : decide (2000 < (a : Int) - d) = false := decide_eq_false (by omega)
    have HN1 := Lib.hid N1
    have HN2 := Lib.hid N2
    have HS := Lib.hid hS
    have HW := Lib.hid hW
    have HSH := Lib.hid SH
    have HDV := Lib.hid DV
    have HBT := Lib.hid BT
    have HOF := Lib.hid hOF
    have Hsh := Lib.hid hsh
    have hsh3 : sh ≤ 1344 := by omega
    have hwr : IntKind.i64.wrap (-(sh : Int)) = -(sh : Int) := IntWalk.i64_in _ (by omega)
    clear N1 N2 hS Ba hW h hX hs SH DV BT hOF OF hP hQ1 hR1 hBT hsh2 hsh hp0
    go_enter Tryz.func95, Tryz.ntmps95
    go_wp2_with fail
    rw [HW.out]
    clear HW
    obtain ⟨k0, k1, k2⟩ := HS.out _ (Below.refl _ V)
    go_region_held3 (fun w' => w'.cell? ⟨w.heap.size, 0, none⟩ = some (.bool s) ∧ w'.cell? ⟨w.heap.size, 1, none⟩ = some (.slice A n c) ∧ w'.cell? ⟨w.heap.size, 2, none⟩ = some (.slice A' n' c')) (exact HS.out _ (Below.refl _ V).drew)
      (first
        | (go_at_call 86; (with_reducible refine (HN1.out _ ?hz1).mono ?_); (case hz1 => exact h1); rintro _ _ ⟨rfl, rfl⟩)
        | (go_at_call 86; (with_reducible refine (HN2.out _ ?hz2).mono ?_); (case hz2 => exact h2); rintro _ _ ⟨rfl, rfl⟩)
        | fail)
    clear k0 k1 k2
    have x1 : Below V.heap.size V V.drew := (Below.refl _ V).drew
    generalize V.drew = V1 at x1 ⊢
    go_upto_region 7 with (fail)
    go_cut [6] (fun s6 wx => s6 = .int .i64 sh ∧ V1 = wx)
    case first =>
      by_cases g1 : 64 - ((a : Int) - d) < 0
      · go_wp2_with fail
        go_meet
        exact ⟨vint (by have := Hsh.out; omega), rfl⟩
      · go_wp2_with fail
        all_goals go_meet
        all_goals exact ⟨vint (by have := Hsh.out; omega), rfl⟩
    case rest =>
    obtain ⟨rfl, rfl⟩ := hcut
    clear z1 z2 z3 z4
    obtain ⟨k0, k1, k2⟩ := HS.out _ x1
    go_wp2_with fail
    go_region_held3 (fun w' => w'.cell? ⟨w.heap.size, 0, none⟩ = some (.bool s) ∧ w'.cell? ⟨w.heap.size, 1, none⟩ = some (.slice A n c) ∧ w'.cell? ⟨w.heap.size, 2, none⟩ = some (.slice A' n' c')) (first | exact HS.out _ x1.drew | exact HS.out _ x3 | exact HS.out _ x2 | fail)
      (first
        | (go_at_call 153; (with_reducible refine (HSH.out _ ?hb1).mono ?_); (case hb1 => exact x1.drew); rintro _ w2 ⟨A2, n2, c2, rfl, t2, b2⟩; have x2 : Below V.heap.size V w2 := bb x1 (Below.undrew b2))
        | (go_at_call 152; (with_reducible refine (HDV.out _ _ _ _ t2 x2).mono ?_); rintro _ w3 ⟨A3, n3, c3, A4, n4, c4, rfl, t3, t4, b3⟩; have x3 : Below V.heap.size V w3 := bb x2 b3)
        | fail)
    clear k0 k1 k2
    obtain ⟨k0, k1, k2⟩ := HS.out _ x3
    go_wp2_with fail
    go_region_held3 (fun w' => w'.cell? ⟨w.heap.size, 0, none⟩ = some (.bool s) ∧ w'.cell? ⟨w.heap.size, 1, none⟩ = some (.slice A n c) ∧ w'.cell? ⟨w.heap.size, 2, none⟩ = some (.slice A' n' c')) (first | exact HS.out _ x3.drew | exact HS.out _ x5 | fail)
      (first
        | (go_at_call 86; (with_reducible refine (HBT.out _ _ _ _ ?hz3).mono ?_); (case hz3 => exact t4); rintro _ _ ⟨rfl, rfl⟩)
        | (go_at_call 154; (with_reducible refine (HOF.out _ _ _ _ ?hz4).mono ?_); (case hz4 => exact t3); rintro _ w5 ⟨rfl, b5⟩; have x5 : Below V.heap.size V w5 := bb x3 (Below.undrew b5))
        | fail)
    go_wp2_with fail
    go_ret
    exact ⟨rfl, bb hb0 x5⟩

end Go.Proofs.YtibgpeaplmcogaaGreatDoor

namespace Go.Proofs.YtibgpeaplmcogaaGreatDoor
set_option maxRecDepth 100000
open Go.RowKit
set_option linter.unusedVariables false
set_option linter.unusedSimpArgs false

end Go.Proofs.YtibgpeaplmcogaaGreatDoor

namespace Go.Proofs.YtibgpeaplmcogaaGreatDoor
set_option maxRecDepth 100000
open Go.RowKit
set_option linter.unusedVariables false
set_option linter.unusedSimpArgs false

/-- the steps of a logarithm's sum, as names -/
theorem logY_names {f : Nat} (hf : f < 18446744073709551616) : ∃ t a s z u q y : Nat, t = fsub f ONE ∧ a = fadd TWO t ∧ s = fdiv t a ∧ z = fmul s s ∧ u = fadd s s ∧ q = fmul (logP z) z ∧ y = fmul u q ∧ logY f = fadd u y ∧
    t < 18446744073709551616 ∧ a < 18446744073709551616 ∧ s < 18446744073709551616 ∧ z < 18446744073709551616 ∧ u < 18446744073709551616 ∧ q < 18446744073709551616 ∧ y < 18446744073709551616 := by
  have ht := fsub_lt (a := f) (b := ONE) hf
  have ha := fadd_lt (a := TWO) (b := fsub f ONE) (by rw [TWO_lit]; omega) ht
  have hs := fdiv_lt (fsub f ONE) (fadd TWO (fsub f ONE))
  exact ⟨_, _, _, _, _, _, _, rfl, rfl, rfl, rfl, rfl, rfl, rfl, rfl, ht, ha, hs, fmul_lt _ _, fadd_lt hs hs, fmul_lt _ _, fmul_lt _ _⟩
theorem logY_lt {f : Nat} (hf : f < 18446744073709551616) : logY f < 18446744073709551616 := by
  obtain ⟨t, a, s, z, u, q, y, _, _, _, _, _, _, _, e, _, _, _, _, hu, _, hy⟩ := logY_names hf
  rw [e]; exact fadd_lt hu hy

set_option maxHeartbeats 2000000 in
theorem kn_logSeries {f : Nat} (hf : f < 18446744073709551616) (w : World) :
    Calls Tryz.prog 171 #[.int .u64 f] w (RetW (logY f) w) := by
  obtain ⟨t, a, s, z, u, q, y, et, ea, es, ez, eu, eq_, ey, eY, ht, ha, hs, hz, hu, hq, hy⟩ := logY_names hf
  rw [eY]
  clear eY
  have I1 : ∀ w1, Calls Tryz.prog 165 #[.int .i64 1] w1 (RetW ONE w1) := by
    intro w1
    rw [← int_1]
    exact fr_int 1 (by omega) (by omega) w1
  have I2 : ∀ w1, Calls Tryz.prog 165 #[.int .i64 2] w1 (RetW TWO w1) := by
    intro w1
    rw [← int_2]
    exact fr_int 2 (by omega) (by omega) w1
  have A1 := fun w1 => fs_sub hf (b := ONE) (by rw [ONE_lit]; omega) w1
  rw [← et] at A1
  have A2 := fun w1 => fs_add (a := TWO) (b := t) (by rw [TWO_lit]; omega) ht w1
  rw [← ea] at A2
  have A3 := fun w1 => fp_div ht ha w1
  rw [← es] at A3
  have A4 := fun w1 => fp_mul hs hs w1
  rw [← ez] at A4
  have A5 := fun w1 => kn_inv 21 (by omega) (by omega) w1
  rw [log_tab0, ← logS_0 z] at A5
  have A6 := fun w1 => fs_add hs hs w1
  rw [← eu] at A6
  have A7 := fun w1 => fp_mul (a := logP z) (by rw [← logS_end]; exact logS_lt z (by omega)) hz w1
  rw [← eq_, ← logS_end] at A7
  have A8 := fun w1 => fp_mul hu hq w1
  rw [← ey] at A8
  have A9 := fun w1 => fs_add hu hy w1
  clear et ea es ez eu eq_ ey
  generalize ONE = o at *
  generalize TWO = o2 at *
  generalize fadd u y = Y at *
  have HI1 := Lib.hid I1
  have HI2 := Lib.hid I2
  have H1 := Lib.hid A1
  have H2 := Lib.hid A2
  have H3 := Lib.hid A3
  have H4 := Lib.hid A4
  have H5 := Lib.hid A5
  have H6 := Lib.hid A6
  have H7 := Lib.hid A7
  have H8 := Lib.hid A8
  have H9 := Lib.hid A9
  clear I1 I2 A1 A2 A3 A4 A5 A6 A7 A8 A9
  go_enter Tryz.func171, Tryz.ntmps171
  go_wp2_with fail
  with_reducible refine (HI1.out _).mono ?_
  rintro _ w1 ⟨rfl, b1⟩
  go_wp2_with fail
  with_reducible refine (H1.out _).mono ?_
  rintro _ w2 ⟨rfl, b2⟩
  go_wp2_with fail
  with_reducible refine (HI2.out _).mono ?_
  rintro _ w3 ⟨rfl, b3⟩
  go_wp2_with fail
  with_reducible refine (H2.out _).mono ?_
  rintro _ w4 ⟨rfl, b4⟩
  go_wp2_with fail
  with_reducible refine (H3.out _).mono ?_
  rintro _ w5 ⟨rfl, b5⟩
  go_wp2_with fail
  with_reducible refine (H4.out _).mono ?_
  rintro _ w6 ⟨rfl, b6⟩
  go_wp2_with fail
  with_reducible refine (H5.out _).mono ?_
  rintro _ w7 ⟨rfl, b7⟩
  have y7 := bbw b1 (bbw b2 (bbw b3 (bbw b4 (bbw b5 (bbw b6 b7)))))
  clear b1 b2 b3 b4 b5 b6 b7
  go_wp2_with fail
  go_loopw [6, 21] (fun p iv wr => ∃ (i q : Nat), i ≤ 9 ∧ iv = .int .i64 i ∧ p = .int .u64 q ∧ Hid (q = logS z i) ∧ Below w.heap.size w wr) (fun _ iv _ => 9 - mes iv)
  case atStart => exact ⟨0, _, by omega, rfl, rfl, Lib.hid rfl, y7⟩
  case round =>
    clear y7
    obtain ⟨i, p, hi, rfl, rfl, HQ, hb⟩ := hrel
    by_cases h9 : i = 9
    · subst h9
      obtain rfl := HQ.out
      go_wp2_with fail
      with_reducible refine (H6.out _).mono ?_
      rintro _ w2 ⟨rfl, b2⟩
      go_wp2_with fail
      with_reducible refine (H7.out _).mono ?_
      rintro _ w3 ⟨rfl, b3⟩
      go_wp2_with fail
      with_reducible refine (H8.out _).mono ?_
      rintro _ w4 ⟨rfl, b4⟩
      go_wp2_with fail
      with_reducible refine (H9.out _).mono ?_
      rintro _ w5 ⟨rfl, b5⟩
      go_wp2_with fail
      go_ret
      exact ⟨rfl, bbw hb (bbw b2 (bbw b3 (bbw b4 b5)))⟩
    · have hi2 : i < 9 := by omega
      have ht3 := log_tab i hi2
      obtain ⟨v, hv⟩ : ∃ v : Int, 2 * (9 - (i : Int)) + 1 = v := ⟨_, rfl⟩
      rw [show 19 - 2 * (i : Int) = v by omega] at ht3
      have hp : p < 18446744073709551616 := by rw [HQ.out]; exact logS_lt z (by omega)
      have A2 := fun w1 => kn_next hp hz v (by omega) (by omega) w1
      rw [ht3, HQ.out, ← logS_next z hi2, ← HQ.out] at A2
      have HN := Lib.hid A2
      clear A2 ht3
      go_wp2_with fail
      with_reducible refine (HN.out _).mono ?_
      rintro _ w2 ⟨rfl, b2⟩
      go_wp2_with fail
      go_roundw
      case rel => exact ⟨i + 1, _, by omega, vint (by omega), rfl, Lib.hid rfl, bbw hb b2⟩
      case measure => simp [mes, intOf]; omega

theorem lf_lt {x : Nat} (hk : kd x = 1 ∨ kd x = 2) : lf x < 18446744073709551616 := by
  have := (lf0_word (sig_pos hk)).2.2.2
  unfold lf
  split <;> omega
set_option maxHeartbeats 4000000 in
theorem kn_log {x : Nat} (hx : x < 18446744073709551616) (w : World) :
    Calls Tryz.prog 103 #[.int .u64 x] w (RetW (flog x) w) := by
  have K := Lib.hid (fb_kind hx w)
  have N := Lib.hid (fb_neg hx w)
  have hkc := (kd_cases x).1
  by_cases h0 : kd x = 0
  · have e : flog x = sg true INF := by unfold flog; rw [if_pos h0]
    rw [e]
    rw [h0] at K
    have IN := Lib.hid (fb_inf true w)
    generalize sg true INF = v at *
    go_enter Tryz.func103, Tryz.ntmps103
    go_wp2_with fail
    refine K.out.mono ?_
    rintro _ w' ⟨rfl, rfl⟩
    go_wp2_with fail
    refine IN.out.mono ?_
    rintro _ w' ⟨rfl, rfl⟩
    go_wp2_with fail
    go_ret
    exact ⟨rfl, Below.refl _ _⟩
  have g0 : ((kd x : Int) == 0) = false := by simp; omega
  by_cases h4 : kd x = 4
  · have e : flog x = NAN := by unfold flog; rw [if_neg h0, if_pos (.inl h4)]
    rw [e]
    rw [h4] at K
    have NA := Lib.hid (fb_nan w)
    generalize NAN = v at *
    go_enter Tryz.func103, Tryz.ntmps103
    go_wp2_with fail
    refine K.out.mono ?_
    rintro _ w' ⟨rfl, rfl⟩
    go_wp2_with fail
    refine NA.out.mono ?_
    rintro _ w' ⟨rfl, rfl⟩
    go_wp2_with fail
    go_ret
    exact ⟨rfl, Below.refl _ _⟩
  have g4 : ((kd x : Int) == 4) = false := by simp; omega
  cases hn : ng x
  case true =>
    have e : flog x = NAN := by unfold flog; rw [if_neg h0, if_pos (.inr hn)]
    rw [e]
    rw [hn] at N
    have NA := Lib.hid (fb_nan w)
    generalize NAN = v at *
    generalize kd x = k at *
    go_enter Tryz.func103, Tryz.ntmps103
    go_wp2_with fail
    refine K.out.mono ?_
    rintro _ w' ⟨rfl, rfl⟩
    go_wp2_with fail
    refine N.out.mono ?_
    rintro _ w' ⟨rfl, rfl⟩
    go_wp2_with fail
    refine NA.out.mono ?_
    rintro _ w' ⟨rfl, rfl⟩
    go_wp2_with fail
    go_ret
    exact ⟨rfl, Below.refl _ _⟩
  case false =>
  rw [hn] at N
  by_cases h3 : kd x = 3
  · have e : flog x = x := by unfold flog; rw [if_neg h0, if_neg (by rw [hn]; simp; omega), if_pos h3]
    rw [e]
    rw [h3] at K
    go_enter Tryz.func103, Tryz.ntmps103
    go_wp2_with fail
    refine K.out.mono ?_
    rintro _ w' ⟨rfl, rfl⟩
    go_wp2_with fail
    refine N.out.mono ?_
    rintro _ w' ⟨rfl, rfl⟩
    go_wp2_with fail
    go_ret
    exact ⟨rfl, Below.refl _ _⟩
  have g3 : ((kd x : Int) == 3) = false := by simp; omega
  have hk : kd x = 1 ∨ kd x = 2 := by omega
  obtain ⟨_, c2, c3, _, _⟩ := lk_cases hx hk hn
  have hlk : -1074 ≤ lk x ∧ lk x ≤ 1024 := by unfold lk; split <;> omega
  have e : flog x = logZ (lf x) (lk x) := by unfold flog; rw [if_neg h0, if_neg (by rw [hn]; simp; omega), if_neg h3]
  have SP := kn_split hx hk hn w
  have LS := fun w1 => kn_logSeries (lf_lt hk) w1
  have hYl := logY_lt (lf_lt hk)
  have hZ : logZ (lf x) (lk x) = if lk x = 0 then logY (lf x) else fadd (fmul (fint (lk x)) LL) (fadd (logY (lf x)) (fmul (fint (lk x)) ll)) := rfl
  rw [e]
  clear e
  generalize logZ (lf x) (lk x) = Z at *
  generalize logY (lf x) = Y at *
  generalize lf x = f at *
  generalize kd x = kx at *
  generalize lk x = k at *
  have HSP := Lib.hid SP
  have HLS := Lib.hid LS
  clear SP LS hk hn h0 h3 h4
  by_cases hk0 : k = 0
  · subst hk0
    rw [if_pos rfl] at hZ
    subst hZ
    go_enter Tryz.func103, Tryz.ntmps103
    go_wp2_with fail
    refine K.out.mono ?_
    rintro _ w' ⟨rfl, rfl⟩
    go_wp2_with fail
    refine N.out.mono ?_
    rintro _ w' ⟨rfl, rfl⟩
    go_wp2_with fail
    with_reducible refine HSP.out.mono ?_
    rintro _ w1 ⟨rfl, b1⟩
    go_wp2_with fail
    with_reducible refine (HLS.out _).mono ?_
    rintro _ w2 ⟨rfl, b2⟩
    go_wp2_with fail
    go_ret
    exact ⟨rfl, bbw b1 b2⟩
  · rw [if_neg hk0] at hZ
    have T := fun w1 => kn_ln2 k (by omega) (by omega) w1
    have A1 := fun w1 => fs_add hYl (fmul_lt (fint k) ll) w1
    have A2 := fun w1 => fs_add (fmul_lt (fint k) LL) (fadd_lt hYl (fmul_lt (fint k) ll)) w1
    rw [← hZ] at A2
    clear hZ
    generalize fadd Y (fmul (fint k) ll) = D at *
    generalize fmul (fint k) LL = U at *
    generalize fmul (fint k) ll = V at *
    have HT := Lib.hid T
    have HA1 := Lib.hid A1
    have HA2 := Lib.hid A2
    clear T A1 A2
    go_enter Tryz.func103, Tryz.ntmps103
    go_wp2_with fail
    refine K.out.mono ?_
    rintro _ w' ⟨rfl, rfl⟩
    go_wp2_with fail
    refine N.out.mono ?_
    rintro _ w' ⟨rfl, rfl⟩
    go_wp2_with fail
    with_reducible refine HSP.out.mono ?_
    rintro _ w1 ⟨rfl, b1⟩
    go_wp2_with fail
    with_reducible refine (HLS.out _).mono ?_
    rintro _ w2 ⟨rfl, b2⟩
    have g5 : (k == 0) = false := by simp; omega
    go_wp2_with fail
    with_reducible refine (HT.out _).mono ?_
    rintro _ w3 ⟨rfl, b3⟩
    go_wp2_with fail
    with_reducible refine (HA1.out _).mono ?_
    rintro _ w4 ⟨rfl, b4⟩
    go_wp2_with fail
    with_reducible refine (HA2.out _).mono ?_
    rintro _ w5 ⟨rfl, b5⟩
    go_wp2_with fail
    go_ret
    exact ⟨rfl, bbw b1 (bbw b2 (bbw b3 (bbw b4 b5)))⟩

end Go.Proofs.YtibgpeaplmcogaaGreatDoor

namespace Go.Proofs.YtibgpeaplmcogaaGreatDoor
set_option maxRecDepth 100000
open Go.RowKit
set_option linter.unusedVariables false
set_option linter.unusedSimpArgs false

end Go.Proofs.YtibgpeaplmcogaaGreatDoor

namespace Go.Proofs.YtibgpeaplmcogaaGreatDoor
set_option maxRecDepth 100000
open Go.RowKit
set_option linter.unusedVariables false
set_option linter.unusedSimpArgs false

theorem fexp_lt {x : Nat} (hx : x < 18446744073709551616) : fexp x < 18446744073709551616 := by
  have hI := INF_lit
  unfold fexp
  split
  · unfold NAN; omega
  · split
    · omega
    · split
      · omega
      · exact fscale_lt (expP_lt _) _
theorem flog_lt {x : Nat} (hx : x < 18446744073709551616) : flog x < 18446744073709551616 := by
  have hkc := (kd_cases x).1
  unfold flog
  by_cases h0 : kd x = 0
  · rw [if_pos h0]; exact sg_lt (Nat.le_refl _)
  · rw [if_neg h0]
    by_cases h4 : kd x = 4 ∨ ng x = true
    · rw [if_pos h4]; unfold NAN; omega
    · rw [if_neg h4]
      by_cases h3 : kd x = 3
      · rw [if_pos h3]; exact hx
      · rw [if_neg h3]
        have hy := logY_lt (lf_lt (x := x) (by omega))
        unfold logZ
        split
        · exact hy
        · exact fadd_lt (fmul_lt _ _) (fadd_lt hy (fmul_lt _ _))
end Go.Proofs.YtibgpeaplmcogaaGreatDoor

namespace Go.Proofs.YtibgpeaplmcogaaGreatDoor
set_option maxRecDepth 100000
open Go.RowKit
set_option linter.unusedVariables false
set_option linter.unusedSimpArgs false

/-- naturals as words -/
def nts (v : List Nat) : List Int := v.map fun (n : Nat) => (n : Int)
theorem nts_at (v : List Nat) (j : Nat) : (nts v).getD j 0 = ((v.getD j 0 : Nat) : Int) := by
  unfold nts
  rw [List.getD_eq_getElem?_getD, List.getElem?_map, List.getD_eq_getElem?_getD]
  cases v[j]? <;> rfl
theorem nts_len (v : List Nat) : (nts v).length = v.length := by unfold nts; simp
/-- all are words -/
def AllW (v : List Nat) : Prop := ∀ x ∈ v, x < 18446744073709551616
theorem AllW.at_ {v : List Nat} (h : AllW v) (j : Nat) : v.getD j 0 < 18446744073709551616 := by
  rw [List.getD_eq_getElem?_getD]
  cases e : v[j]? with
  | none => show 0 < _; omega
  | some x => exact h x (List.mem_of_getElem? e)
theorem AllW.snoc {v : List Nat} {x : Nat} (h : AllW v) (hx : x < 18446744073709551616) : AllW (v ++ [x]) := by
  intro y hy
  rcases List.mem_append.1 hy with hy | hy
  · exact h y hy
  · rw [List.mem_singleton.1 hy]; exact hx
theorem AllW.us {v : List Nat} (h : AllW v) : ∀ x ∈ nts v, U x := by
  intro x hx
  unfold nts at hx
  obtain ⟨y, hy, rfl⟩ := List.mem_map.1 hx
  have := h y hy
  exact ⟨by omega, by omega⟩
/-- an instruction's double, by those of the ones ahead -/
def flv (ins : List Nat) (x : PI) (v : List Nat) : Nat :=
  if x.op = 1 then cln (ins.getD x.a.toNat 0)
  else if x.op = 2 then fromQ (qval x.q)
  else if x.op = 3 then flc (v.getD x.a.toNat 0)
  else if x.op = 4 then fadd (v.getD x.a.toNat 0) (v.getD x.b.toNat 0)
  else if x.op = 5 then fsub (v.getD x.a.toNat 0) (v.getD x.b.toNat 0)
  else if x.op = 6 then fmul (v.getD x.a.toNat 0) (v.getD x.b.toNat 0)
  else if x.op = 7 then fdiv (v.getD x.a.toNat 0) (v.getD x.b.toNat 0)
  else if x.op = 8 then fsqrt (v.getD x.a.toNat 0)
  else if x.op = 9 then fexp (v.getD x.a.toNat 0)
  else flog (v.getD x.a.toNat 0)
theorem flv_1 {ins v : List Nat} {a b : Int} {q : Bool × List Int × List Int} : flv ins ⟨1, a, b, q⟩ v = cln (ins.getD a.toNat 0) := by
  unfold flv
  simp only
  rw [if_pos trivial]
theorem flv_2 {ins v : List Nat} {a b : Int} {q : Bool × List Int × List Int} : flv ins ⟨2, a, b, q⟩ v = fromQ (qval q) := by
  unfold flv
  simp only
  rw [if_neg (by decide), if_pos trivial]
theorem flv_3 {ins v : List Nat} {a b : Int} {q : Bool × List Int × List Int} : flv ins ⟨3, a, b, q⟩ v = flc (v.getD a.toNat 0) := by
  unfold flv
  simp only
  rw [if_neg (by decide), if_neg (by decide), if_pos trivial]
theorem flv_4 {ins v : List Nat} {a b : Int} {q : Bool × List Int × List Int} : flv ins ⟨4, a, b, q⟩ v = fadd (v.getD a.toNat 0) (v.getD b.toNat 0) := by
  unfold flv
  simp only
  rw [if_neg (by decide), if_neg (by decide), if_neg (by decide), if_pos trivial]
theorem flv_5 {ins v : List Nat} {a b : Int} {q : Bool × List Int × List Int} : flv ins ⟨5, a, b, q⟩ v = fsub (v.getD a.toNat 0) (v.getD b.toNat 0) := by
  unfold flv
  simp only
  rw [if_neg (by decide), if_neg (by decide), if_neg (by decide), if_neg (by decide), if_pos trivial]
theorem flv_6 {ins v : List Nat} {a b : Int} {q : Bool × List Int × List Int} : flv ins ⟨6, a, b, q⟩ v = fmul (v.getD a.toNat 0) (v.getD b.toNat 0) := by
  unfold flv
  simp only
  rw [if_neg (by decide), if_neg (by decide), if_neg (by decide), if_neg (by decide), if_neg (by decide), if_pos trivial]
theorem flv_7 {ins v : List Nat} {a b : Int} {q : Bool × List Int × List Int} : flv ins ⟨7, a, b, q⟩ v = fdiv (v.getD a.toNat 0) (v.getD b.toNat 0) := by
  unfold flv
  simp only
  rw [if_neg (by decide), if_neg (by decide), if_neg (by decide), if_neg (by decide), if_neg (by decide), if_neg (by decide), if_pos trivial]
theorem flv_8 {ins v : List Nat} {a b : Int} {q : Bool × List Int × List Int} : flv ins ⟨8, a, b, q⟩ v = fsqrt (v.getD a.toNat 0) := by
  unfold flv
  simp only
  rw [if_neg (by decide), if_neg (by decide), if_neg (by decide), if_neg (by decide), if_neg (by decide), if_neg (by decide), if_neg (by decide), if_pos trivial]
theorem flv_9 {ins v : List Nat} {a b : Int} {q : Bool × List Int × List Int} : flv ins ⟨9, a, b, q⟩ v = fexp (v.getD a.toNat 0) := by
  unfold flv
  simp only
  rw [if_neg (by decide), if_neg (by decide), if_neg (by decide), if_neg (by decide), if_neg (by decide), if_neg (by decide), if_neg (by decide), if_neg (by decide), if_pos trivial]
theorem flv_10 {ins v : List Nat} {a b : Int} {q : Bool × List Int × List Int} : flv ins ⟨10, a, b, q⟩ v = flog (v.getD a.toNat 0) := by
  unfold flv
  simp only
  rw [if_neg (by decide), if_neg (by decide), if_neg (by decide), if_neg (by decide), if_neg (by decide), if_neg (by decide), if_neg (by decide), if_neg (by decide), if_neg (by decide)]
def flSt (ins : List Nat) (i : Nat) (x : PI) (v : List Nat) : Except Int Nat := if x.op = 1 ∧ ¬ x.a.toNat < ins.length then .error 11 else .ok (flv ins x v)
theorem fromQ_lt2 (X : Rat) : fromQ X < 18446744073709551616 := by
  unfold fromQ; exact sg_lt (by have := magR_le' X.num.natAbs X.den 0; rw [INF_lit]; exact this)
theorem magM_lt (r : Nat) (e : Int) (more : Bool) : magM r e more < 18446744073709551616 := by
  cases more
  · rw [magM_no]; have := magR_le' r 1 e; omega
  · rw [magM_yes]; have := magR_le' (2 * r + 1) 1 (e - 1); omega
theorem fsqrt_lt {b : Nat} (hb : b < 18446744073709551616) : fsqrt b < 18446744073709551616 := by
  unfold fsqrt
  split
  · exact hb
  · split
    · unfold NAN; omega
    · split
      · exact hb
      · unfold fsqM rtM
        exact magM_lt _ _ _
theorem flv_lt {ins v : List Nat} (hi : AllW ins) (hv : AllW v) (x : PI) : flv ins x v < 18446744073709551616 := by
  have ha := hv.at_ x.a.toNat
  have hb := hv.at_ x.b.toNat
  unfold flv
  split
  · exact cln_lt (hi.at_ _)
  · split
    · exact fromQ_lt2 _
    · split
      · exact flc_lt _
      · split
        · exact fadd_lt ha hb
        · split
          · exact fsub_lt ha
          · split
            · exact fmul_lt _ _
            · split
              · exact fdiv_lt _ _
              · split
                · exact fsqrt_lt ha
                · split
                  · exact fexp_lt ha
                  · exact flog_lt ha

set_option maxRecDepth 100000 in
set_option maxHeartbeats 4000000 in
theorem fl_in {w : World} {A B : Option Addr} {n c m d : Nat} {v ins : List Nat} {q : RQ} {i : Nat} {b : Int} (hv : Sl w A n c (nts v)) (hi : Sl w B m d (nts ins)) (zv : AllW v) (zi : AllW ins) (hlt : i < m) :
    Calls Tryz.prog 62 #[.agg #[.int .i64 1, .int .i64 (i : Int), .int .i64 b, .bool q.s, .slice q.A q.n q.c, .slice q.A' q.n' q.c'], .slice A n c, .slice B m d] w (RetW (cln (ins.getD i 0)) w) := by
  obtain ⟨V, hW, Ba, hb0⟩ := box0 27 w #[.int .i64 1, .int .i64 (i : Int), .int .i64 b, .bool q.s, .slice q.A q.n q.c, .slice q.A' q.n' q.c']
  obtain ⟨b1, o1, rfl, hlt1, hc1⟩ := hi.2 (show 0 < m by omega)
  have k1 := hc1 i (by omega)
  rw [nts_at] at k1
  clear hc1
  have hz := zi.at_ i
  generalize ins.getD i 0 = X at *
  have K := fb_clean hz V
  have HK := Lib.hid K
  have HW := Lib.hid hW
  clear K Ba hW hv hi zv zi
  go_enter Tryz.func62, Tryz.ntmps62
  go_wp2_with fail
  rw [HW.out]
  with_reducible refine HK.out.mono ?_
  rintro _ w1 ⟨rfl, rfl⟩
  go_wp2_with fail
  go_ret
  exact ⟨rfl, hb0⟩

set_option maxRecDepth 100000 in
set_option maxHeartbeats 4000000 in
theorem fl_const {w : World} {A B : Option Addr} {n c m d : Nat} {v ins : List Nat} {q : RQ} {a b : Int} (hv : Sl w A n c (nts v)) (hi : Sl w B m d (nts ins)) (zv : AllW v) (zi : AllW ins) {X : Rat} (hX : q.is w X) (zX : Sz X 20) :
    Calls Tryz.prog 62 #[.agg #[.int .i64 2, .int .i64 a, .int .i64 b, .bool q.s, .slice q.A q.n q.c, .slice q.A' q.n' q.c'], .slice A n c, .slice B m d] w (RetW (fromQ X) w) := by
  obtain ⟨V, hW, Ba, hb0⟩ := box0 27 w #[.int .i64 2, .int .i64 a, .int .i64 b, .bool q.s, .slice q.A q.n q.c, .slice q.A' q.n' q.c']
  have K := fr_from (Q.below hX hb0) zX
  have HK := Lib.hid K
  have HW := Lib.hid hW
  clear K Ba hW hv hi zv zi
  go_enter Tryz.func62, Tryz.ntmps62
  go_wp2_with fail
  rw [HW.out]
  with_reducible refine HK.out.mono ?_
  rintro _ w1 ⟨rfl, b1⟩
  go_wp2_with fail
  go_ret
  exact ⟨rfl, bb hb0 b1⟩

set_option maxRecDepth 100000 in
set_option maxHeartbeats 4000000 in
theorem fl_neg {w : World} {A B : Option Addr} {n c m d : Nat} {v ins : List Nat} {q : RQ} {i : Nat} {b : Int} (hv : Sl w A n c (nts v)) (hi : Sl w B m d (nts ins)) (zv : AllW v) (zi : AllW ins) (hlt : i < n) :
    Calls Tryz.prog 62 #[.agg #[.int .i64 3, .int .i64 (i : Int), .int .i64 b, .bool q.s, .slice q.A q.n q.c, .slice q.A' q.n' q.c'], .slice A n c, .slice B m d] w (RetW (flc (v.getD i 0)) w) := by
  obtain ⟨V, hW, Ba, hb0⟩ := box0 27 w #[.int .i64 3, .int .i64 (i : Int), .int .i64 b, .bool q.s, .slice q.A q.n q.c, .slice q.A' q.n' q.c']
  obtain ⟨b1, o1, rfl, hlt1, hc1⟩ := hv.2 (show 0 < n by omega)
  have k1 := hc1 i (by omega)
  rw [nts_at] at k1
  clear hc1
  have hz := zv.at_ i
  generalize v.getD i 0 = X at *
  have K := fb_flip hz V
  have HK := Lib.hid K
  have HW := Lib.hid hW
  clear K Ba hW hv hi zv zi
  go_enter Tryz.func62, Tryz.ntmps62
  go_wp2_with fail
  rw [HW.out]
  with_reducible refine HK.out.mono ?_
  rintro _ w1 ⟨rfl, rfl⟩
  go_wp2_with fail
  go_ret
  exact ⟨rfl, hb0⟩

set_option maxRecDepth 100000 in
set_option maxHeartbeats 4000000 in
theorem fl_sqrt {w : World} {A B : Option Addr} {n c m d : Nat} {v ins : List Nat} {q : RQ} {i : Nat} {b : Int} (hv : Sl w A n c (nts v)) (hi : Sl w B m d (nts ins)) (zv : AllW v) (zi : AllW ins) (hlt : i < n) :
    Calls Tryz.prog 62 #[.agg #[.int .i64 8, .int .i64 (i : Int), .int .i64 b, .bool q.s, .slice q.A q.n q.c, .slice q.A' q.n' q.c'], .slice A n c, .slice B m d] w (RetW (fsqrt (v.getD i 0)) w) := by
  obtain ⟨V, hW, Ba, hb0⟩ := box0 27 w #[.int .i64 8, .int .i64 (i : Int), .int .i64 b, .bool q.s, .slice q.A q.n q.c, .slice q.A' q.n' q.c']
  obtain ⟨b1, o1, rfl, hlt1, hc1⟩ := hv.2 (show 0 < n by omega)
  have k1 := hc1 i (by omega)
  rw [nts_at] at k1
  clear hc1
  have hz := zv.at_ i
  generalize v.getD i 0 = X at *
  have K := fp_sqrt hz V
  have HK := Lib.hid K
  have HW := Lib.hid hW
  clear K Ba hW hv hi zv zi
  go_enter Tryz.func62, Tryz.ntmps62
  go_wp2_with fail
  rw [HW.out]
  with_reducible refine HK.out.mono ?_
  rintro _ w1 ⟨rfl, b1⟩
  go_wp2_with fail
  go_ret
  exact ⟨rfl, bb hb0 b1⟩

set_option maxRecDepth 100000 in
set_option maxHeartbeats 4000000 in
theorem fl_exp {w : World} {A B : Option Addr} {n c m d : Nat} {v ins : List Nat} {q : RQ} {i : Nat} {b : Int} (hv : Sl w A n c (nts v)) (hi : Sl w B m d (nts ins)) (zv : AllW v) (zi : AllW ins) (hlt : i < n) (hF : Fac w) :
    Calls Tryz.prog 62 #[.agg #[.int .i64 9, .int .i64 (i : Int), .int .i64 b, .bool q.s, .slice q.A q.n q.c, .slice q.A' q.n' q.c'], .slice A n c, .slice B m d] w (RetW (fexp (v.getD i 0)) w) := by
  obtain ⟨V, hW, Ba, hb0⟩ := box0 27 w #[.int .i64 9, .int .i64 (i : Int), .int .i64 b, .bool q.s, .slice q.A q.n q.c, .slice q.A' q.n' q.c']
  obtain ⟨b1, o1, rfl, hlt1, hc1⟩ := hv.2 (show 0 < n by omega)
  have k1 := hc1 i (by omega)
  rw [nts_at] at k1
  clear hc1
  have hz := zv.at_ i
  generalize v.getD i 0 = X at *
  have K := kn_exp hz V (hF.below hb0)
  have HK := Lib.hid K
  have HW := Lib.hid hW
  clear K Ba hW hv hi zv zi
  go_enter Tryz.func62, Tryz.ntmps62
  go_wp2_with fail
  rw [HW.out]
  with_reducible refine HK.out.mono ?_
  rintro _ w1 ⟨rfl, b1⟩
  go_wp2_with fail
  go_ret
  exact ⟨rfl, bb hb0 b1⟩

set_option maxRecDepth 100000 in
set_option maxHeartbeats 4000000 in
theorem fl_log {w : World} {A B : Option Addr} {n c m d : Nat} {v ins : List Nat} {q : RQ} {i : Nat} {b : Int} (hv : Sl w A n c (nts v)) (hi : Sl w B m d (nts ins)) (zv : AllW v) (zi : AllW ins) (hlt : i < n) :
    Calls Tryz.prog 62 #[.agg #[.int .i64 10, .int .i64 (i : Int), .int .i64 b, .bool q.s, .slice q.A q.n q.c, .slice q.A' q.n' q.c'], .slice A n c, .slice B m d] w (RetW (flog (v.getD i 0)) w) := by
  obtain ⟨V, hW, Ba, hb0⟩ := box0 27 w #[.int .i64 10, .int .i64 (i : Int), .int .i64 b, .bool q.s, .slice q.A q.n q.c, .slice q.A' q.n' q.c']
  obtain ⟨b1, o1, rfl, hlt1, hc1⟩ := hv.2 (show 0 < n by omega)
  have k1 := hc1 i (by omega)
  rw [nts_at] at k1
  clear hc1
  have hz := zv.at_ i
  generalize v.getD i 0 = X at *
  have K := kn_log hz V
  have HK := Lib.hid K
  have HW := Lib.hid hW
  clear K Ba hW hv hi zv zi
  go_enter Tryz.func62, Tryz.ntmps62
  go_wp2_with fail
  rw [HW.out]
  with_reducible refine HK.out.mono ?_
  rintro _ w1 ⟨rfl, b1⟩
  go_wp2_with fail
  go_ret
  exact ⟨rfl, bb hb0 b1⟩

set_option maxRecDepth 100000 in
set_option maxHeartbeats 4000000 in
theorem fl_add {w : World} {A B : Option Addr} {n c m d : Nat} {v ins : List Nat} {q : RQ} {i j : Nat} (hv : Sl w A n c (nts v)) (hi : Sl w B m d (nts ins)) (zv : AllW v) (zi : AllW ins) (hi1 : i < n) (hj1 : j < n) :
    Calls Tryz.prog 62 #[.agg #[.int .i64 4, .int .i64 (i : Int), .int .i64 (j : Int), .bool q.s, .slice q.A q.n q.c, .slice q.A' q.n' q.c'], .slice A n c, .slice B m d] w (RetW (fadd (v.getD i 0) (v.getD j 0)) w) := by
  obtain ⟨V, hW, Ba, hb0⟩ := box0 27 w #[.int .i64 4, .int .i64 (i : Int), .int .i64 (j : Int), .bool q.s, .slice q.A q.n q.c, .slice q.A' q.n' q.c']
  obtain ⟨b1, o1, rfl, hlt1, hc1⟩ := hv.2 (show 0 < n by omega)
  have k1 := hc1 i (by omega)
  have k2 := hc1 j (by omega)
  rw [nts_at] at k1 k2
  clear hc1
  have hz := zv.at_ i
  have hy := zv.at_ j
  generalize v.getD i 0 = X at *
  generalize v.getD j 0 = Y at *
  have K := fun (w1 : World) => fs_add hz hy w1
  have hS : ∀ w', Below V.heap.size V w' → (w'.cell? ⟨w.heap.size, 1, none⟩ = some (.int .i64 (i : Int)) ∧ w'.cell? ⟨w.heap.size, 2, none⟩ = some (.int .i64 (j : Int))) ∧ w'.cell? ⟨b1, o1 + i, none⟩ = some (.int .u64 (X : Int)) ∧ w'.cell? ⟨b1, o1 + j, none⟩ = some (.int .u64 (Y : Int)) := fun w' hb =>
    ⟨⟨(Ba.below' hb).six.1.2.1, (Ba.below' hb).six.1.2.2.1⟩, ((bb hb0 hb).cell (p := ⟨b1, o1 + i, none⟩) hlt1).trans k1, ((bb hb0 hb).cell (p := ⟨b1, o1 + j, none⟩) hlt1).trans k2⟩
  have HK := Lib.hid K
  have HS := Lib.hid hS
  have HW := Lib.hid hW
  clear K hS Ba hW hv hi zv zi k1 k2
  go_enter Tryz.func62, Tryz.ntmps62
  go_wp2_with fail
  rw [HW.out]
  obtain ⟨⟨p1, p2⟩, p3, p4⟩ := HS.out _ (Below.refl _ V)
  go_region_held3 (fun w' => (w'.cell? ⟨w.heap.size, 1, none⟩ = some (.int .i64 (i : Int)) ∧ w'.cell? ⟨w.heap.size, 2, none⟩ = some (.int .i64 (j : Int))) ∧ w'.cell? ⟨b1, o1 + i, none⟩ = some (.int .u64 (X : Int)) ∧ w'.cell? ⟨b1, o1 + j, none⟩ = some (.int .u64 (Y : Int))) (first | exact HS.out _ (Below.refl _ V).drew | exact HS.out _ x2 | fail)
    (first
      | (go_at_call 97; (with_reducible refine (HK.out _).mono ?_); rintro _ w2 ⟨rfl, b2⟩; have x2 : Below V.heap.size V w2 := Below.undrew b2))
  all_goals
    go_wp2_with fail
    go_ret
    exact ⟨rfl, bb hb0 x2⟩

set_option maxRecDepth 100000 in
set_option maxHeartbeats 4000000 in
theorem fl_sub {w : World} {A B : Option Addr} {n c m d : Nat} {v ins : List Nat} {q : RQ} {i j : Nat} (hv : Sl w A n c (nts v)) (hi : Sl w B m d (nts ins)) (zv : AllW v) (zi : AllW ins) (hi1 : i < n) (hj1 : j < n) :
    Calls Tryz.prog 62 #[.agg #[.int .i64 5, .int .i64 (i : Int), .int .i64 (j : Int), .bool q.s, .slice q.A q.n q.c, .slice q.A' q.n' q.c'], .slice A n c, .slice B m d] w (RetW (fsub (v.getD i 0) (v.getD j 0)) w) := by
  obtain ⟨V, hW, Ba, hb0⟩ := box0 27 w #[.int .i64 5, .int .i64 (i : Int), .int .i64 (j : Int), .bool q.s, .slice q.A q.n q.c, .slice q.A' q.n' q.c']
  obtain ⟨b1, o1, rfl, hlt1, hc1⟩ := hv.2 (show 0 < n by omega)
  have k1 := hc1 i (by omega)
  have k2 := hc1 j (by omega)
  rw [nts_at] at k1 k2
  clear hc1
  have hz := zv.at_ i
  have hy := zv.at_ j
  generalize v.getD i 0 = X at *
  generalize v.getD j 0 = Y at *
  have K := fun (w1 : World) => fs_sub hz hy w1
  have hS : ∀ w', Below V.heap.size V w' → (w'.cell? ⟨w.heap.size, 1, none⟩ = some (.int .i64 (i : Int)) ∧ w'.cell? ⟨w.heap.size, 2, none⟩ = some (.int .i64 (j : Int))) ∧ w'.cell? ⟨b1, o1 + i, none⟩ = some (.int .u64 (X : Int)) ∧ w'.cell? ⟨b1, o1 + j, none⟩ = some (.int .u64 (Y : Int)) := fun w' hb =>
    ⟨⟨(Ba.below' hb).six.1.2.1, (Ba.below' hb).six.1.2.2.1⟩, ((bb hb0 hb).cell (p := ⟨b1, o1 + i, none⟩) hlt1).trans k1, ((bb hb0 hb).cell (p := ⟨b1, o1 + j, none⟩) hlt1).trans k2⟩
  have HK := Lib.hid K
  have HS := Lib.hid hS
  have HW := Lib.hid hW
  clear K hS Ba hW hv hi zv zi k1 k2
  go_enter Tryz.func62, Tryz.ntmps62
  go_wp2_with fail
  rw [HW.out]
  obtain ⟨⟨p1, p2⟩, p3, p4⟩ := HS.out _ (Below.refl _ V)
  go_region_held3 (fun w' => (w'.cell? ⟨w.heap.size, 1, none⟩ = some (.int .i64 (i : Int)) ∧ w'.cell? ⟨w.heap.size, 2, none⟩ = some (.int .i64 (j : Int))) ∧ w'.cell? ⟨b1, o1 + i, none⟩ = some (.int .u64 (X : Int)) ∧ w'.cell? ⟨b1, o1 + j, none⟩ = some (.int .u64 (Y : Int))) (first | exact HS.out _ (Below.refl _ V).drew | exact HS.out _ x2 | fail)
    (first
      | (go_at_call 98; (with_reducible refine (HK.out _).mono ?_); rintro _ w2 ⟨rfl, b2⟩; have x2 : Below V.heap.size V w2 := Below.undrew b2))
  all_goals
    go_wp2_with fail
    go_ret
    exact ⟨rfl, bb hb0 x2⟩

set_option maxRecDepth 100000 in
set_option maxHeartbeats 4000000 in
theorem fl_mul {w : World} {A B : Option Addr} {n c m d : Nat} {v ins : List Nat} {q : RQ} {i j : Nat} (hv : Sl w A n c (nts v)) (hi : Sl w B m d (nts ins)) (zv : AllW v) (zi : AllW ins) (hi1 : i < n) (hj1 : j < n) :
    Calls Tryz.prog 62 #[.agg #[.int .i64 6, .int .i64 (i : Int), .int .i64 (j : Int), .bool q.s, .slice q.A q.n q.c, .slice q.A' q.n' q.c'], .slice A n c, .slice B m d] w (RetW (fmul (v.getD i 0) (v.getD j 0)) w) := by
  obtain ⟨V, hW, Ba, hb0⟩ := box0 27 w #[.int .i64 6, .int .i64 (i : Int), .int .i64 (j : Int), .bool q.s, .slice q.A q.n q.c, .slice q.A' q.n' q.c']
  obtain ⟨b1, o1, rfl, hlt1, hc1⟩ := hv.2 (show 0 < n by omega)
  have k1 := hc1 i (by omega)
  have k2 := hc1 j (by omega)
  rw [nts_at] at k1 k2
  clear hc1
  have hz := zv.at_ i
  have hy := zv.at_ j
  generalize v.getD i 0 = X at *
  generalize v.getD j 0 = Y at *
  have K := fun (w1 : World) => fp_mul hz hy w1
  have hS : ∀ w', Below V.heap.size V w' → (w'.cell? ⟨w.heap.size, 1, none⟩ = some (.int .i64 (i : Int)) ∧ w'.cell? ⟨w.heap.size, 2, none⟩ = some (.int .i64 (j : Int))) ∧ w'.cell? ⟨b1, o1 + i, none⟩ = some (.int .u64 (X : Int)) ∧ w'.cell? ⟨b1, o1 + j, none⟩ = some (.int .u64 (Y : Int)) := fun w' hb =>
    ⟨⟨(Ba.below' hb).six.1.2.1, (Ba.below' hb).six.1.2.2.1⟩, ((bb hb0 hb).cell (p := ⟨b1, o1 + i, none⟩) hlt1).trans k1, ((bb hb0 hb).cell (p := ⟨b1, o1 + j, none⟩) hlt1).trans k2⟩
  have HK := Lib.hid K
  have HS := Lib.hid hS
  have HW := Lib.hid hW
  clear K hS Ba hW hv hi zv zi k1 k2
  go_enter Tryz.func62, Tryz.ntmps62
  go_wp2_with fail
  rw [HW.out]
  obtain ⟨⟨p1, p2⟩, p3, p4⟩ := HS.out _ (Below.refl _ V)
  go_region_held3 (fun w' => (w'.cell? ⟨w.heap.size, 1, none⟩ = some (.int .i64 (i : Int)) ∧ w'.cell? ⟨w.heap.size, 2, none⟩ = some (.int .i64 (j : Int))) ∧ w'.cell? ⟨b1, o1 + i, none⟩ = some (.int .u64 (X : Int)) ∧ w'.cell? ⟨b1, o1 + j, none⟩ = some (.int .u64 (Y : Int))) (first | exact HS.out _ (Below.refl _ V).drew | exact HS.out _ x2 | fail)
    (first
      | (go_at_call 99; (with_reducible refine (HK.out _).mono ?_); rintro _ w2 ⟨rfl, b2⟩; have x2 : Below V.heap.size V w2 := Below.undrew b2))
  all_goals
    go_wp2_with fail
    go_ret
    exact ⟨rfl, bb hb0 x2⟩

set_option maxRecDepth 100000 in
set_option maxHeartbeats 4000000 in
theorem fl_div {w : World} {A B : Option Addr} {n c m d : Nat} {v ins : List Nat} {q : RQ} {i j : Nat} (hv : Sl w A n c (nts v)) (hi : Sl w B m d (nts ins)) (zv : AllW v) (zi : AllW ins) (hi1 : i < n) (hj1 : j < n) :
    Calls Tryz.prog 62 #[.agg #[.int .i64 7, .int .i64 (i : Int), .int .i64 (j : Int), .bool q.s, .slice q.A q.n q.c, .slice q.A' q.n' q.c'], .slice A n c, .slice B m d] w (RetW (fdiv (v.getD i 0) (v.getD j 0)) w) := by
  obtain ⟨V, hW, Ba, hb0⟩ := box0 27 w #[.int .i64 7, .int .i64 (i : Int), .int .i64 (j : Int), .bool q.s, .slice q.A q.n q.c, .slice q.A' q.n' q.c']
  obtain ⟨b1, o1, rfl, hlt1, hc1⟩ := hv.2 (show 0 < n by omega)
  have k1 := hc1 i (by omega)
  have k2 := hc1 j (by omega)
  rw [nts_at] at k1 k2
  clear hc1
  have hz := zv.at_ i
  have hy := zv.at_ j
  generalize v.getD i 0 = X at *
  generalize v.getD j 0 = Y at *
  have K := fun (w1 : World) => fp_div hz hy w1
  have hS : ∀ w', Below V.heap.size V w' → (w'.cell? ⟨w.heap.size, 1, none⟩ = some (.int .i64 (i : Int)) ∧ w'.cell? ⟨w.heap.size, 2, none⟩ = some (.int .i64 (j : Int))) ∧ w'.cell? ⟨b1, o1 + i, none⟩ = some (.int .u64 (X : Int)) ∧ w'.cell? ⟨b1, o1 + j, none⟩ = some (.int .u64 (Y : Int)) := fun w' hb =>
    ⟨⟨(Ba.below' hb).six.1.2.1, (Ba.below' hb).six.1.2.2.1⟩, ((bb hb0 hb).cell (p := ⟨b1, o1 + i, none⟩) hlt1).trans k1, ((bb hb0 hb).cell (p := ⟨b1, o1 + j, none⟩) hlt1).trans k2⟩
  have HK := Lib.hid K
  have HS := Lib.hid hS
  have HW := Lib.hid hW
  clear K hS Ba hW hv hi zv zi k1 k2
  go_enter Tryz.func62, Tryz.ntmps62
  go_wp2_with fail
  rw [HW.out]
  obtain ⟨⟨p1, p2⟩, p3, p4⟩ := HS.out _ (Below.refl _ V)
  go_region_held3 (fun w' => (w'.cell? ⟨w.heap.size, 1, none⟩ = some (.int .i64 (i : Int)) ∧ w'.cell? ⟨w.heap.size, 2, none⟩ = some (.int .i64 (j : Int))) ∧ w'.cell? ⟨b1, o1 + i, none⟩ = some (.int .u64 (X : Int)) ∧ w'.cell? ⟨b1, o1 + j, none⟩ = some (.int .u64 (Y : Int))) (first | exact HS.out _ (Below.refl _ V).drew | exact HS.out _ x2 | fail)
    (first
      | (go_at_call 100; (with_reducible refine (HK.out _).mono ?_); rintro _ w2 ⟨rfl, b2⟩; have x2 : Below V.heap.size V w2 := Below.undrew b2))
  all_goals
    go_wp2_with fail
    go_ret
    exact ⟨rfl, bb hb0 x2⟩

theorem fl_value {w : World} {A B : Option Addr} {n c m d : Nat} {v ins : List Nat} {x : RI} (hx : x.ok w) (hv : Sl w A n c (nts v)) (hi : Sl w B m d (nts ins)) (zv : AllW v) (zi : AllW ins) (hF : Fac w) (h1 : x.q.n ≤ 20) (h2 : x.q.n' ≤ 20) (hfit : fits vq nq x.pi n) (hin : x.op = 1 → x.a.toNat < ins.length) :
    Calls Tryz.prog 62 #[.agg #[.int .i64 x.op, .int .i64 x.a, .int .i64 x.b, .bool x.q.s, .slice x.q.A x.q.n x.q.c, .slice x.q.A' x.q.n' x.q.c'], .slice A n c, .slice B m d] w (RetW (flv ins x.pi v) w) := by
  obtain ⟨op, a, b, q⟩ := x
  obtain ⟨_, _, _, hq⟩ := hx
  have hlv : n = v.length := by rw [← nts_len]; exact hv.len
  have hli : m = ins.length := by rw [← nts_len]; exact hi.len
  simp only at h1 h2 hq hin ⊢
  have hfit : fits vq nq ⟨op, a, b, (q.s, q.z, q.z')⟩ n := hfit
  show Calls _ _ _ w (RetW (flv ins ⟨op, a, b, (q.s, q.z, q.z')⟩ v) w)
  rcases op_cases op with (rfl | rfl | rfl | rfl | rfl | rfl | rfl | rfl | rfl | rfl) | hno
  · obtain ⟨g1, g2⟩ := fit_in hfit
    obtain ⟨i, rfl⟩ : ∃ i : Nat, a = (i : Int) := ⟨a.toNat, by omega⟩
    have := hin rfl
    rw [flv_1, show ((i : Int)).toNat = i by omega]
    exact fl_in hv hi zv zi (by omega)
  · obtain ⟨X, g1, g2, g3⟩ := right_Q hq.1 hq.2.1 h1 h2 (fit_const hfit)
    have e : qval (q.s, q.z, q.z') = X := g3.symm
    rw [flv_2, e]
    exact fl_const hv hi zv zi g1 g2
  · obtain ⟨g1, g2⟩ := fit_one (by decide) (by decide) (by decide) hfit
    obtain ⟨i, rfl⟩ : ∃ i : Nat, a = (i : Int) := ⟨a.toNat, by omega⟩
    rw [flv_3, show ((i : Int)).toNat = i by omega]
    exact fl_neg hv hi zv zi (by omega)
  · obtain ⟨g1, g2, g3, g4⟩ := fit_two (by decide) (by decide) (by decide) hfit
    obtain ⟨i, rfl⟩ : ∃ i : Nat, a = (i : Int) := ⟨a.toNat, by omega⟩
    obtain ⟨j, rfl⟩ : ∃ j : Nat, b = (j : Int) := ⟨b.toNat, by omega⟩
    rw [flv_4, show ((i : Int)).toNat = i by omega, show ((j : Int)).toNat = j by omega]
    exact fl_add hv hi zv zi (by omega) (by omega)
  · obtain ⟨g1, g2, g3, g4⟩ := fit_two (by decide) (by decide) (by decide) hfit
    obtain ⟨i, rfl⟩ : ∃ i : Nat, a = (i : Int) := ⟨a.toNat, by omega⟩
    obtain ⟨j, rfl⟩ : ∃ j : Nat, b = (j : Int) := ⟨b.toNat, by omega⟩
    rw [flv_5, show ((i : Int)).toNat = i by omega, show ((j : Int)).toNat = j by omega]
    exact fl_sub hv hi zv zi (by omega) (by omega)
  · obtain ⟨g1, g2, g3, g4⟩ := fit_two (by decide) (by decide) (by decide) hfit
    obtain ⟨i, rfl⟩ : ∃ i : Nat, a = (i : Int) := ⟨a.toNat, by omega⟩
    obtain ⟨j, rfl⟩ : ∃ j : Nat, b = (j : Int) := ⟨b.toNat, by omega⟩
    rw [flv_6, show ((i : Int)).toNat = i by omega, show ((j : Int)).toNat = j by omega]
    exact fl_mul hv hi zv zi (by omega) (by omega)
  · obtain ⟨g1, g2, g3, g4⟩ := fit_two (by decide) (by decide) (by decide) hfit
    obtain ⟨i, rfl⟩ : ∃ i : Nat, a = (i : Int) := ⟨a.toNat, by omega⟩
    obtain ⟨j, rfl⟩ : ∃ j : Nat, b = (j : Int) := ⟨b.toNat, by omega⟩
    rw [flv_7, show ((i : Int)).toNat = i by omega, show ((j : Int)).toNat = j by omega]
    exact fl_div hv hi zv zi (by omega) (by omega)
  · obtain ⟨g1, g2⟩ := fit_one (by decide) (by decide) (by decide) hfit
    obtain ⟨i, rfl⟩ : ∃ i : Nat, a = (i : Int) := ⟨a.toNat, by omega⟩
    rw [flv_8, show ((i : Int)).toNat = i by omega]
    exact fl_sqrt hv hi zv zi (by omega)
  · obtain ⟨g1, g2⟩ := fit_one (by decide) (by decide) (by decide) hfit
    obtain ⟨i, rfl⟩ : ∃ i : Nat, a = (i : Int) := ⟨a.toNat, by omega⟩
    rw [flv_9, show ((i : Int)).toNat = i by omega]
    exact fl_exp hv hi zv zi (by omega) hF
  · obtain ⟨g1, g2⟩ := fit_one (by decide) (by decide) (by decide) hfit
    obtain ⟨i, rfl⟩ : ∃ i : Nat, a = (i : Int) := ⟨a.toNat, by omega⟩
    rw [flv_10, show ((i : Int)).toNat = i by omega]
    exact fl_log hv hi zv zi (by omega)
  · exact (fit_no hno.2.1 hno.1 (arity_no hno) hfit).elim


end Go.Proofs.YtibgpeaplmcogaaGreatDoor
