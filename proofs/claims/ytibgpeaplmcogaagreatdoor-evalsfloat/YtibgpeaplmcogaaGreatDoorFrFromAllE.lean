/-
  What kernel.Log returns for any word. Conditions: the word is below 2^64.
-/
import Derived.Test.YtibgpeaplmcogaaGreatDoorFltMath2AllE
import Derived.Test.YtibgpeaplmcogaaGreatDoorFrOfAllE
import Derived.Test.YtibgpeaplmcogaaGreatDoorRatMulAllE
import Derived.Test.YtibgpeaplmcogaaGreatDoorRefDivAllE
import Derived.Deep.RegionHeld3
import Derived.Test.YtibgpeaplmcogaaGreatDoorKnPlainAllE
import Derived.Test.YtibgpeaplmcogaaGreatDoorRfMulAllE
import Derived.Test.YtibgpeaplmcogaaGreatDoorRfSumAllE
namespace Go.Proofs.YtibgpeaplmcogaaGreatDoor
set_option maxRecDepth 100000
open Go.RowKit
set_option linter.unusedVariables false
set_option linter.unusedSimpArgs false

theorem fromQ_zero {X : Rat} (h : X.num.natAbs = 0) : fromQ X = 0 := by
  unfold fromQ
  rw [neg_zero_ X h, h, magR_zero]; rfl
theorem fromQ_exact {X : Rat} {sh : Nat} (h : X.num.natAbs * 2 ^ sh % X.den = 0) : sg (neg_ X) (magM (X.num.natAbs * 2 ^ sh / X.den) (-(sh : Int)) false) = fromQ X := by
  unfold fromQ
  rw [magM_no, quot_exact (Nat.pos_of_ne_zero (den_ne X)) h]
theorem fromQ_sticky {X : Rat} {sh : Nat} (h0 : 0 < X.num.natAbs) (hs : 64 + blen X.den ≤ blen X.num.natAbs + sh) (h : X.num.natAbs * 2 ^ sh % X.den ≠ 0) : sg (neg_ X) (magM (X.num.natAbs * 2 ^ sh / X.den) (-(sh : Int)) true) = fromQ X := by
  unfold fromQ
  rw [magM_yes, quot_sticky (Nat.pos_of_ne_zero (den_ne X)) h0 hs h]

set_option maxRecDepth 100000 in
set_option maxHeartbeats 8000000 in
theorem fr_from {w : World} {s : Bool} {A A' : Option Addr} {n n' c c' : Nat} {X : Rat} (h : Q w s A n c A' n' c' X) (hX : Sz X 20) :
    Calls Tryz.prog 95 #[.agg #[.bool s, .slice A n c, .slice A' n' c']] w (RetW (fromQ X) w) := by
  obtain ⟨V, hW, Ba, hb0⟩ := box0 25 w #[.bool s, .slice A n c, .slice A' n' c']
  have l1 : n ≤ 20 := h.2.1.small hX.1
  have l2 : n' ≤ 20 := h.2.2.small hX.2
  have h1 := h.2.1.below hb0
  have h2 := h.2.2.below hb0
  have hs := h.1
  have N1 := fun (w1 : World) (x : Sl w1 A n c (words X.num.natAbs)) => nat_bits x (by omega)
  have N2 := fun (w1 : World) (x : Sl w1 A' n' c' (words X.den)) => nat_bits x (by omega)
  simp only [val_words] at N1 N2
  have hS : ∀ w', Below V.heap.size V w' → w'.cell? ⟨w.heap.size, 0, none⟩ = some (.bool s) ∧ w'.cell? ⟨w.heap.size, 1, none⟩ = some (.slice A n c) ∧ w'.cell? ⟨w.heap.size, 2, none⟩ = some (.slice A' n' c') := fun w' hb => (Ba.below' hb).three.1
  have hq0 : 0 < X.den := Nat.pos_of_ne_zero (den_ne X)
  have hb2 := blen_pos hq0
  have hbx : blen X.num.natAbs ≤ 1280 := blen_pow_W hX.1
  have hby : blen X.den ≤ 1280 := blen_pow_W hX.2
  rcases Nat.eq_zero_or_pos X.num.natAbs with hz | hp0
  · rw [fromQ_zero hz]
    have N1 := N1
    rw [hz, blen_zero] at N1
    rw [hz] at h1
    generalize blen X.den = d at *
    have HN1 := Lib.hid N1
    have HN2 := Lib.hid N2
    have HS := Lib.hid hS
    have HW := Lib.hid hW
    clear N1 N2 hS Ba hW h hX hs
    go_enter Tryz.func95, Tryz.ntmps95
    go_wp2_with fail
    rw [HW.out]
    obtain ⟨k0, k1, k2⟩ := HS.out _ (Below.refl _ V)
    go_region_held3 (fun w' => w'.cell? ⟨w.heap.size, 0, none⟩ = some (.bool s) ∧ w'.cell? ⟨w.heap.size, 1, none⟩ = some (.slice A n c) ∧ w'.cell? ⟨w.heap.size, 2, none⟩ = some (.slice A' n' c')) (exact HS.out _ (Below.refl _ V).drew)
      (first
        | (go_at_call 86; (with_reducible refine (HN1.out _ ?hz1).mono ?_); (case hz1 => exact h1); rintro _ _ ⟨rfl, rfl⟩)
        | (go_at_call 86; (with_reducible refine (HN2.out _ ?hz2).mono ?_); (case hz2 => exact h2); rintro _ _ ⟨rfl, rfl⟩)
        | fail)
    all_goals
      go_wp2_with fail
      go_ret
      exact ⟨rfl, hb0.drew⟩
  · have hb1 := blen_pos hp0
    obtain ⟨sh, hsh⟩ : ∃ sh : Nat, (sh : Int) = max (64 - ((blen X.num.natAbs : Int) - blen X.den)) 0 := ⟨(max (64 - ((blen X.num.natAbs : Int) - blen X.den)) 0).toNat, by omega⟩
    have hsh2 : 64 + blen X.den ≤ blen X.num.natAbs + sh := by omega
    have hP : X.num.natAbs * 2 ^ sh < W ^ (20 + 21) := mul_lt_pow hX.1 (by omega)
    have SH := fun w1 (hb : Below V.heap.size V w1) => nat_shl (h1.below hb) (by omega) (sh : Int)
    rw [val_words, clampS_nat (by omega)] at SH
    have DV := fun (w1 : World) (A2 : Option Addr) (n2 c2 : Nat) (t : Sl w1 A2 n2 c2 (words (X.num.natAbs * 2 ^ sh))) (hb : Below V.heap.size V w1) => quot_div t (h2.below hb) (by have := t.small hP; omega) (by omega) (by rw [val_words]; exact hq0)
    rw [val_words, val_words] at DV
    have hQ1 : X.num.natAbs * 2 ^ sh / X.den < W ^ (20 + 21) := Nat.lt_of_le_of_lt (Nat.div_le_self _ _) hP
    have hR1 : X.num.natAbs * 2 ^ sh % X.den < W ^ 20 := Nat.lt_trans (Nat.mod_lt _ hq0) hX.2
    have BT := fun (w1 : World) (A4 : Option Addr) (n4 c4 : Nat) (t : Sl w1 A4 n4 c4 (words (X.num.natAbs * 2 ^ sh % X.den))) => nat_bits t (by have := t.small hR1; omega)
    rw [val_words] at BT
    have OF := fun (w1 : World) (A3 : Option Addr) (n3 c3 : Nat) (t : Sl w1 A3 n3 c3 (words (X.num.natAbs * 2 ^ sh / X.den))) (more : Bool) => fr_of s t (by have := t.small hQ1; omega) (e := -(sh : Int)) (by omega) (by omega) more
    rw [val_words] at OF
    obtain ⟨more, B, hOF, hmore, hBT⟩ : ∃ (more : Bool) (B : Nat), (∀ (w1 : World) (A3 : Option Addr) (n3 c3 : Nat) (t : Sl w1 A3 n3 c3 (words (X.num.natAbs * 2 ^ sh / X.den))), Calls Tryz.prog 154 #[.bool s, .slice A3 n3 c3, .int .i64 (-(sh : Int)), .bool more] w1 (RetW (fromQ X) w1)) ∧ decide (0 < B) = more ∧ blen (X.num.natAbs * 2 ^ sh % X.den) = B := by
      by_cases hr : X.num.natAbs * 2 ^ sh % X.den = 0
      · refine ⟨false, 0, fun w1 A3 n3 c3 t => ?_, by decide, by rw [hr, blen_zero]⟩
        have := OF w1 A3 n3 c3 t false
        rw [hs, fromQ_exact hr, ← hs] at this
        exact this
      · refine ⟨true, _, fun w1 A3 n3 c3 t => ?_, decide_eq_true (blen_pos (Nat.pos_of_ne_zero hr)), rfl⟩
        have := OF w1 A3 n3 c3 t true
        rw [hs, fromQ_sticky hp0 hsh2 hr, ← hs] at this
        exact this
    rw [hBT] at BT
    generalize X.num.natAbs * 2 ^ sh / X.den = q1 at *
    generalize X.num.natAbs * 2 ^ sh % X.den = r1 at *
    generalize X.num.natAbs * 2 ^ sh = P1 at *
    generalize fromQ X = F at *
    generalize blen X.num.natAbs = a at *
    generalize blen X.den = d at *
    have z1 : ((a : Int) == 0) = false := by simp; omega
    have z2 : ((d : Int) == 0) = false := by simp; omega
    have z3 : decide ((a : Int) - d < -2000) = false := decide_eq_false (by omega)
    have z4 : decide (2000 < (a : Int) - d) = false := decide_eq_false (by omega)
    have HN1 := Lib.hid N1
    have HN2 := Lib.hid N2
    have HS := Lib.hid hS
    have HW := Lib.hid hW
    have HSH := Lib.hid SH
    have HDV := Lib.hid DV
    have HBT := Lib.hid BT
    have HOF := Lib.hid hOF
    have Hsh := Lib.hid hsh
    have hsh3 : sh ≤ 1344 := by omega
    have hwr : IntKind.i64.wrap (-(sh : Int)) = -(sh : Int) := IntWalk.i64_in _ (by omega)
    clear N1 N2 hS Ba hW h hX hs SH DV BT hOF OF hP hQ1 hR1 hBT hsh2 hsh hp0
    go_enter Tryz.func95, Tryz.ntmps95
    go_wp2_with fail
    rw [HW.out]
    clear HW
    obtain ⟨k0, k1, k2⟩ := HS.out _ (Below.refl _ V)
    go_region_held3 (fun w' => w'.cell? ⟨w.heap.size, 0, none⟩ = some (.bool s) ∧ w'.cell? ⟨w.heap.size, 1, none⟩ = some (.slice A n c) ∧ w'.cell? ⟨w.heap.size, 2, none⟩ = some (.slice A' n' c')) (exact HS.out _ (Below.refl _ V).drew)
      (first
        | (go_at_call 86; (with_reducible refine (HN1.out _ ?hz1).mono ?_); (case hz1 => exact h1); rintro _ _ ⟨rfl, rfl⟩)
        | (go_at_call 86; (with_reducible refine (HN2.out _ ?hz2).mono ?_); (case hz2 => exact h2); rintro _ _ ⟨rfl, rfl⟩)
        | fail)
    clear k0 k1 k2
    have x1 : Below V.heap.size V V.drew := (Below.refl _ V).drew
    generalize V.drew = V1 at x1 ⊢
    go_upto_region 7 with (fail)
    go_cut [6] (fun s6 wx => s6 = .int .i64 sh ∧ V1 = wx)
    case first =>
      by_cases g1 : 64 - ((a : Int) - d) < 0
      · go_wp2_with fail
        go_meet
        exact ⟨vint (by have := Hsh.out; omega), rfl⟩
      · go_wp2_with fail
        all_goals go_meet
        all_goals exact ⟨vint (by have := Hsh.out; omega), rfl⟩
    case rest =>
    obtain ⟨rfl, rfl⟩ := hcut
    clear z1 z2 z3 z4
    obtain ⟨k0, k1, k2⟩ := HS.out _ x1
    go_wp2_with fail
    go_region_held3 (fun w' => w'.cell? ⟨w.heap.size, 0, none⟩ = some (.bool s) ∧ w'.cell? ⟨w.heap.size, 1, none⟩ = some (.slice A n c) ∧ w'.cell? ⟨w.heap.size, 2, none⟩ = some (.slice A' n' c')) (first | exact HS.out _ x1.drew | exact HS.out _ x3 | exact HS.out _ x2 | fail)
      (first
        | (go_at_call 153; (with_reducible refine (HSH.out _ ?hb1).mono ?_); (case hb1 => exact x1.drew); rintro _ w2 ⟨A2, n2, c2, rfl, t2, b2⟩; have x2 : Below V.heap.size V w2 := bb x1 (Below.undrew b2))
        | (go_at_call 152; (with_reducible refine (HDV.out _ _ _ _ t2 x2).mono ?_); rintro _ w3 ⟨A3, n3, c3, A4, n4, c4, rfl, t3, t4, b3⟩; have x3 : Below V.heap.size V w3 := bb x2 b3)
        | fail)
    clear k0 k1 k2
    obtain ⟨k0, k1, k2⟩ := HS.out _ x3
    go_wp2_with fail
    go_region_held3 (fun w' => w'.cell? ⟨w.heap.size, 0, none⟩ = some (.bool s) ∧ w'.cell? ⟨w.heap.size, 1, none⟩ = some (.slice A n c) ∧ w'.cell? ⟨w.heap.size, 2, none⟩ = some (.slice A' n' c')) (first | exact HS.out _ x3.drew | exact HS.out _ x5 | fail)
      (first
        | (go_at_call 86; (with_reducible refine (HBT.out _ _ _ _ ?hz3).mono ?_); (case hz3 => exact t4); rintro _ _ ⟨rfl, rfl⟩)
        | (go_at_call 154; (with_reducible refine (HOF.out _ _ _ _ ?hz4).mono ?_); (case hz4 => exact t3); rintro _ w5 ⟨rfl, b5⟩; have x5 : Below V.heap.size V w5 := bb x3 (Below.undrew b5))
        | fail)
    go_wp2_with fail
    go_ret
    exact ⟨rfl, bb hb0 x5⟩

set_option maxRecDepth 100000 in
set_option maxHeartbeats 8000000 in
theorem rf_from {w : World} {s : Bool} {A A' : Option Addr} {n n' c c' : Nat} {X : Rat} (h : Q w s A n c A' n' c' X) (hX : Sz X 20) :
    Calls Tryz.prog 64 #[.agg #[.bool s, .slice A n c, .slice A' n' c']] w (RetW (fromQ X) w) := by
  obtain ⟨V, hW, Ba, hb0⟩ := box0 25 w #[.bool s, .slice A n c, .slice A' n' c']
  have l1 : n ≤ 20 := h.2.1.small hX.1
  have l2 : n' ≤ 20 := h.2.2.small hX.2
  have h1 := h.2.1.below hb0
  have h2 := h.2.2.below hb0
  have hs := h.1
  have ZR := fun w1 (hb : Below V.heap.size V w1) => ref_zero (h.below (bb hb0 hb))
  have N1 := fun (w1 : World) (x : Sl w1 A n c (words X.num.natAbs)) => ref_bits x (by omega)
  have N2 := fun (w1 : World) (x : Sl w1 A' n' c' (words X.den)) => ref_bits x (by omega)
  simp only [val_words] at N1 N2
  have hS : ∀ w', Below V.heap.size V w' → w'.cell? ⟨w.heap.size, 0, none⟩ = some (.bool s) ∧ w'.cell? ⟨w.heap.size, 1, none⟩ = some (.slice A n c) ∧ w'.cell? ⟨w.heap.size, 2, none⟩ = some (.slice A' n' c') := fun w' hb => (Ba.below' hb).three.1
  have hq0 : 0 < X.den := Nat.pos_of_ne_zero (den_ne X)
  have hb2 := blen_pos hq0
  have hbx : blen X.num.natAbs ≤ 1280 := blen_pow_W hX.1
  have hby : blen X.den ≤ 1280 := blen_pow_W hX.2
  rcases Nat.eq_zero_or_pos X.num.natAbs with hz | hp0
  · rw [fromQ_zero hz]
    rw [decide_eq_true ((rat_zero_iff X).2 hz)] at ZR
    have HZ := Lib.hid ZR
    have HS := Lib.hid hS
    have HW := Lib.hid hW
    clear N1 N2 hS Ba hW h hX hs ZR hz
    go_enter Tryz.func64, Tryz.ntmps64
    go_wp2_with fail
    rw [HW.out]
    with_reducible refine (HZ.out _ (Below.refl _ _)).mono ?_
    rintro _ w1 ⟨rfl, b1⟩
    go_wp2_with fail
    go_ret
    exact ⟨rfl, bb hb0 b1⟩
  · have hb1 := blen_pos hp0
    rw [decide_eq_false (fun e => by have := (rat_zero_iff X).1 e; omega)] at ZR
    by_cases cb : 1100 < (blen X.num.natAbs : Int) - blen X.den
    · have hF : fromQ X = sg s INF := by unfold fromQ; rw [quot_big hq0 hp0 (by omega) 0 (by omega), hs]
      rw [hF]
      generalize blen X.num.natAbs = a at *
      generalize blen X.den = d at *
      have HZ := Lib.hid ZR
      have HN1 := Lib.hid N1
      have HN2 := Lib.hid N2
      have HS := Lib.hid hS
      have HW := Lib.hid hW
      clear N1 N2 hS Ba hW h hX hs ZR hF
      have z3 : decide (1100 < (a : Int) - d) = true := decide_eq_true cb
      go_enter Tryz.func64, Tryz.ntmps64
      go_wp2_with fail
      rw [HW.out]
      clear HW
      with_reducible refine (HZ.out _ (Below.refl _ _)).mono ?_
      rintro _ w1 ⟨rfl, b1⟩
      obtain ⟨k0, k1, k2⟩ := HS.out _ b1
      go_wp2_with fail
      go_region_held3 (fun w' => w'.cell? ⟨w.heap.size, 0, none⟩ = some (.bool s) ∧ w'.cell? ⟨w.heap.size, 1, none⟩ = some (.slice A n c) ∧ w'.cell? ⟨w.heap.size, 2, none⟩ = some (.slice A' n' c')) (exact HS.out _ b1.drew)
        (first
          | (go_at_call 93; (with_reducible refine (HN1.out _ ?hz1).mono ?_); (case hz1 => (have hh := h1.below b1; exact hh)); rintro _ _ ⟨rfl, rfl⟩)
          | (go_at_call 93; (with_reducible refine (HN2.out _ ?hz2).mono ?_); (case hz2 => (have hh := h2.below b1; exact hh)); rintro _ _ ⟨rfl, rfl⟩)
          | fail)
      have x1 : Below V.heap.size V w1.drew := b1.drew
      clear k0 k1 k2
      generalize w1.drew = V1 at x1 ⊢
      obtain ⟨k0, k1, k2⟩ := HS.out _ x1
      go_wp2_with fail
      refine (rf_inf s _).mono ?_
      rintro _ _ ⟨rfl, rfl⟩
      go_wp2_with fail
      go_ret
      exact ⟨rfl, bb hb0 x1⟩
    · by_cases cs : (blen X.num.natAbs : Int) - blen X.den < -1200
      · have hF : fromQ X = sg s 0 := by unfold fromQ; rw [magR_small hq0 (by omega), hs]
        rw [hF]
        generalize blen X.num.natAbs = a at *
        generalize blen X.den = d at *
        have HZ := Lib.hid ZR
        have HN1 := Lib.hid N1
        have HN2 := Lib.hid N2
        have HS := Lib.hid hS
        have HW := Lib.hid hW
        clear N1 N2 hS Ba hW h hX hs ZR hF
        go_enter Tryz.func64, Tryz.ntmps64
        go_wp2_with fail
        rw [HW.out]
        clear HW
        with_reducible refine (HZ.out _ (Below.refl _ _)).mono ?_
        rintro _ w1 ⟨rfl, b1⟩
        obtain ⟨k0, k1, k2⟩ := HS.out _ b1
        go_wp2_with fail
        go_region_held3 (fun w' => w'.cell? ⟨w.heap.size, 0, none⟩ = some (.bool s) ∧ w'.cell? ⟨w.heap.size, 1, none⟩ = some (.slice A n c) ∧ w'.cell? ⟨w.heap.size, 2, none⟩ = some (.slice A' n' c')) (exact HS.out _ b1.drew)
          (first
            | (go_at_call 93; (with_reducible refine (HN1.out _ ?hz1).mono ?_); (case hz1 => (have hh := h1.below b1; exact hh)); rintro _ _ ⟨rfl, rfl⟩)
            | (go_at_call 93; (with_reducible refine (HN2.out _ ?hz2).mono ?_); (case hz2 => (have hh := h2.below b1; exact hh)); rintro _ _ ⟨rfl, rfl⟩)
            | fail)
        have x1 : Below V.heap.size V w1.drew := b1.drew
        clear k0 k1 k2
        generalize w1.drew = V1 at x1 ⊢
        obtain ⟨k0, k1, k2⟩ := HS.out _ x1
        go_wp2_with fail
        refine (rf_signed s (b := 0) (by omega) _).mono ?_
        rintro _ _ ⟨rfl, rfl⟩
        go_wp2_with fail
        go_ret
        exact ⟨rfl, bb hb0 x1⟩
      · obtain ⟨sh, hsh⟩ : ∃ sh : Nat, (sh : Int) = max 0 (64 - ((blen X.num.natAbs : Int) - blen X.den)) := ⟨(max 0 (64 - ((blen X.num.natAbs : Int) - blen X.den))).toNat, by omega⟩
        have hsh2 : 64 + blen X.den ≤ blen X.num.natAbs + sh := by omega
        have hP : X.num.natAbs * 2 ^ sh < W ^ (20 + 21) := mul_lt_pow hX.1 (by omega)
        have SH := fun w1 (hb : Below V.heap.size V w1) => ref_shl (h1.below hb) (by omega) (sh : Int)
        rw [val_words, clampS_nat (by omega)] at SH
        have DV := fun (w1 : World) (A2 : Option Addr) (n2 c2 : Nat) (t : Sl w1 A2 n2 c2 (words (X.num.natAbs * 2 ^ sh))) (hb : Below V.heap.size V w1) => ref_div t (h2.below hb) (by have := t.small hP; omega) (by omega) (by rw [val_words]; exact hq0)
        rw [val_words, val_words] at DV
        have hQ1 : X.num.natAbs * 2 ^ sh / X.den < W ^ (20 + 21) := Nat.lt_of_le_of_lt (Nat.div_le_self _ _) hP
        have hR1 : X.num.natAbs * 2 ^ sh % X.den < W ^ 20 := Nat.lt_trans (Nat.mod_lt _ hq0) hX.2
        have OF := fun (w1 : World) (A3 : Option Addr) (n3 c3 : Nat) (t : Sl w1 A3 n3 c3 (words (X.num.natAbs * 2 ^ sh / X.den))) (more : Bool) => rf_more s t (by have := t.small hQ1; omega) (e := -(sh : Int)) (by omega) (by omega) more
        rw [val_words] at OF
        obtain ⟨more, hOF, hmore⟩ : ∃ (more : Bool), (∀ (w1 : World) (A3 : Option Addr) (n3 c3 : Nat) (t : Sl w1 A3 n3 c3 (words (X.num.natAbs * 2 ^ sh / X.den))), Calls Tryz.prog 110 #[.bool s, .slice A3 n3 c3, .int .i64 (-(sh : Int)), .bool more] w1 (RetW (fromQ X) w1)) ∧ (∀ (w1 : World) (A4 : Option Addr) (n4 c4 : Nat) (t : Sl w1 A4 n4 c4 (words (X.num.natAbs * 2 ^ sh % X.den))), decide (0 < n4) = more) := by
          by_cases hr : X.num.natAbs * 2 ^ sh % X.den = 0
          · refine ⟨false, fun w1 A3 n3 c3 t => ?_, fun w1 A4 n4 c4 t => ?_⟩
            · have := OF w1 A3 n3 c3 t false
              rw [hs, fromQ_exact hr, ← hs] at this
              exact this
            · rw [hr] at t; have := sl_zero t; exact decide_eq_false (by omega)
          · refine ⟨true, fun w1 A3 n3 c3 t => ?_, fun w1 A4 n4 c4 t => ?_⟩
            · have := OF w1 A3 n3 c3 t true
              rw [hs, fromQ_sticky hp0 hsh2 hr, ← hs] at this
              exact this
            · exact decide_eq_true (sl_pos t (Nat.pos_of_ne_zero hr))
        generalize X.num.natAbs * 2 ^ sh / X.den = q1 at *
        generalize X.num.natAbs * 2 ^ sh % X.den = r1 at *
        generalize X.num.natAbs * 2 ^ sh = P1 at *
        generalize fromQ X = F at *
        generalize blen X.num.natAbs = a at *
        generalize blen X.den = d at *
        have z3 : decide ((a : Int) - d < -1200) = false := decide_eq_false (by omega)
        have z4 : decide (1100 < (a : Int) - d) = false := decide_eq_false (by omega)
        have HZ := Lib.hid ZR
        have HN1 := Lib.hid N1
        have HN2 := Lib.hid N2
        have HS := Lib.hid hS
        have HW := Lib.hid hW
        have HSH := Lib.hid SH
        have HDV := Lib.hid DV
        have HOF := Lib.hid hOF
        have HM := Lib.hid hmore
        have Hsh := Lib.hid hsh
        have hsh3 : sh ≤ 1344 := by omega
        clear N1 N2 hS Ba hW h hX hs SH DV hOF OF hP hQ1 hR1 hmore hsh2 hsh hp0 ZR
        go_enter Tryz.func64, Tryz.ntmps64
        go_wp2_with fail
        rw [HW.out]
        clear HW
        with_reducible refine (HZ.out _ (Below.refl _ _)).mono ?_
        rintro _ w1 ⟨rfl, b1⟩
        obtain ⟨k0, k1, k2⟩ := HS.out _ b1
        go_wp2_with fail
        go_region_held3 (fun w' => w'.cell? ⟨w.heap.size, 0, none⟩ = some (.bool s) ∧ w'.cell? ⟨w.heap.size, 1, none⟩ = some (.slice A n c) ∧ w'.cell? ⟨w.heap.size, 2, none⟩ = some (.slice A' n' c')) (exact HS.out _ b1.drew)
          (first
            | (go_at_call 93; (with_reducible refine (HN1.out _ ?hz1).mono ?_); (case hz1 => (have hh := h1.below b1; exact hh)); rintro _ _ ⟨rfl, rfl⟩)
            | (go_at_call 93; (with_reducible refine (HN2.out _ ?hz2).mono ?_); (case hz2 => (have hh := h2.below b1; exact hh)); rintro _ _ ⟨rfl, rfl⟩)
            | fail)
        have x1 : Below V.heap.size V w1.drew := b1.drew
        clear k0 k1 k2
        generalize w1.drew = V1 at x1 ⊢
        go_upto_region 8 with (fail)
        go_cut [4] (fun s4 wx => s4 = .int .i64 sh ∧ V1 = wx)
        case first =>
          by_cases g1 : 0 < 64 - ((a : Int) - d)
          · go_wp2_with fail
            all_goals go_meet
            all_goals exact ⟨vint (by have := Hsh.out; omega), rfl⟩
          · go_wp2_with fail
            all_goals go_meet
            all_goals exact ⟨vint (by have := Hsh.out; omega), rfl⟩
        case rest =>
        obtain ⟨rfl, rfl⟩ := hcut
        clear z3 z4
        obtain ⟨k0, k1, k2⟩ := HS.out _ x1
        go_wp2_with fail
        go_region_held3 (fun w' => w'.cell? ⟨w.heap.size, 0, none⟩ = some (.bool s) ∧ w'.cell? ⟨w.heap.size, 1, none⟩ = some (.slice A n c) ∧ w'.cell? ⟨w.heap.size, 2, none⟩ = some (.slice A' n' c')) (first | exact HS.out _ x1.drew | exact HS.out _ x3 | exact HS.out _ x2 | fail)
          (first
            | (go_at_call 109; (with_reducible refine (HSH.out _ ?hb1).mono ?_); (case hb1 => exact x1.drew); rintro _ w2 ⟨A2, n2, c2, rfl, t2, b2⟩; have x2 : Below V.heap.size V w2 := bb x1 (Below.undrew b2))
            | (go_at_call 108; (with_reducible refine (HDV.out _ _ _ _ t2 x2).mono ?_); rintro _ w3 ⟨A3, n3, c3, A4, n4, c4, rfl, t3, t4, b3⟩; have x3 : Below V.heap.size V w3 := bb x2 b3)
            | fail)
        clear k0 k1 k2
        obtain ⟨k0, k1, k2⟩ := HS.out _ x3
        have hmo := HM.out _ _ _ _ t4
        go_wp2_with fail
        with_reducible refine (HOF.out _ _ _ _ t3).mono ?_
        rintro _ w5 ⟨rfl, b5⟩
        go_wp2_with fail
        go_ret
        exact ⟨rfl, bb hb0 (bb x3 b5)⟩

set_option maxRecDepth 100000 in
set_option maxHeartbeats 4000000 in
theorem rf_int (z : Int) (h1 : -9223372036854775808 ≤ z) (h2 : z ≤ 9223372036854775807) (w : World) :
    Calls Tryz.prog 185 #[.int .i64 z] w (RetW (sg (decide (z < 0)) (magR z.natAbs 1 0)) w) := by
  have OF := fun w1 => ref_of z h1 h2 w1
  have hsz := sz_of z h1 h2
  have RO := fun (w1 : World) (s : Bool) (A A' : Option Addr) (n n' c c' : Nat) (q : Q w1 s A n c A' n' c' (z : Rat)) => rf_of s q.2.1 (by have := q.2.1.small hsz.1; omega) (e := 0) (by omega) (by omega)
  rw [val_words, Rat.num_intCast] at RO
  have hng : neg_ (z : Rat) = decide (z < 0) := by unfold neg_; rw [Rat.num_intCast]
  generalize (z : Rat) = X at *
  have HOF := Lib.hid OF
  have HRO := Lib.hid RO
  clear OF RO hsz
  go_enter Tryz.func185, Tryz.ntmps185
  go_wp2_with fail
  refine (HOF.out _).mono ?_
  rintro _ w1 ⟨s1, A1, n1, c1, A2, n2, c2, rfl, q1, b1⟩
  obtain ⟨w2, hV2, B2, b2⟩ := box0 25 w1 #[.bool s1, .slice A1 n1 c1, .slice A2 n2 c2]
  obtain ⟨⟨k0, k1, k2⟩, _, _, _⟩ := B2.three
  have HV2 := Lib.hid hV2
  have hs1 := q1.1
  rw [hng] at hs1
  have HS1 := Lib.hid hs1
  clear hV2 B2 hs1 hng
  go_wp2_with fail
  rw [HV2.out]
  with_reducible refine (HRO.out _ _ _ _ _ _ _ _ (q1.below b2)).mono ?_
  rintro _ w3 ⟨rfl, b3⟩
  go_wp2_with fail
  go_ret
  exact ⟨by rw [HS1.out]; rfl, bb b1 (bb b2 b3)⟩

end Go.Proofs.YtibgpeaplmcogaaGreatDoor

namespace Go.Proofs.YtibgpeaplmcogaaGreatDoor
set_option maxRecDepth 100000
open Go.RowKit
set_option linter.unusedVariables false
set_option linter.unusedSimpArgs false

theorem rk_int (n : Int) (h1 : -9223372036854775808 ≤ n) (h2 : n ≤ 9223372036854775807) (w : World) :
    Calls Tryz.prog 185 #[.int .i64 n] w (RetW (fint n) w) := rf_int n h1 h2 w
theorem rk_by (n : Int) (h1 : -9223372036854775808 ≤ n) (h2 : n ≤ 9223372036854775807) (w : World) :
    Calls Tryz.prog 187 #[.int .i64 n] w (RetW (inv1 n) w) := by
  have A2 := fun w1 => rk_int n h1 h2 w1
  have A3 : ∀ w1, Calls Tryz.prog 115 #[.int .u64 4607182418800017408, .int .u64 (fint n)] w1 (RetW (inv1 n) w1) := by
    intro w1
    unfold inv1
    rw [int_1, ONE_lit]
    exact rf_div (a := 4607182418800017408) (by omega) (fint_lt n) w1
  generalize inv1 n = r at *
  generalize fint n = y at *
  have H2 := Lib.hid A2
  have H3 := Lib.hid A3
  clear A2 A3
  go_enter Tryz.func187, Tryz.ntmps187
  go_wp2_with fail
  with_reducible refine (H2.out _).mono ?_
  rintro _ w2 ⟨rfl, b2⟩
  go_wp2_with fail
  with_reducible refine (H3.out _).mono ?_
  rintro _ w3 ⟨rfl, b3⟩
  go_wp2_with fail
  go_ret
  exact ⟨rfl, bbw b2 b3⟩
set_option maxHeartbeats 1000000 in
theorem rk_fact {n : Nat} (hn : n ≤ 13) (w : World) :
    Calls Tryz.prog 188 #[.int .i64 n] w fun e w' => e = .returned (.int .i64 (facL.getD n 0)) ∧ w = w' := by
  go_enter Tryz.func188, Tryz.ntmps188
  go_wp2_with fail
  go_loopw [3, 6] (fun o iv wr => ∃ (i : Nat) (v : Int), i ≤ n ∧ iv = .int .i64 i ∧ o = .int .i64 v ∧ Hid (v = facL.getD i 0) ∧ w = wr) (fun _ iv _ => 13 - mes iv)
  case atStart => exact ⟨0, 1, by omega, rfl, rfl, Lib.hid rfl, rfl⟩
  case round =>
    obtain ⟨i, v, hi, rfl, rfl, HV, rfl⟩ := hrel
    by_cases h : i = n
    · subst h
      go_wp2_with fail
      go_ret
      exact ⟨ret1 HV.out, rfl⟩
    · have hi2 : i < n := by omega
      have hs := fac_step i (by omega)
      have hl := fac_le (i + 1) (by omega)
      rw [← HV.out] at hs
      obtain ⟨v2, hv2⟩ : ∃ v2 : Int, facL.getD (i + 1) 0 = v2 := ⟨_, rfl⟩
      rw [hv2] at hs hl
      have hm : v * ((i : Int) + 1) = v2 := hs.symm
      have HV2 := Lib.hid hv2
      clear hs hv2 HV
      go_wp2_with fail
      go_roundw
      case rel => exact ⟨i + 1, v2, by omega, vint (by omega), rfl, Lib.hid HV2.out.symm, by trivial⟩
      case measure => simp [mes, intOf]; omega

set_option maxHeartbeats 4000000 in
theorem rk_exp {x : Nat} (hx : x < 18446744073709551616) (w : World) :
    Calls Tryz.prog 117 #[.int .u64 x] w (RetW (fexp x) w) := by
  have K := Lib.hid (rf_kind hx w)
  by_cases h4 : kd x = 4
  · have e : fexp x = NAN := by unfold fexp; rw [if_pos h4]
    rw [e]
    rw [h4] at K
    have N := Lib.hid (rf_nan w)
    generalize NAN = v at *
    go_enter Tryz.func117, Tryz.ntmps117
    go_wp2_with fail
    refine K.out.mono ?_
    rintro _ w' ⟨rfl, rfl⟩
    go_wp2_with fail
    refine N.out.mono ?_
    rintro _ w' ⟨rfl, rfl⟩
    go_wp2_with fail
    go_ret
    exact ⟨rfl, Below.refl _ _⟩
  have g4 : ((kd x : Int) == 4) = false := by simp; omega
  have HI1 := Lib.hid (rk_int 710 (by omega) (by omega) w)
  have L1 := Lib.hid (fun w1 => rf_less (fint_lt 710) hx w1)
  by_cases h1 : fless (fint 710) x = true
  · have e : fexp x = INF := by unfold fexp; rw [if_neg h4, if_pos h1]
    rw [e]
    rw [h1] at L1
    have N := fun w1 => rf_inf false w1
    rw [sg_false] at N
    have HN := Lib.hid N
    generalize fint 710 = c at *
    generalize INF = v at *
    generalize kd x = k at *
    clear N
    go_enter Tryz.func117, Tryz.ntmps117
    go_wp2_with fail
    refine K.out.mono ?_
    rintro _ w' ⟨rfl, rfl⟩
    go_wp2_with fail
    with_reducible refine HI1.out.mono ?_
    rintro _ w1 ⟨rfl, b1⟩
    go_wp2_with fail
    with_reducible refine (L1.out _).mono ?_
    rintro _ w' ⟨rfl, rfl⟩
    go_wp2_with fail
    with_reducible refine (HN.out _).mono ?_
    rintro _ w' ⟨rfl, rfl⟩
    go_wp2_with fail
    go_ret
    exact ⟨rfl, b1⟩
  have h1f : fless (fint 710) x = false := by simpa using h1
  rw [h1f] at L1
  have HI2 := Lib.hid (fun w1 => rk_int (-746) (by omega) (by omega) w1)
  have L2 := Lib.hid (fun w1 => rf_less hx (fint_lt (-746)) w1)
  by_cases h2 : fless x (fint (-746)) = true
  · have e : fexp x = 0 := by unfold fexp; rw [if_neg h4, if_neg h1, if_pos h2]
    rw [e]
    rw [h2] at L2
    clear h1 h1f h2 e
    generalize fint 710 = c at *
    generalize fint (-746) = d at *
    generalize kd x = k at *
    go_enter Tryz.func117, Tryz.ntmps117
    go_wp2_with fail
    refine K.out.mono ?_
    rintro _ w' ⟨rfl, rfl⟩
    go_wp2_with fail
    with_reducible refine HI1.out.mono ?_
    rintro _ w1 ⟨rfl, b1⟩
    go_wp2_with fail
    with_reducible refine (L1.out _).mono ?_
    rintro _ w' ⟨rfl, rfl⟩
    go_wp2_with fail
    with_reducible refine (HI2.out _).mono ?_
    rintro _ w2 ⟨rfl, b2⟩
    go_wp2_with fail
    with_reducible refine (L2.out _).mono ?_
    rintro _ w' ⟨rfl, rfl⟩
    go_wp2_with fail
    go_ret
    exact ⟨rfl, bbw b1 b2⟩
  have h2f : fless x (fint (-746)) = false := by simpa using h2
  rw [h2f] at L2
  have e : fexp x = fscale (expP (expR x)) (fnv (fmul x PP)) := by unfold fexp; rw [if_neg h4, if_neg h1, if_neg h2]
  obtain ⟨_, n1, n2⟩ := expR_half hx (exp_range hx h4 h1 h2)
  have ho := nok_of n2 n1
  have hv : nrv (fmul x PP) = fnv (fmul x PP) := by unfold nrv; rw [if_pos ho]
  have hR : expR x = fsub (fsub x (fmul (fint (fnv (fmul x PP))) LL)) (fmul (fint (fnv (fmul x PP))) ll) := rfl
  have M1 : ∀ w1, Calls Tryz.prog 114 #[.int .u64 x, .int .u64 4609176140021203710] w1 (RetW (fmul x PP) w1) := by
    intro w1
    rw [PP_lit]
    exact rf_mul hx (b := 4609176140021203710) (by omega) w1
  have NR := fun w1 => rf_near (fmul_lt x PP) w1
  unfold RetN at NR
  rw [hv, ho] at NR
  have T1 := fun w1 => rk_int (fnv (fmul x PP)) (by omega) (by omega) w1
  have T2 : ∀ w1, Calls Tryz.prog 114 #[.int .u64 (fint (fnv (fmul x PP))), .int .u64 4604418534311723008] w1 (RetW (fmul (fint (fnv (fmul x PP))) LL) w1) := by
    intro w1
    rw [LL_lit]
    exact rf_mul (fint_lt _) (b := 4604418534311723008) (by omega) w1
  have T3 : ∀ w1, Calls Tryz.prog 114 #[.int .u64 (fint (fnv (fmul x PP))), .int .u64 4461442080421002358] w1 (RetW (fmul (fint (fnv (fmul x PP))) ll) w1) := by
    intro w1
    rw [ll_lit]
    exact rf_mul (fint_lt _) (b := 4461442080421002358) (by omega) w1
  have S1 := fun w1 => rf_sub hx (fmul_lt (fint (fnv (fmul x PP))) LL) w1
  have S2 := fun w1 => rf_sub (fsub_lt (a := x) (b := fmul (fint (fnv (fmul x PP))) LL) hx) (fmul_lt (fint (fnv (fmul x PP))) ll) w1
  rw [← hR] at S2
  have hRl : expR x < 18446744073709551616 := fsub_lt (fsub_lt hx)
  have SC := fun w1 => rf_scale (expP_lt (expR x)) (fnv (fmul x PP)) w1
  rw [← e, ← expS_end] at SC
  clear e hR h1 h1f h2 h2f ho hv n2 h4
  generalize fexp x = E at *
  generalize expR x = ER at *
  generalize fsub x (fmul (fint (fnv (fmul x PP))) LL) = D1 at *
  generalize fmul (fint (fnv (fmul x PP))) LL = U at *
  generalize fmul (fint (fnv (fmul x PP))) ll = V at *
  generalize fnv (fmul x PP) = k at *
  generalize fmul x PP = m at *
  generalize fint k = fk at *
  generalize fint 710 = c at *
  generalize fint (-746) = d at *
  generalize kd x = kx at *
  have F13 := rk_fact (n := 13) (by omega)
  have B13 := fun w1 => rk_by 6227020800 (by omega) (by omega) w1
  rw [exp_tab0, ← expS_0 ER] at B13
  have HF13 := Lib.hid F13
  have HB13 := Lib.hid B13
  have HM := Lib.hid M1
  have HNR := Lib.hid NR
  have HT1 := Lib.hid T1
  have HT2 := Lib.hid T2
  have HT3 := Lib.hid T3
  have HS1 := Lib.hid S1
  have HS2 := Lib.hid S2
  have HSC := Lib.hid SC
  clear M1 NR T1 T2 T3 S1 S2 SC F13 B13
  go_enter Tryz.func117, Tryz.ntmps117
  go_wp2_with fail
  refine K.out.mono ?_
  rintro _ w' ⟨rfl, rfl⟩
  go_wp2_with fail
  with_reducible refine HI1.out.mono ?_
  rintro _ w1 ⟨rfl, b1⟩
  go_wp2_with fail
  with_reducible refine (L1.out _).mono ?_
  rintro _ w' ⟨rfl, rfl⟩
  go_wp2_with fail
  with_reducible refine (HI2.out _).mono ?_
  rintro _ w2 ⟨rfl, b2⟩
  go_wp2_with fail
  with_reducible refine (L2.out _).mono ?_
  rintro _ w' ⟨rfl, rfl⟩
  go_wp2_with fail
  with_reducible refine (HM.out _).mono ?_
  rintro _ w3 ⟨rfl, b3⟩
  go_wp2_with fail
  with_reducible refine (HNR.out _).mono ?_
  rintro _ w4 ⟨rfl, b4⟩
  go_wp2_with fail
  with_reducible refine (HT1.out _).mono ?_
  rintro _ w5 ⟨rfl, b5⟩
  go_wp2_with fail
  with_reducible refine (HT2.out _).mono ?_
  rintro _ w6 ⟨rfl, b6⟩
  go_wp2_with fail
  with_reducible refine (HS1.out _).mono ?_
  rintro _ w7 ⟨rfl, b7⟩
  go_wp2_with fail
  with_reducible refine (HT3.out _).mono ?_
  rintro _ w8 ⟨rfl, b8⟩
  go_wp2_with fail
  with_reducible refine (HS2.out _).mono ?_
  rintro _ w9 ⟨rfl, b9⟩
  have y9 := bbw b1 (bbw b2 (bbw b3 (bbw b4 (bbw b5 (bbw b6 (bbw b7 (bbw b8 b9)))))))
  clear b1 b2 b3 b4 b5 b6 b7 b8 b9 HM HNR HT1 HT2 HT3 HS1 HS2 HI1 HI2 L1 L2
  go_wp2_with fail
  refine (HF13.out _).mono ?_
  rintro _ w' ⟨rfl, rfl⟩
  go_wp2_with fail
  refine (HB13.out _).mono ?_
  rintro _ w10 ⟨rfl, b10⟩
  have y10 := bbw y9 b10
  clear y9 b10 HF13 HB13
  go_wp2_with fail
  go_loopw [7, 38] (fun p iv wr => ∃ (i q : Nat), i ≤ 13 ∧ iv = .int .i64 i ∧ p = .int .u64 q ∧ Hid (q = expS ER i) ∧ Below w.heap.size w wr) (fun _ iv _ => 13 - mes iv)
  case atStart => exact ⟨0, _, by omega, rfl, rfl, Lib.hid rfl, y10⟩
  case round =>
    clear y10
    obtain ⟨i, q, hi, rfl, rfl, HQ, hb⟩ := hrel
    by_cases h13 : i = 13
    · subst h13
      obtain rfl := HQ.out
      go_wp2_with fail
      with_reducible refine (HSC.out _).mono ?_
      rintro _ w2 ⟨rfl, b2⟩
      go_wp2_with fail
      go_ret
      exact ⟨rfl, bbw hb b2⟩
    · have hi2 : i < 13 := by omega
      obtain ⟨t, ht⟩ : ∃ t : Nat, (12 : Int) - i = t := ⟨12 - i, by omega⟩
      have ht2 : t = 12 - i := by omega
      have FT := fun w1 => rk_fact (n := t) (by omega) w1
      have hv1 := fac_le t (by omega)
      have ht3 := exp_tab i hi2
      rw [← ht2] at ht3
      generalize facL.getD t 0 = v at *
      have hq : q < 18446744073709551616 := by rw [HQ.out]; exact expS_lt ER (by omega)
      have A1 := fun w1 => rf_mul hq hRl w1
      have A2 := fun w1 => rk_by v (by omega) (by omega) w1
      have A3 := fun w1 => rf_add (fmul_lt q ER) (inv1_lt v) w1
      have hst : fadd (fmul q ER) (inv1 v) = expS ER (i + 1) := by rw [expS_next ER hi2, ht3, HQ.out]
      rw [hst] at A3
      have HFT := Lib.hid FT
      generalize fmul q ER = y at *
      generalize inv1 v = z at *
      have HA1 := Lib.hid A1
      have HA2 := Lib.hid A2
      have HA3 := Lib.hid A3
      clear A1 A2 A3 FT ht3 ht2 hst
      go_wp2_with fail
      with_reducible refine (HA1.out _).mono ?_
      rintro _ w2 ⟨rfl, b2⟩
      go_wp2_with fail
      with_reducible refine (HFT.out _).mono ?_
      rintro _ w' ⟨rfl, rfl⟩
      go_wp2_with fail
      with_reducible refine (HA2.out _).mono ?_
      rintro _ w3 ⟨rfl, b3⟩
      go_wp2_with fail
      with_reducible refine (HA3.out _).mono ?_
      rintro _ w4 ⟨rfl, b4⟩
      go_wp2_with fail
      go_roundw
      case rel => exact ⟨i + 1, _, by omega, vint (by omega), rfl, Lib.hid rfl, bbw hb (bbw b2 (bbw b3 b4))⟩
      case measure => simp [mes, intOf]; omega

end Go.Proofs.YtibgpeaplmcogaaGreatDoor

namespace Go.Proofs.YtibgpeaplmcogaaGreatDoor
set_option maxRecDepth 100000
open Go.RowKit
set_option linter.unusedVariables false
set_option linter.unusedSimpArgs false

/-- the steps of a logarithm's sum, as names -/
theorem logY_names {f : Nat} (hf : f < 18446744073709551616) : ∃ t a s z u q y : Nat, t = fsub f ONE ∧ a = fadd TWO t ∧ s = fdiv t a ∧ z = fmul s s ∧ u = fadd s s ∧ q = fmul (logP z) z ∧ y = fmul u q ∧ logY f = fadd u y ∧
    t < 18446744073709551616 ∧ a < 18446744073709551616 ∧ s < 18446744073709551616 ∧ z < 18446744073709551616 ∧ u < 18446744073709551616 ∧ q < 18446744073709551616 ∧ y < 18446744073709551616 := by
  have ht := fsub_lt (a := f) (b := ONE) hf
  have ha := fadd_lt (a := TWO) (b := fsub f ONE) (by rw [TWO_lit]; omega) ht
  have hs := fdiv_lt (fsub f ONE) (fadd TWO (fsub f ONE))
  exact ⟨_, _, _, _, _, _, _, rfl, rfl, rfl, rfl, rfl, rfl, rfl, rfl, ht, ha, hs, fmul_lt _ _, fadd_lt hs hs, fmul_lt _ _, fmul_lt _ _⟩
theorem logY_lt {f : Nat} (hf : f < 18446744073709551616) : logY f < 18446744073709551616 := by
  obtain ⟨t, a, s, z, u, q, y, _, _, _, _, _, _, _, e, _, _, _, _, hu, _, hy⟩ := logY_names hf
  rw [e]; exact fadd_lt hu hy

set_option maxHeartbeats 2000000 in
theorem kn_logSeries {f : Nat} (hf : f < 18446744073709551616) (w : World) :
    Calls Tryz.prog 171 #[.int .u64 f] w (RetW (logY f) w) := by
  obtain ⟨t, a, s, z, u, q, y, et, ea, es, ez, eu, eq_, ey, eY, ht, ha, hs, hz, hu, hq, hy⟩ := logY_names hf
  rw [eY]
  clear eY
  have I1 : ∀ w1, Calls Tryz.prog 165 #[.int .i64 1] w1 (RetW ONE w1) := by
    intro w1
    rw [← int_1]
    exact fr_int 1 (by omega) (by omega) w1
  have I2 : ∀ w1, Calls Tryz.prog 165 #[.int .i64 2] w1 (RetW TWO w1) := by
    intro w1
    rw [← int_2]
    exact fr_int 2 (by omega) (by omega) w1
  have A1 := fun w1 => fs_sub hf (b := ONE) (by rw [ONE_lit]; omega) w1
  rw [← et] at A1
  have A2 := fun w1 => fs_add (a := TWO) (b := t) (by rw [TWO_lit]; omega) ht w1
  rw [← ea] at A2
  have A3 := fun w1 => fp_div ht ha w1
  rw [← es] at A3
  have A4 := fun w1 => fp_mul hs hs w1
  rw [← ez] at A4
  have A5 := fun w1 => kn_inv 21 (by omega) (by omega) w1
  rw [log_tab0, ← logS_0 z] at A5
  have A6 := fun w1 => fs_add hs hs w1
  rw [← eu] at A6
  have A7 := fun w1 => fp_mul (a := logP z) (by rw [← logS_end]; exact logS_lt z (by omega)) hz w1
  rw [← eq_, ← logS_end] at A7
  have A8 := fun w1 => fp_mul hu hq w1
  rw [← ey] at A8
  have A9 := fun w1 => fs_add hu hy w1
  clear et ea es ez eu eq_ ey
  generalize ONE = o at *
  generalize TWO = o2 at *
  generalize fadd u y = Y at *
  have HI1 := Lib.hid I1
  have HI2 := Lib.hid I2
  have H1 := Lib.hid A1
  have H2 := Lib.hid A2
  have H3 := Lib.hid A3
  have H4 := Lib.hid A4
  have H5 := Lib.hid A5
  have H6 := Lib.hid A6
  have H7 := Lib.hid A7
  have H8 := Lib.hid A8
  have H9 := Lib.hid A9
  clear I1 I2 A1 A2 A3 A4 A5 A6 A7 A8 A9
  go_enter Tryz.func171, Tryz.ntmps171
  go_wp2_with fail
  with_reducible refine (HI1.out _).mono ?_
  rintro _ w1 ⟨rfl, b1⟩
  go_wp2_with fail
  with_reducible refine (H1.out _).mono ?_
  rintro _ w2 ⟨rfl, b2⟩
  go_wp2_with fail
  with_reducible refine (HI2.out _).mono ?_
  rintro _ w3 ⟨rfl, b3⟩
  go_wp2_with fail
  with_reducible refine (H2.out _).mono ?_
  rintro _ w4 ⟨rfl, b4⟩
  go_wp2_with fail
  with_reducible refine (H3.out _).mono ?_
  rintro _ w5 ⟨rfl, b5⟩
  go_wp2_with fail
  with_reducible refine (H4.out _).mono ?_
  rintro _ w6 ⟨rfl, b6⟩
  go_wp2_with fail
  with_reducible refine (H5.out _).mono ?_
  rintro _ w7 ⟨rfl, b7⟩
  have y7 := bbw b1 (bbw b2 (bbw b3 (bbw b4 (bbw b5 (bbw b6 b7)))))
  clear b1 b2 b3 b4 b5 b6 b7
  go_wp2_with fail
  go_loopw [6, 21] (fun p iv wr => ∃ (i q : Nat), i ≤ 9 ∧ iv = .int .i64 i ∧ p = .int .u64 q ∧ Hid (q = logS z i) ∧ Below w.heap.size w wr) (fun _ iv _ => 9 - mes iv)
  case atStart => exact ⟨0, _, by omega, rfl, rfl, Lib.hid rfl, y7⟩
  case round =>
    clear y7
    obtain ⟨i, p, hi, rfl, rfl, HQ, hb⟩ := hrel
    by_cases h9 : i = 9
    · subst h9
      obtain rfl := HQ.out
      go_wp2_with fail
      with_reducible refine (H6.out _).mono ?_
      rintro _ w2 ⟨rfl, b2⟩
      go_wp2_with fail
      with_reducible refine (H7.out _).mono ?_
      rintro _ w3 ⟨rfl, b3⟩
      go_wp2_with fail
      with_reducible refine (H8.out _).mono ?_
      rintro _ w4 ⟨rfl, b4⟩
      go_wp2_with fail
      with_reducible refine (H9.out _).mono ?_
      rintro _ w5 ⟨rfl, b5⟩
      go_wp2_with fail
      go_ret
      exact ⟨rfl, bbw hb (bbw b2 (bbw b3 (bbw b4 b5)))⟩
    · have hi2 : i < 9 := by omega
      have ht3 := log_tab i hi2
      obtain ⟨v, hv⟩ : ∃ v : Int, 2 * (9 - (i : Int)) + 1 = v := ⟨_, rfl⟩
      rw [show 19 - 2 * (i : Int) = v by omega] at ht3
      have hp : p < 18446744073709551616 := by rw [HQ.out]; exact logS_lt z (by omega)
      have A2 := fun w1 => kn_next hp hz v (by omega) (by omega) w1
      rw [ht3, HQ.out, ← logS_next z hi2, ← HQ.out] at A2
      have HN := Lib.hid A2
      clear A2 ht3
      go_wp2_with fail
      with_reducible refine (HN.out _).mono ?_
      rintro _ w2 ⟨rfl, b2⟩
      go_wp2_with fail
      go_roundw
      case rel => exact ⟨i + 1, _, by omega, vint (by omega), rfl, Lib.hid rfl, bbw hb b2⟩
      case measure => simp [mes, intOf]; omega

theorem lf_lt {x : Nat} (hk : kd x = 1 ∨ kd x = 2) : lf x < 18446744073709551616 := by
  have := (lf0_word (sig_pos hk)).2.2.2
  unfold lf
  split <;> omega
set_option maxHeartbeats 4000000 in
theorem kn_log {x : Nat} (hx : x < 18446744073709551616) (w : World) :
    Calls Tryz.prog 103 #[.int .u64 x] w (RetW (flog x) w) := by
  have K := Lib.hid (fb_kind hx w)
  have N := Lib.hid (fb_neg hx w)
  have hkc := (kd_cases x).1
  by_cases h0 : kd x = 0
  · have e : flog x = sg true INF := by unfold flog; rw [if_pos h0]
    rw [e]
    rw [h0] at K
    have IN := Lib.hid (fb_inf true w)
    generalize sg true INF = v at *
    go_enter Tryz.func103, Tryz.ntmps103
    go_wp2_with fail
    refine K.out.mono ?_
    rintro _ w' ⟨rfl, rfl⟩
    go_wp2_with fail
    refine IN.out.mono ?_
    rintro _ w' ⟨rfl, rfl⟩
    go_wp2_with fail
    go_ret
    exact ⟨rfl, Below.refl _ _⟩
  have g0 : ((kd x : Int) == 0) = false := by simp; omega
  by_cases h4 : kd x = 4
  · have e : flog x = NAN := by unfold flog; rw [if_neg h0, if_pos (.inl h4)]
    rw [e]
    rw [h4] at K
    have NA := Lib.hid (fb_nan w)
    generalize NAN = v at *
    go_enter Tryz.func103, Tryz.ntmps103
    go_wp2_with fail
    refine K.out.mono ?_
    rintro _ w' ⟨rfl, rfl⟩
    go_wp2_with fail
    refine NA.out.mono ?_
    rintro _ w' ⟨rfl, rfl⟩
    go_wp2_with fail
    go_ret
    exact ⟨rfl, Below.refl _ _⟩
  have g4 : ((kd x : Int) == 4) = false := by simp; omega
  cases hn : ng x
  case true =>
    have e : flog x = NAN := by unfold flog; rw [if_neg h0, if_pos (.inr hn)]
    rw [e]
    rw [hn] at N
    have NA := Lib.hid (fb_nan w)
    generalize NAN = v at *
    generalize kd x = k at *
    go_enter Tryz.func103, Tryz.ntmps103
    go_wp2_with fail
    refine K.out.mono ?_
    rintro _ w' ⟨rfl, rfl⟩
    go_wp2_with fail
    refine N.out.mono ?_
    rintro _ w' ⟨rfl, rfl⟩
    go_wp2_with fail
    refine NA.out.mono ?_
    rintro _ w' ⟨rfl, rfl⟩
    go_wp2_with fail
    go_ret
    exact ⟨rfl, Below.refl _ _⟩
  case false =>
  rw [hn] at N
  by_cases h3 : kd x = 3
  · have e : flog x = x := by unfold flog; rw [if_neg h0, if_neg (by rw [hn]; simp; omega), if_pos h3]
    rw [e]
    rw [h3] at K
    go_enter Tryz.func103, Tryz.ntmps103
    go_wp2_with fail
    refine K.out.mono ?_
    rintro _ w' ⟨rfl, rfl⟩
    go_wp2_with fail
    refine N.out.mono ?_
    rintro _ w' ⟨rfl, rfl⟩
    go_wp2_with fail
    go_ret
    exact ⟨rfl, Below.refl _ _⟩
  have g3 : ((kd x : Int) == 3) = false := by simp; omega
  have hk : kd x = 1 ∨ kd x = 2 := by omega
  obtain ⟨_, c2, c3, _, _⟩ := lk_cases hx hk hn
  have hlk : -1074 ≤ lk x ∧ lk x ≤ 1024 := by unfold lk; split <;> omega
  have e : flog x = logZ (lf x) (lk x) := by unfold flog; rw [if_neg h0, if_neg (by rw [hn]; simp; omega), if_neg h3]
  have SP := kn_split hx hk hn w
  have LS := fun w1 => kn_logSeries (lf_lt hk) w1
  have hYl := logY_lt (lf_lt hk)
  have hZ : logZ (lf x) (lk x) = if lk x = 0 then logY (lf x) else fadd (fmul (fint (lk x)) LL) (fadd (logY (lf x)) (fmul (fint (lk x)) ll)) := rfl
  rw [e]
  clear e
  generalize logZ (lf x) (lk x) = Z at *
  generalize logY (lf x) = Y at *
  generalize lf x = f at *
  generalize kd x = kx at *
  generalize lk x = k at *
  have HSP := Lib.hid SP
  have HLS := Lib.hid LS
  clear SP LS hk hn h0 h3 h4
  by_cases hk0 : k = 0
  · subst hk0
    rw [if_pos rfl] at hZ
    subst hZ
    go_enter Tryz.func103, Tryz.ntmps103
    go_wp2_with fail
    refine K.out.mono ?_
    rintro _ w' ⟨rfl, rfl⟩
    go_wp2_with fail
    refine N.out.mono ?_
    rintro _ w' ⟨rfl, rfl⟩
    go_wp2_with fail
    with_reducible refine HSP.out.mono ?_
    rintro _ w1 ⟨rfl, b1⟩
    go_wp2_with fail
    with_reducible refine (HLS.out _).mono ?_
    rintro _ w2 ⟨rfl, b2⟩
    go_wp2_with fail
    go_ret
    exact ⟨rfl, bbw b1 b2⟩
  · rw [if_neg hk0] at hZ
    have T := fun w1 => kn_ln2 k (by omega) (by omega) w1
    have A1 := fun w1 => fs_add hYl (fmul_lt (fint k) ll) w1
    have A2 := fun w1 => fs_add (fmul_lt (fint k) LL) (fadd_lt hYl (fmul_lt (fint k) ll)) w1
    rw [← hZ] at A2
    clear hZ
    generalize fadd Y (fmul (fint k) ll) = D at *
    generalize fmul (fint k) LL = U at *
    generalize fmul (fint k) ll = V at *
    have HT := Lib.hid T
    have HA1 := Lib.hid A1
    have HA2 := Lib.hid A2
    clear T A1 A2
    go_enter Tryz.func103, Tryz.ntmps103
    go_wp2_with fail
    refine K.out.mono ?_
    rintro _ w' ⟨rfl, rfl⟩
    go_wp2_with fail
    refine N.out.mono ?_
    rintro _ w' ⟨rfl, rfl⟩
    go_wp2_with fail
    with_reducible refine HSP.out.mono ?_
    rintro _ w1 ⟨rfl, b1⟩
    go_wp2_with fail
    with_reducible refine (HLS.out _).mono ?_
    rintro _ w2 ⟨rfl, b2⟩
    have g5 : (k == 0) = false := by simp; omega
    go_wp2_with fail
    with_reducible refine (HT.out _).mono ?_
    rintro _ w3 ⟨rfl, b3⟩
    go_wp2_with fail
    with_reducible refine (HA1.out _).mono ?_
    rintro _ w4 ⟨rfl, b4⟩
    go_wp2_with fail
    with_reducible refine (HA2.out _).mono ?_
    rintro _ w5 ⟨rfl, b5⟩
    go_wp2_with fail
    go_ret
    exact ⟨rfl, bbw b1 (bbw b2 (bbw b3 (bbw b4 b5)))⟩

end Go.Proofs.YtibgpeaplmcogaaGreatDoor
