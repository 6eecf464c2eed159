/-
  What kernel.Log returns for any word. Conditions: the word is below 2^64.
-/
import Derived.Test.YtmoahgiklgicgaaDoorFcRunAll
import Derived.Test.YtmoahgiklgicgaaDoorFltRatAll
import Derived.Test.YtmoahgiklgicgaaDoorFpMathAll
import Derived.Test.YtmoahgiklgicgaaDoorRatAddAll
import Derived.Test.YtmoahgiklgicgaaDoorRefDivAll
import Derived.Deep.RegionHeld3
import Derived.Test.YtmoahgiklgicgaaDoorRfMulAll
import Derived.Test.YtmoahgiklgicgaaDoorRfSumAll
namespace Go.Proofs.YtmoahgiklgicgaaDoor
set_option maxRecDepth 100000
open Go.RowKit
set_option linter.unusedVariables false
set_option linter.unusedSimpArgs false

theorem sig_up {b x : Nat} (h : xpo b = x) : 0 < sig b := by
  unfold xpo at h
  unfold sig
  by_cases h0 : fld b = 0
  · rw [if_pos h0] at h; omega
  · rw [if_neg h0]; omega
set_option maxRecDepth 100000 in
set_option maxHeartbeats 4000000 in
theorem rf_near {b : Nat} (hb : b < 18446744073709551616) (w : World) :
    Calls Tryd.prog 27 #[.int .u64 b] w (RetN b w) := by
  unfold RetN
  have F := Lib.hid (rf_finite hb w)
  by_cases hf : fld b < 2047
  · have hfin : fin b = true := decide_eq_true hf
    rw [hfin] at F
    obtain ⟨x1, x2⟩ := xpo_range hf
    have hs := sig_lt b
    have P := Lib.hid (rf_parts hb w)
    have N := fun w1 => rf_neg hb w1
    have hbl : blen (sig b) ≤ 53 := blen_le (by omega)
    have S1 := ref_shl (sl_lit w (sig b : Int) (by unfold U; omega)) (by omega) (xpo b)
    rw [val_one, Int.toNat_natCast] at S1
    obtain ⟨p1, _, _⟩ := dq_parts hf
    have S2 := fun (w1 : World) (A : Option Addr) (n c : Nat) (t : Sl w1 A n c (words (sig b * 2 ^ clampS (xpo b)))) => ref_shr t (by have := t.small p1; omega) (-(xpo b)) (by omega)
    simp only [val_words] at S2
    have BT := fun (w1 : World) (A : Option Addr) (n c : Nat) (Wh : Nat) (t : Sl w1 A n c (words Wh)) (hw : Wh < W ^ 18) => ref_bits t (by have := t.small hw; omega)
    simp only [val_words] at BT
    have hp2 : sig b * 2 ^ clampS (xpo b) / 2 ^ (-(xpo b)).toNat < W ^ 18 := Nat.lt_of_le_of_lt (Nat.div_le_self _ _) p1
    rcases Int.lt_or_le (xpo b) 0 with hl | hl
    · obtain ⟨k, hk⟩ : ∃ k : Nat, xpo b = -(k : Int) := ⟨(-(xpo b)).toNat, by omega⟩
      have hk1 : 1 ≤ k := by omega
      have ho : nok b = true := by unfold nok; rw [decide_eq_true hf, decide_eq_true (by omega)]; rfl
      have hv : nrv b = fnv b := by unfold nrv; rw [if_pos ho]
      have q3 := (near_fits ho).2 k hk1 hk
      rw [ho, hv, fnv_dn hf hk]
      rw [clampS_neg hl, Nat.pow_zero, Nat.mul_one, show (-(xpo b)).toNat = k by omega] at hp2 S2
      rw [clampS_neg hl, Nat.pow_zero, Nat.mul_one] at S1
      have hR : rdiv (sig b) (2 ^ k) = if 2 ^ k < 2 * (sig b % 2 ^ k) ∨ (2 * (sig b % 2 ^ k) = 2 ^ k ∧ sig b / 2 ^ k % 2 = 1) then sig b / 2 ^ k + 1 else sig b / 2 ^ k := rfl
      have hw53 : sig b / 2 ^ k < 9007199254740992 := Nat.lt_of_le_of_lt (Nat.div_le_self _ _) hs
      have hbw : blen (sig b / 2 ^ k) ≤ 53 := blen_le (by omega)
      have hdm := Nat.div_add_mod' (sig b) (2 ^ k)
      have S3 := fun (w1 : World) (A : Option Addr) (n c : Nat) (t : Sl w1 A n c (words (sig b / 2 ^ k))) => ref_shl t (by have := t.small hp2; omega) (-(xpo b))
      simp only [val_words] at S3
      have hc : clampS (-(xpo b)) = k := by rw [show -(xpo b) = (k : Int) by omega]; exact clampS_nat (by omega)
      rw [hc] at S3
      have hpr : sig b / 2 ^ k * 2 ^ k ≤ sig b := by omega
      have hpl : sig b / 2 ^ k * 2 ^ k < W ^ 1 := by rw [Nat.pow_one]; unfold W; omega
      have SB := fun (w1 : World) (A' : Option Addr) (n' c' : Nat) (B : Option Addr) (t1 : Sl w1 B 1 1 [(sig b : Int)]) (t : Sl w1 A' n' c' (words (sig b / 2 ^ k * 2 ^ k))) => ref_nsub t1 t (by omega) (by have := t.small hpl; omega) (by rw [val_words, val_one, Int.toNat_natCast]; exact hpr)
      simp only [val_words, val_one, Int.toNat_natCast] at SB
      rw [show sig b - sig b / 2 ^ k * 2 ^ k = sig b % 2 ^ k by omega] at SB
      have hrl : sig b % 2 ^ k < W ^ 1 := by rw [Nat.pow_one]; unfold W; have := Nat.mod_le (sig b) (2 ^ k); omega
      have hrl2 : 2 * (sig b % 2 ^ k) < W ^ 1 := by rw [Nat.pow_one]; unfold W; have := Nat.mod_le (sig b) (2 ^ k); omega
      have S4 := fun (w1 : World) (A : Option Addr) (n c : Nat) (t : Sl w1 A n c (words (sig b % 2 ^ k))) => ref_shl t (by have := t.small hrl; omega) 1
      simp only [val_words] at S4
      rw [show clampS 1 = 1 by decide, Nat.pow_one, Nat.mul_comm (sig b % 2 ^ k) 2] at S4
      have S5 := fun w1 => ref_shl (sl_lit w1 1 U_1) (by omega) (-(xpo b))
      rw [val_one, show (1 : Int).toNat = 1 from rfl, Nat.one_mul, hc] at S5
      have hTl : 2 ^ k < W ^ 18 := pow_lt_W (by omega)
      have CM := fun (w1 : World) (A A' : Option Addr) (n n' c c' : Nat) (t1 : Sl w1 A n c (words (2 * (sig b % 2 ^ k)))) (t2 : Sl w1 A' n' c' (words (2 ^ k))) => ref_cmp t1 t2 (by have := t1.small hrl2; omega) (by have := t2.small hTl; omega)
      simp only [val_words] at CM
      have hmr : sig b % 2 ^ k < 2 ^ k := Nat.mod_lt _ (Nat.two_pow_pos k)
      clear p1 hpr hpl hrl hrl2 hTl hdm
      generalize rdiv (sig b) (2 ^ k) = R at *
      generalize sig b / 2 ^ k * 2 ^ k = Y at *
      generalize sig b / 2 ^ k = Wh at *
      generalize sig b % 2 ^ k = r at *
      generalize 2 ^ k = T at *
      have BT2 := Lib.hid (fun (w1 : World) (A : Option Addr) (n c : Nat) (t : Sl w1 A n c (words Wh)) => BT w1 A n c Wh t hp2)
      clear hc BT hp2 hv ho
      generalize blen Wh = nb at *
      generalize blen (sig b) = nb2 at *
      generalize sig b = m at *
      generalize xpo b = z at *
      generalize ng b = s at *
      obtain ⟨cv, hcv⟩ : ∃ cv : Int, cmpN (2 * r) T = cv := ⟨_, rfl⟩
      have hcc : (2 * r < T ∧ cv = -1) ∨ (2 * r = T ∧ cv = 0) ∨ (T < 2 * r ∧ cv = 1) := by
        rw [← hcv]
        rcases Nat.lt_trichotomy (2 * r) T with h | h | h
        · exact .inl ⟨h, cmpN_lt h⟩
        · exact .inr (.inl ⟨h, by rw [h]; exact cmpN_eq _⟩)
        · exact .inr (.inr ⟨h, cmpN_gt h⟩)
      rw [hcv] at CM
      have hsR : sI s R = if s = true then -(R : Int) else R := rfl
      have HR := Lib.hid hR
      have HsR := Lib.hid hsR
      have HC := Lib.hid hcc
      have HS1 := Lib.hid S1
      have HS2 := Lib.hid S2
      have HS3 := Lib.hid S3
      have HS4 := Lib.hid S4
      have HS5 := Lib.hid S5
      have HSB := Lib.hid SB
      have HCM := Lib.hid CM
      have HN := Lib.hid N
      clear hR hsR hcc S1 S2 S3 S4 S5 SB CM N hcv hk hmr
      go_enter Tryd.func27, Tryd.ntmps27
      go_wp2_with fail
      refine F.out.mono ?_
      rintro _ w' ⟨rfl, rfl⟩
      go_wp2_with fail
      refine P.out.mono ?_
      rintro _ w' ⟨rfl, rfl⟩
      go_wp2_with fail
      with_reducible refine HS1.out.mono ?_
      rintro _ w1 ⟨A1, n1, c1, rfl, t1, b1⟩
      have y1 := bb (below_alloc w _) b1
      go_wp2_with fail
      with_reducible refine (HS2.out _ _ _ _ t1).mono ?_
      rintro _ w2 ⟨A2, n2, c2, rfl, t2, b2⟩
      have y2 := bb y1 b2
      clear t1 b1 b2 y1
      go_wp2_with fail
      with_reducible refine (BT2.out _ _ _ _ t2).mono ?_
      rintro _ w' ⟨rfl, rfl⟩
      go_upto_if 30 with (fail)
      go_cut [7] (fun s7 wx => s7 = .int .i64 Wh ∧ w2 = wx)
      case first =>
        rcases Nat.eq_zero_or_pos Wh with h0 | h0
        · subst h0
          obtain rfl := sl_zero t2
          go_wp2_with fail
          go_meet
          exact ⟨rfl, rfl⟩
        · obtain ⟨rfl, p, o, rfl, hcell⟩ := sl_onew t2 h0 (by unfold W; omega)
          go_wp2_with fail
          go_meet
          exact ⟨rfl, rfl⟩
      case rest =>
      obtain ⟨rfl, rfl⟩ := hcut
      go_wp2_with fail
      with_reducible refine (HS3.out _ _ _ _ (t2.below (below_alloc _ _))).mono ?_
      rintro _ w3 ⟨A3, n3, c3, rfl, t3, b3⟩
      have L3 := (sl_lit w2 (m : Int) (by unfold U; omega)).below b3
      have y3 := bb y2 (bb (below_alloc w2 _) b3)
      go_wp2_with fail
      with_reducible refine (HSB.out _ _ _ _ _ L3 t3).mono ?_
      rintro _ w4 ⟨A4, n4, c4, rfl, t4, b4⟩
      have y4 := bb y3 b4
      clear t2 t3 b3 L3 b4 y3
      go_wp2_with fail
      with_reducible refine (HS4.out _ _ _ _ t4).mono ?_
      rintro _ w5 ⟨A5, n5, c5, rfl, t5, b5⟩
      have y5 := bb y4 b5
      go_wp2_with fail
      with_reducible refine (HS5.out _).mono ?_
      rintro _ w6 ⟨A6, n6, c6, rfl, t6, b6⟩
      have t7 := t5.below (bb (below_alloc w5 _) b6)
      have y6 := bb y5 (bb (below_alloc w5 _) b6)
      clear t4 t5 b5 b6 y5 y4
      go_wp2_with fail
      with_reducible refine (HCM.out _ _ _ _ _ _ _ t7 t6).mono ?_
      rintro _ w' ⟨rfl, rfl⟩
      clear t6 t7
      have h9 := HR.out
      rcases HC.out with ⟨h, rfl⟩ | ⟨h, rfl⟩ | ⟨h, rfl⟩
      · rw [if_neg (by omega)] at h9
        have H9 := Lib.hid h9
        clear HR HC h9
        go_wp2_with fail
        refine (HN.out _).mono ?_
        rintro _ w' ⟨rfl, rfl⟩
        cases s
        · go_wp2_with fail
          go_ret2
          exact ⟨retN (by rw [HsR.out, H9.out]; simp) rfl, y6⟩
        · go_wp2_with fail
          go_ret2
          exact ⟨retN (by rw [HsR.out, H9.out]; simp) rfl, y6⟩
      · by_cases hodd : Wh % 2 = 1
        · rw [if_pos (by omega)] at h9
          have hm : (Wh : Int).tmod 2 = 1 := by rw [Int.tmod_eq_emod_of_nonneg (by omega)]; omega
          have H9 := Lib.hid h9
          clear HR HC h9
          go_wp2_with fail
          refine (HN.out _).mono ?_
          rintro _ w' ⟨rfl, rfl⟩
          cases s
          · go_wp2_with fail
            go_ret2
            exact ⟨retN (by rw [HsR.out, H9.out]; simp) rfl, y6⟩
          · go_wp2_with fail
            go_ret2
            exact ⟨retN (by rw [HsR.out, H9.out]; simp) rfl, y6⟩
        · rw [if_neg (by omega)] at h9
          have hm : (Wh : Int).tmod 2 = 0 := by rw [Int.tmod_eq_emod_of_nonneg (by omega)]; omega
          have H9 := Lib.hid h9
          clear HR HC h9
          go_wp2_with fail
          refine (HN.out _).mono ?_
          rintro _ w' ⟨rfl, rfl⟩
          cases s
          · go_wp2_with fail
            go_ret2
            exact ⟨retN (by rw [HsR.out, H9.out]; simp) rfl, y6⟩
          · go_wp2_with fail
            go_ret2
            exact ⟨retN (by rw [HsR.out, H9.out]; simp) rfl, y6⟩
      · rw [if_pos (by omega)] at h9
        have H9 := Lib.hid h9
        clear HR HC h9
        go_wp2_with fail
        refine (HN.out _).mono ?_
        rintro _ w' ⟨rfl, rfl⟩
        cases s
        · go_wp2_with fail
          go_ret2
          exact ⟨retN (by rw [HsR.out, H9.out]; simp) rfl, y6⟩
        · go_wp2_with fail
          go_ret2
          exact ⟨retN (by rw [HsR.out, H9.out]; simp) rfl, y6⟩
    · obtain ⟨x, hx⟩ : ∃ x : Nat, xpo b = x := ⟨(xpo b).toNat, by omega⟩
      have h0 := sig_up hx
      have hbw := blen_mul_pow h0 x
      rw [clampS_mid hl (by omega), show (xpo b).toNat = x by omega, show (-(xpo b)).toNat = 0 by omega, Nat.pow_zero, Nat.div_one] at hp2 S2
      rw [clampS_mid hl (by omega), show (xpo b).toNat = x by omega] at S1
      have hok : nok b = true ∧ nrv b = sI (ng b) (sig b * 2 ^ x) ∧ blen (sig b * 2 ^ x) ≤ 62 ∧ sig b * 2 ^ x < 4611686018427387904 ∨ nok b = false ∧ nrv b = 0 ∧ 62 < blen (sig b * 2 ^ x) := by
        by_cases hn : (blen (sig b) : Int) + xpo b ≤ 62
        · have ho : nok b = true := by unfold nok; rw [decide_eq_true hf, decide_eq_true hn]; rfl
          refine .inl ⟨ho, by unfold nrv; rw [if_pos ho, fnv_up hf hx], by omega, (near_fits ho).1 x hx⟩
        · have ho : nok b = false := by unfold nok; rw [decide_eq_true hf, decide_eq_false hn]; rfl
          exact .inr ⟨ho, by unfold nrv; rw [ho]; rfl, by omega⟩
      have hW0 : 0 < sig b * 2 ^ x := Nat.mul_pos h0 (Nat.two_pow_pos x)
      clear p1 hbw h0
      generalize sig b * 2 ^ x = Wh at *
      have BT2 := Lib.hid (fun (w1 : World) (A : Option Addr) (n c : Nat) (t : Sl w1 A n c (words Wh)) => BT w1 A n c Wh t hp2)
      clear BT hp2
      generalize blen Wh = nb at *
      generalize blen (sig b) = nb2 at *
      generalize sig b = m at *
      generalize nrv b = RV at *
      generalize nok b = OK at *
      generalize xpo b = z at *
      generalize ng b = s at *
      have HS1 := Lib.hid S1
      have HS2 := Lib.hid S2
      have HN := Lib.hid N
      clear S1 S2 N hx
      go_enter Tryd.func27, Tryd.ntmps27
      go_wp2_with fail
      refine F.out.mono ?_
      rintro _ w' ⟨rfl, rfl⟩
      go_wp2_with fail
      refine P.out.mono ?_
      rintro _ w' ⟨rfl, rfl⟩
      go_wp2_with fail
      with_reducible refine HS1.out.mono ?_
      rintro _ w1 ⟨A1, n1, c1, rfl, t1, b1⟩
      have y1 := bb (below_alloc w _) b1
      go_wp2_with fail
      with_reducible refine (HS2.out _ _ _ _ t1).mono ?_
      rintro _ w2 ⟨A2, n2, c2, rfl, t2, b2⟩
      have y2 := bb y1 b2
      clear t1 b1 b2 y1
      go_wp2_with fail
      with_reducible refine (BT2.out _ _ _ _ t2).mono ?_
      rintro _ w' ⟨rfl, rfl⟩
      rcases hok with ⟨rfl, rfl, hnb, hWh⟩ | ⟨rfl, rfl, hnb⟩
      · obtain ⟨rfl, p, o, rfl, hcell⟩ := sl_onew t2 hW0 (by unfold W; omega)
        clear HS1 HS2 BT2 t2
        have hsR : sI s Wh = if s = true then -(Wh : Int) else Wh := rfl
        have HsR := Lib.hid hsR
        clear hsR
        go_wp2_with fail
        refine (HN.out _).mono ?_
        rintro _ w' ⟨rfl, rfl⟩
        cases s
        · go_wp2_with fail
          go_ret2
          exact ⟨retN (by rw [HsR.out]; simp) rfl, y2⟩
        · go_wp2_with fail
          go_ret2
          exact ⟨retN (by rw [HsR.out]; simp) rfl, y2⟩
      · have hd : decide (62 < (nb : Int)) = true := decide_eq_true (by omega)
        go_wp2_with fail
        go_ret2
        exact ⟨rfl, y2⟩
  · have hfin : fin b = false := decide_eq_false hf
    rw [hfin] at F
    have ho : nok b = false := by unfold nok; rw [decide_eq_false hf]; rfl
    have hv : nrv b = 0 := by unfold nrv; rw [ho]; rfl
    rw [ho, hv]
    go_enter Tryd.func27, Tryd.ntmps27
    go_wp2_with fail
    refine F.out.mono ?_
    rintro _ w' ⟨rfl, rfl⟩
    go_wp2_with fail
    go_ret2
    exact ⟨rfl, Below.refl _ _⟩

end Go.Proofs.YtmoahgiklgicgaaDoor

namespace Go.Proofs.YtmoahgiklgicgaaDoor
set_option maxRecDepth 100000
open Go.RowKit
set_option linter.unusedVariables false
set_option linter.unusedSimpArgs false

theorem fromQ_zero {X : Rat} (h : X.num.natAbs = 0) : fromQ X = 0 := by
  unfold fromQ
  rw [neg_zero_ X h, h, magR_zero]; rfl
theorem fromQ_exact {X : Rat} {sh : Nat} (h : X.num.natAbs * 2 ^ sh % X.den = 0) : sg (neg_ X) (magM (X.num.natAbs * 2 ^ sh / X.den) (-(sh : Int)) false) = fromQ X := by
  unfold fromQ
  rw [magM_no, quot_exact (Nat.pos_of_ne_zero (den_ne X)) h]
theorem fromQ_sticky {X : Rat} {sh : Nat} (h0 : 0 < X.num.natAbs) (hs : 64 + blen X.den ≤ blen X.num.natAbs + sh) (h : X.num.natAbs * 2 ^ sh % X.den ≠ 0) : sg (neg_ X) (magM (X.num.natAbs * 2 ^ sh / X.den) (-(sh : Int)) true) = fromQ X := by
  unfold fromQ
  rw [magM_yes, quot_sticky (Nat.pos_of_ne_zero (den_ne X)) h0 hs h]

set_option maxRecDepth 100000 in
set_option maxHeartbeats 4000000 in
theorem rf_int (z : Int) (h1 : -9223372036854775808 ≤ z) (h2 : z ≤ 9223372036854775807) (w : World) :
    Calls Tryd.prog 25 #[.int .i64 z] w (RetW (sg (decide (z < 0)) (magR z.natAbs 1 0)) w) := by
  have OF := fun w1 => ref_of z h1 h2 w1
  have hsz := sz_of z h1 h2
  have RO := fun (w1 : World) (s : Bool) (A A' : Option Addr) (n n' c c' : Nat) (q : Q w1 s A n c A' n' c' (z : Rat)) => rf_of s q.2.1 (by have := q.2.1.small hsz.1; omega) (e := 0) (by omega) (by omega)
  rw [val_words, Rat.num_intCast] at RO
  have hng : neg_ (z : Rat) = decide (z < 0) := by unfold neg_; rw [Rat.num_intCast]
  generalize (z : Rat) = X at *
  have HOF := Lib.hid OF
  have HRO := Lib.hid RO
  clear OF RO hsz
  go_enter Tryd.func25, Tryd.ntmps25
  go_wp2_with fail
  refine (HOF.out _).mono ?_
  rintro _ w1 ⟨s1, A1, n1, c1, A2, n2, c2, rfl, q1, b1⟩
  obtain ⟨w2, hV2, B2, b2⟩ := box0 51 w1 #[.bool s1, .slice A1 n1 c1, .slice A2 n2 c2]
  obtain ⟨⟨k0, k1, k2⟩, _, _, _⟩ := B2.three
  have HV2 := Lib.hid hV2
  have hs1 := q1.1
  rw [hng] at hs1
  have HS1 := Lib.hid hs1
  clear hV2 B2 hs1 hng
  go_wp2_with fail
  rw [HV2.out]
  with_reducible refine (HRO.out _ _ _ _ _ _ _ _ (q1.below b2)).mono ?_
  rintro _ w3 ⟨rfl, b3⟩
  go_wp2_with fail
  go_ret
  exact ⟨by rw [HS1.out]; rfl, bb b1 (bb b2 b3)⟩

end Go.Proofs.YtmoahgiklgicgaaDoor

namespace Go.Proofs.YtmoahgiklgicgaaDoor
set_option maxRecDepth 100000
open Go.RowKit
set_option linter.unusedVariables false
set_option linter.unusedSimpArgs false

theorem rk_int (n : Int) (h1 : -9223372036854775808 ≤ n) (h2 : n ≤ 9223372036854775807) (w : World) :
    Calls Tryd.prog 25 #[.int .i64 n] w (RetW (fint n) w) := rf_int n h1 h2 w
theorem rk_by (n : Int) (h1 : -9223372036854775808 ≤ n) (h2 : n ≤ 9223372036854775807) (w : World) :
    Calls Tryd.prog 30 #[.int .i64 n] w (RetW (inv1 n) w) := by
  have A2 := fun w1 => rk_int n h1 h2 w1
  have A3 : ∀ w1, Calls Tryd.prog 38 #[.int .u64 4607182418800017408, .int .u64 (fint n)] w1 (RetW (inv1 n) w1) := by
    intro w1
    unfold inv1
    rw [int_1, ONE_lit]
    exact rf_div (a := 4607182418800017408) (by omega) (fint_lt n) w1
  generalize inv1 n = r at *
  generalize fint n = y at *
  have H2 := Lib.hid A2
  have H3 := Lib.hid A3
  clear A2 A3
  go_enter Tryd.func30, Tryd.ntmps30
  go_wp2_with fail
  with_reducible refine (H2.out _).mono ?_
  rintro _ w2 ⟨rfl, b2⟩
  go_wp2_with fail
  with_reducible refine (H3.out _).mono ?_
  rintro _ w3 ⟨rfl, b3⟩
  go_wp2_with fail
  go_ret
  exact ⟨rfl, bbw b2 b3⟩
set_option maxHeartbeats 1000000 in
theorem rk_fact {n : Nat} (hn : n ≤ 13) (w : World) :
    Calls Tryd.prog 31 #[.int .i64 n] w fun e w' => e = .returned (.int .i64 (facL.getD n 0)) ∧ w = w' := by
  go_enter Tryd.func31, Tryd.ntmps31
  go_wp2_with fail
  go_loopw [3, 6] (fun o iv wr => ∃ (i : Nat) (v : Int), i ≤ n ∧ iv = .int .i64 i ∧ o = .int .i64 v ∧ Hid (v = facL.getD i 0) ∧ w = wr) (fun _ iv _ => 13 - mes iv)
  case atStart => exact ⟨0, 1, by omega, rfl, rfl, Lib.hid rfl, rfl⟩
  case round =>
    obtain ⟨i, v, hi, rfl, rfl, HV, rfl⟩ := hrel
    by_cases h : i = n
    · subst h
      go_wp2_with fail
      go_ret
      exact ⟨ret1 HV.out, rfl⟩
    · have hi2 : i < n := by omega
      have hs := fac_step i (by omega)
      have hl := fac_le (i + 1) (by omega)
      rw [← HV.out] at hs
      obtain ⟨v2, hv2⟩ : ∃ v2 : Int, facL.getD (i + 1) 0 = v2 := ⟨_, rfl⟩
      rw [hv2] at hs hl
      have hm : v * ((i : Int) + 1) = v2 := hs.symm
      have HV2 := Lib.hid hv2
      clear hs hv2 HV
      go_wp2_with fail
      go_roundw
      case rel => exact ⟨i + 1, v2, by omega, vint (by omega), rfl, Lib.hid HV2.out.symm, by trivial⟩
      case measure => simp [mes, intOf]; omega

set_option maxHeartbeats 4000000 in
theorem rk_exp {x : Nat} (hx : x < 18446744073709551616) (w : World) :
    Calls Tryd.prog 6 #[.int .u64 x] w (RetW (fexp x) w) := by
  have K := Lib.hid (rf_kind hx w)
  by_cases h4 : kd x = 4
  · have e : fexp x = NAN := by unfold fexp; rw [if_pos h4]
    rw [e]
    rw [h4] at K
    have N := Lib.hid (rf_nan w)
    generalize NAN = v at *
    go_enter Tryd.func6, Tryd.ntmps6
    go_wp2_with fail
    refine K.out.mono ?_
    rintro _ w' ⟨rfl, rfl⟩
    go_wp2_with fail
    refine N.out.mono ?_
    rintro _ w' ⟨rfl, rfl⟩
    go_wp2_with fail
    go_ret
    exact ⟨rfl, Below.refl _ _⟩
  have g4 : ((kd x : Int) == 4) = false := by simp; omega
  have HI1 := Lib.hid (rk_int 710 (by omega) (by omega) w)
  have L1 := Lib.hid (fun w1 => rf_less (fint_lt 710) hx w1)
  by_cases h1 : fless (fint 710) x = true
  · have e : fexp x = INF := by unfold fexp; rw [if_neg h4, if_pos h1]
    rw [e]
    rw [h1] at L1
    have N := fun w1 => rf_inf false w1
    rw [sg_false] at N
    have HN := Lib.hid N
    generalize fint 710 = c at *
    generalize INF = v at *
    generalize kd x = k at *
    clear N
    go_enter Tryd.func6, Tryd.ntmps6
    go_wp2_with fail
    refine K.out.mono ?_
    rintro _ w' ⟨rfl, rfl⟩
    go_wp2_with fail
    with_reducible refine HI1.out.mono ?_
    rintro _ w1 ⟨rfl, b1⟩
    go_wp2_with fail
    with_reducible refine (L1.out _).mono ?_
    rintro _ w' ⟨rfl, rfl⟩
    go_wp2_with fail
    with_reducible refine (HN.out _).mono ?_
    rintro _ w' ⟨rfl, rfl⟩
    go_wp2_with fail
    go_ret
    exact ⟨rfl, b1⟩
  have h1f : fless (fint 710) x = false := by simpa using h1
  rw [h1f] at L1
  have HI2 := Lib.hid (fun w1 => rk_int (-746) (by omega) (by omega) w1)
  have L2 := Lib.hid (fun w1 => rf_less hx (fint_lt (-746)) w1)
  by_cases h2 : fless x (fint (-746)) = true
  · have e : fexp x = 0 := by unfold fexp; rw [if_neg h4, if_neg h1, if_pos h2]
    rw [e]
    rw [h2] at L2
    clear h1 h1f h2 e
    generalize fint 710 = c at *
    generalize fint (-746) = d at *
    generalize kd x = k at *
    go_enter Tryd.func6, Tryd.ntmps6
    go_wp2_with fail
    refine K.out.mono ?_
    rintro _ w' ⟨rfl, rfl⟩
    go_wp2_with fail
    with_reducible refine HI1.out.mono ?_
    rintro _ w1 ⟨rfl, b1⟩
    go_wp2_with fail
    with_reducible refine (L1.out _).mono ?_
    rintro _ w' ⟨rfl, rfl⟩
    go_wp2_with fail
    with_reducible refine (HI2.out _).mono ?_
    rintro _ w2 ⟨rfl, b2⟩
    go_wp2_with fail
    with_reducible refine (L2.out _).mono ?_
    rintro _ w' ⟨rfl, rfl⟩
    go_wp2_with fail
    go_ret
    exact ⟨rfl, bbw b1 b2⟩
  have h2f : fless x (fint (-746)) = false := by simpa using h2
  rw [h2f] at L2
  have e : fexp x = fscale (expP (expR x)) (fnv (fmul x PP)) := by unfold fexp; rw [if_neg h4, if_neg h1, if_neg h2]
  obtain ⟨_, n1, n2⟩ := expR_half hx (exp_range hx h4 h1 h2)
  have ho := nok_of n2 n1
  have hv : nrv (fmul x PP) = fnv (fmul x PP) := by unfold nrv; rw [if_pos ho]
  have hR : expR x = fsub (fsub x (fmul (fint (fnv (fmul x PP))) LL)) (fmul (fint (fnv (fmul x PP))) ll) := rfl
  have M1 : ∀ w1, Calls Tryd.prog 28 #[.int .u64 x, .int .u64 4609176140021203710] w1 (RetW (fmul x PP) w1) := by
    intro w1
    rw [PP_lit]
    exact rf_mul hx (b := 4609176140021203710) (by omega) w1
  have NR := fun w1 => rf_near (fmul_lt x PP) w1
  unfold RetN at NR
  rw [hv, ho] at NR
  have T1 := fun w1 => rk_int (fnv (fmul x PP)) (by omega) (by omega) w1
  have T2 : ∀ w1, Calls Tryd.prog 28 #[.int .u64 (fint (fnv (fmul x PP))), .int .u64 4604418534311723008] w1 (RetW (fmul (fint (fnv (fmul x PP))) LL) w1) := by
    intro w1
    rw [LL_lit]
    exact rf_mul (fint_lt _) (b := 4604418534311723008) (by omega) w1
  have T3 : ∀ w1, Calls Tryd.prog 28 #[.int .u64 (fint (fnv (fmul x PP))), .int .u64 4461442080421002358] w1 (RetW (fmul (fint (fnv (fmul x PP))) ll) w1) := by
    intro w1
    rw [ll_lit]
    exact rf_mul (fint_lt _) (b := 4461442080421002358) (by omega) w1
  have S1 := fun w1 => rf_sub hx (fmul_lt (fint (fnv (fmul x PP))) LL) w1
  have S2 := fun w1 => rf_sub (fsub_lt (a := x) (b := fmul (fint (fnv (fmul x PP))) LL) hx) (fmul_lt (fint (fnv (fmul x PP))) ll) w1
  rw [← hR] at S2
  have hRl : expR x < 18446744073709551616 := fsub_lt (fsub_lt hx)
  have SC := fun w1 => rf_scale (expP_lt (expR x)) (fnv (fmul x PP)) w1
  rw [← e, ← expS_end] at SC
  clear e hR h1 h1f h2 h2f ho hv n2 h4
  generalize fexp x = E at *
  generalize expR x = ER at *
  generalize fsub x (fmul (fint (fnv (fmul x PP))) LL) = D1 at *
  generalize fmul (fint (fnv (fmul x PP))) LL = U at *
  generalize fmul (fint (fnv (fmul x PP))) ll = V at *
  generalize fnv (fmul x PP) = k at *
  generalize fmul x PP = m at *
  generalize fint k = fk at *
  generalize fint 710 = c at *
  generalize fint (-746) = d at *
  generalize kd x = kx at *
  have F13 := rk_fact (n := 13) (by omega)
  have B13 := fun w1 => rk_by 6227020800 (by omega) (by omega) w1
  rw [exp_tab0, ← expS_0 ER] at B13
  have HF13 := Lib.hid F13
  have HB13 := Lib.hid B13
  have HM := Lib.hid M1
  have HNR := Lib.hid NR
  have HT1 := Lib.hid T1
  have HT2 := Lib.hid T2
  have HT3 := Lib.hid T3
  have HS1 := Lib.hid S1
  have HS2 := Lib.hid S2
  have HSC := Lib.hid SC
  clear M1 NR T1 T2 T3 S1 S2 SC F13 B13
  go_enter Tryd.func6, Tryd.ntmps6
  go_wp2_with fail
  refine K.out.mono ?_
  rintro _ w' ⟨rfl, rfl⟩
  go_wp2_with fail
  with_reducible refine HI1.out.mono ?_
  rintro _ w1 ⟨rfl, b1⟩
  go_wp2_with fail
  with_reducible refine (L1.out _).mono ?_
  rintro _ w' ⟨rfl, rfl⟩
  go_wp2_with fail
  with_reducible refine (HI2.out _).mono ?_
  rintro _ w2 ⟨rfl, b2⟩
  go_wp2_with fail
  with_reducible refine (L2.out _).mono ?_
  rintro _ w' ⟨rfl, rfl⟩
  go_wp2_with fail
  with_reducible refine (HM.out _).mono ?_
  rintro _ w3 ⟨rfl, b3⟩
  go_wp2_with fail
  with_reducible refine (HNR.out _).mono ?_
  rintro _ w4 ⟨rfl, b4⟩
  go_wp2_with fail
  with_reducible refine (HT1.out _).mono ?_
  rintro _ w5 ⟨rfl, b5⟩
  go_wp2_with fail
  with_reducible refine (HT2.out _).mono ?_
  rintro _ w6 ⟨rfl, b6⟩
  go_wp2_with fail
  with_reducible refine (HS1.out _).mono ?_
  rintro _ w7 ⟨rfl, b7⟩
  go_wp2_with fail
  with_reducible refine (HT3.out _).mono ?_
  rintro _ w8 ⟨rfl, b8⟩
  go_wp2_with fail
  with_reducible refine (HS2.out _).mono ?_
  rintro _ w9 ⟨rfl, b9⟩
  have y9 := bbw b1 (bbw b2 (bbw b3 (bbw b4 (bbw b5 (bbw b6 (bbw b7 (bbw b8 b9)))))))
  clear b1 b2 b3 b4 b5 b6 b7 b8 b9 HM HNR HT1 HT2 HT3 HS1 HS2 HI1 HI2 L1 L2
  go_wp2_with fail
  refine (HF13.out _).mono ?_
  rintro _ w' ⟨rfl, rfl⟩
  go_wp2_with fail
  refine (HB13.out _).mono ?_
  rintro _ w10 ⟨rfl, b10⟩
  have y10 := bbw y9 b10
  clear y9 b10 HF13 HB13
  go_wp2_with fail
  go_loopw [7, 38] (fun p iv wr => ∃ (i q : Nat), i ≤ 13 ∧ iv = .int .i64 i ∧ p = .int .u64 q ∧ Hid (q = expS ER i) ∧ Below w.heap.size w wr) (fun _ iv _ => 13 - mes iv)
  case atStart => exact ⟨0, _, by omega, rfl, rfl, Lib.hid rfl, y10⟩
  case round =>
    clear y10
    obtain ⟨i, q, hi, rfl, rfl, HQ, hb⟩ := hrel
    by_cases h13 : i = 13
    · subst h13
      obtain rfl := HQ.out
      go_wp2_with fail
      with_reducible refine (HSC.out _).mono ?_
      rintro _ w2 ⟨rfl, b2⟩
      go_wp2_with fail
      go_ret
      exact ⟨rfl, bbw hb b2⟩
    · have hi2 : i < 13 := by omega
      obtain ⟨t, ht⟩ : ∃ t : Nat, (12 : Int) - i = t := ⟨12 - i, by omega⟩
      have ht2 : t = 12 - i := by omega
      have FT := fun w1 => rk_fact (n := t) (by omega) w1
      have hv1 := fac_le t (by omega)
      have ht3 := exp_tab i hi2
      rw [← ht2] at ht3
      generalize facL.getD t 0 = v at *
      have hq : q < 18446744073709551616 := by rw [HQ.out]; exact expS_lt ER (by omega)
      have A1 := fun w1 => rf_mul hq hRl w1
      have A2 := fun w1 => rk_by v (by omega) (by omega) w1
      have A3 := fun w1 => rf_add (fmul_lt q ER) (inv1_lt v) w1
      have hst : fadd (fmul q ER) (inv1 v) = expS ER (i + 1) := by rw [expS_next ER hi2, ht3, HQ.out]
      rw [hst] at A3
      have HFT := Lib.hid FT
      generalize fmul q ER = y at *
      generalize inv1 v = z at *
      have HA1 := Lib.hid A1
      have HA2 := Lib.hid A2
      have HA3 := Lib.hid A3
      clear A1 A2 A3 FT ht3 ht2 hst
      go_wp2_with fail
      with_reducible refine (HA1.out _).mono ?_
      rintro _ w2 ⟨rfl, b2⟩
      go_wp2_with fail
      with_reducible refine (HFT.out _).mono ?_
      rintro _ w' ⟨rfl, rfl⟩
      go_wp2_with fail
      with_reducible refine (HA2.out _).mono ?_
      rintro _ w3 ⟨rfl, b3⟩
      go_wp2_with fail
      with_reducible refine (HA3.out _).mono ?_
      rintro _ w4 ⟨rfl, b4⟩
      go_wp2_with fail
      go_roundw
      case rel => exact ⟨i + 1, _, by omega, vint (by omega), rfl, Lib.hid rfl, bbw hb (bbw b2 (bbw b3 b4))⟩
      case measure => simp [mes, intOf]; omega

end Go.Proofs.YtmoahgiklgicgaaDoor

namespace Go.Proofs.YtmoahgiklgicgaaDoor
set_option maxRecDepth 100000
open Go.RowKit
set_option linter.unusedVariables false
set_option linter.unusedSimpArgs false

/-- the steps of a logarithm's sum, as names -/
theorem logY_names {f : Nat} (hf : f < 18446744073709551616) : ∃ t a s z u q y : Nat, t = fsub f ONE ∧ a = fadd TWO t ∧ s = fdiv t a ∧ z = fmul s s ∧ u = fadd s s ∧ q = fmul (logP z) z ∧ y = fmul u q ∧ logY f = fadd u y ∧
    t < 18446744073709551616 ∧ a < 18446744073709551616 ∧ s < 18446744073709551616 ∧ z < 18446744073709551616 ∧ u < 18446744073709551616 ∧ q < 18446744073709551616 ∧ y < 18446744073709551616 := by
  have ht := fsub_lt (a := f) (b := ONE) hf
  have ha := fadd_lt (a := TWO) (b := fsub f ONE) (by rw [TWO_lit]; omega) ht
  have hs := fdiv_lt (fsub f ONE) (fadd TWO (fsub f ONE))
  exact ⟨_, _, _, _, _, _, _, rfl, rfl, rfl, rfl, rfl, rfl, rfl, rfl, ht, ha, hs, fmul_lt _ _, fadd_lt hs hs, fmul_lt _ _, fmul_lt _ _⟩
theorem logY_lt {f : Nat} (hf : f < 18446744073709551616) : logY f < 18446744073709551616 := by
  obtain ⟨t, a, s, z, u, q, y, _, _, _, _, _, _, _, e, _, _, _, _, hu, _, hy⟩ := logY_names hf
  rw [e]; exact fadd_lt hu hy

set_option maxHeartbeats 2000000 in
theorem kn_logSeries {f : Nat} (hf : f < 18446744073709551616) (w : World) :
    Calls Tryd.prog 36 #[.int .u64 f] w (RetW (logY f) w) := by
  obtain ⟨t, a, s, z, u, q, y, et, ea, es, ez, eu, eq_, ey, eY, ht, ha, hs, hz, hu, hq, hy⟩ := logY_names hf
  rw [eY]
  clear eY
  have I1 : ∀ w1, Calls Tryd.prog 16 #[.int .i64 1] w1 (RetW ONE w1) := by
    intro w1
    rw [← int_1]
    exact fr_int 1 (by omega) (by omega) w1
  have I2 : ∀ w1, Calls Tryd.prog 16 #[.int .i64 2] w1 (RetW TWO w1) := by
    intro w1
    rw [← int_2]
    exact fr_int 2 (by omega) (by omega) w1
  have A1 := fun w1 => fs_sub hf (b := ONE) (by rw [ONE_lit]; omega) w1
  rw [← et] at A1
  have A2 := fun w1 => fs_add (a := TWO) (b := t) (by rw [TWO_lit]; omega) ht w1
  rw [← ea] at A2
  have A3 := fun w1 => fp_div ht ha w1
  rw [← es] at A3
  have A4 := fun w1 => fp_mul hs hs w1
  rw [← ez] at A4
  have A5 := fun w1 => kn_inv 21 (by omega) (by omega) w1
  rw [log_tab0, ← logS_0 z] at A5
  have A6 := fun w1 => fs_add hs hs w1
  rw [← eu] at A6
  have A7 := fun w1 => fp_mul (a := logP z) (by rw [← logS_end]; exact logS_lt z (by omega)) hz w1
  rw [← eq_, ← logS_end] at A7
  have A8 := fun w1 => fp_mul hu hq w1
  rw [← ey] at A8
  have A9 := fun w1 => fs_add hu hy w1
  clear et ea es ez eu eq_ ey
  generalize ONE = o at *
  generalize TWO = o2 at *
  generalize fadd u y = Y at *
  have HI1 := Lib.hid I1
  have HI2 := Lib.hid I2
  have H1 := Lib.hid A1
  have H2 := Lib.hid A2
  have H3 := Lib.hid A3
  have H4 := Lib.hid A4
  have H5 := Lib.hid A5
  have H6 := Lib.hid A6
  have H7 := Lib.hid A7
  have H8 := Lib.hid A8
  have H9 := Lib.hid A9
  clear I1 I2 A1 A2 A3 A4 A5 A6 A7 A8 A9
  go_enter Tryd.func36, Tryd.ntmps36
  go_wp2_with fail
  with_reducible refine (HI1.out _).mono ?_
  rintro _ w1 ⟨rfl, b1⟩
  go_wp2_with fail
  with_reducible refine (H1.out _).mono ?_
  rintro _ w2 ⟨rfl, b2⟩
  go_wp2_with fail
  with_reducible refine (HI2.out _).mono ?_
  rintro _ w3 ⟨rfl, b3⟩
  go_wp2_with fail
  with_reducible refine (H2.out _).mono ?_
  rintro _ w4 ⟨rfl, b4⟩
  go_wp2_with fail
  with_reducible refine (H3.out _).mono ?_
  rintro _ w5 ⟨rfl, b5⟩
  go_wp2_with fail
  with_reducible refine (H4.out _).mono ?_
  rintro _ w6 ⟨rfl, b6⟩
  go_wp2_with fail
  with_reducible refine (H5.out _).mono ?_
  rintro _ w7 ⟨rfl, b7⟩
  have y7 := bbw b1 (bbw b2 (bbw b3 (bbw b4 (bbw b5 (bbw b6 b7)))))
  clear b1 b2 b3 b4 b5 b6 b7
  go_wp2_with fail
  go_loopw [6, 21] (fun p iv wr => ∃ (i q : Nat), i ≤ 9 ∧ iv = .int .i64 i ∧ p = .int .u64 q ∧ Hid (q = logS z i) ∧ Below w.heap.size w wr) (fun _ iv _ => 9 - mes iv)
  case atStart => exact ⟨0, _, by omega, rfl, rfl, Lib.hid rfl, y7⟩
  case round =>
    clear y7
    obtain ⟨i, p, hi, rfl, rfl, HQ, hb⟩ := hrel
    by_cases h9 : i = 9
    · subst h9
      obtain rfl := HQ.out
      go_wp2_with fail
      with_reducible refine (H6.out _).mono ?_
      rintro _ w2 ⟨rfl, b2⟩
      go_wp2_with fail
      with_reducible refine (H7.out _).mono ?_
      rintro _ w3 ⟨rfl, b3⟩
      go_wp2_with fail
      with_reducible refine (H8.out _).mono ?_
      rintro _ w4 ⟨rfl, b4⟩
      go_wp2_with fail
      with_reducible refine (H9.out _).mono ?_
      rintro _ w5 ⟨rfl, b5⟩
      go_wp2_with fail
      go_ret
      exact ⟨rfl, bbw hb (bbw b2 (bbw b3 (bbw b4 b5)))⟩
    · have hi2 : i < 9 := by omega
      have ht3 := log_tab i hi2
      obtain ⟨v, hv⟩ : ∃ v : Int, 2 * (9 - (i : Int)) + 1 = v := ⟨_, rfl⟩
      rw [show 19 - 2 * (i : Int) = v by omega] at ht3
      have hp : p < 18446744073709551616 := by rw [HQ.out]; exact logS_lt z (by omega)
      have A2 := fun w1 => kn_next hp hz v (by omega) (by omega) w1
      rw [ht3, HQ.out, ← logS_next z hi2, ← HQ.out] at A2
      have HN := Lib.hid A2
      clear A2 ht3
      go_wp2_with fail
      with_reducible refine (HN.out _).mono ?_
      rintro _ w2 ⟨rfl, b2⟩
      go_wp2_with fail
      go_roundw
      case rel => exact ⟨i + 1, _, by omega, vint (by omega), rfl, Lib.hid rfl, bbw hb b2⟩
      case measure => simp [mes, intOf]; omega

theorem lf_lt {x : Nat} (hk : kd x = 1 ∨ kd x = 2) : lf x < 18446744073709551616 := by
  have := (lf0_word (sig_pos hk)).2.2.2
  unfold lf
  split <;> omega
set_option maxHeartbeats 4000000 in
theorem kn_log {x : Nat} (hx : x < 18446744073709551616) (w : World) :
    Calls Tryd.prog 7 #[.int .u64 x] w (RetW (flog x) w) := by
  have K := Lib.hid (fb_kind hx w)
  have N := Lib.hid (fb_neg hx w)
  have hkc := (kd_cases x).1
  by_cases h0 : kd x = 0
  · have e : flog x = sg true INF := by unfold flog; rw [if_pos h0]
    rw [e]
    rw [h0] at K
    have IN := Lib.hid (fb_inf true w)
    generalize sg true INF = v at *
    go_enter Tryd.func7, Tryd.ntmps7
    go_wp2_with fail
    refine K.out.mono ?_
    rintro _ w' ⟨rfl, rfl⟩
    go_wp2_with fail
    refine IN.out.mono ?_
    rintro _ w' ⟨rfl, rfl⟩
    go_wp2_with fail
    go_ret
    exact ⟨rfl, Below.refl _ _⟩
  have g0 : ((kd x : Int) == 0) = false := by simp; omega
  by_cases h4 : kd x = 4
  · have e : flog x = NAN := by unfold flog; rw [if_neg h0, if_pos (.inl h4)]
    rw [e]
    rw [h4] at K
    have NA := Lib.hid (fb_nan w)
    generalize NAN = v at *
    go_enter Tryd.func7, Tryd.ntmps7
    go_wp2_with fail
    refine K.out.mono ?_
    rintro _ w' ⟨rfl, rfl⟩
    go_wp2_with fail
    refine NA.out.mono ?_
    rintro _ w' ⟨rfl, rfl⟩
    go_wp2_with fail
    go_ret
    exact ⟨rfl, Below.refl _ _⟩
  have g4 : ((kd x : Int) == 4) = false := by simp; omega
  cases hn : ng x
  case true =>
    have e : flog x = NAN := by unfold flog; rw [if_neg h0, if_pos (.inr hn)]
    rw [e]
    rw [hn] at N
    have NA := Lib.hid (fb_nan w)
    generalize NAN = v at *
    generalize kd x = k at *
    go_enter Tryd.func7, Tryd.ntmps7
    go_wp2_with fail
    refine K.out.mono ?_
    rintro _ w' ⟨rfl, rfl⟩
    go_wp2_with fail
    refine N.out.mono ?_
    rintro _ w' ⟨rfl, rfl⟩
    go_wp2_with fail
    refine NA.out.mono ?_
    rintro _ w' ⟨rfl, rfl⟩
    go_wp2_with fail
    go_ret
    exact ⟨rfl, Below.refl _ _⟩
  case false =>
  rw [hn] at N
  by_cases h3 : kd x = 3
  · have e : flog x = x := by unfold flog; rw [if_neg h0, if_neg (by rw [hn]; simp; omega), if_pos h3]
    rw [e]
    rw [h3] at K
    go_enter Tryd.func7, Tryd.ntmps7
    go_wp2_with fail
    refine K.out.mono ?_
    rintro _ w' ⟨rfl, rfl⟩
    go_wp2_with fail
    refine N.out.mono ?_
    rintro _ w' ⟨rfl, rfl⟩
    go_wp2_with fail
    go_ret
    exact ⟨rfl, Below.refl _ _⟩
  have g3 : ((kd x : Int) == 3) = false := by simp; omega
  have hk : kd x = 1 ∨ kd x = 2 := by omega
  obtain ⟨_, c2, c3, _, _⟩ := lk_cases hx hk hn
  have hlk : -1074 ≤ lk x ∧ lk x ≤ 1024 := by unfold lk; split <;> omega
  have e : flog x = logZ (lf x) (lk x) := by unfold flog; rw [if_neg h0, if_neg (by rw [hn]; simp; omega), if_neg h3]
  have SP := kn_split hx hk hn w
  have LS := fun w1 => kn_logSeries (lf_lt hk) w1
  have hYl := logY_lt (lf_lt hk)
  have hZ : logZ (lf x) (lk x) = if lk x = 0 then logY (lf x) else fadd (fmul (fint (lk x)) LL) (fadd (logY (lf x)) (fmul (fint (lk x)) ll)) := rfl
  rw [e]
  clear e
  generalize logZ (lf x) (lk x) = Z at *
  generalize logY (lf x) = Y at *
  generalize lf x = f at *
  generalize kd x = kx at *
  generalize lk x = k at *
  have HSP := Lib.hid SP
  have HLS := Lib.hid LS
  clear SP LS hk hn h0 h3 h4
  by_cases hk0 : k = 0
  · subst hk0
    rw [if_pos rfl] at hZ
    subst hZ
    go_enter Tryd.func7, Tryd.ntmps7
    go_wp2_with fail
    refine K.out.mono ?_
    rintro _ w' ⟨rfl, rfl⟩
    go_wp2_with fail
    refine N.out.mono ?_
    rintro _ w' ⟨rfl, rfl⟩
    go_wp2_with fail
    with_reducible refine HSP.out.mono ?_
    rintro _ w1 ⟨rfl, b1⟩
    go_wp2_with fail
    with_reducible refine (HLS.out _).mono ?_
    rintro _ w2 ⟨rfl, b2⟩
    go_wp2_with fail
    go_ret
    exact ⟨rfl, bbw b1 b2⟩
  · rw [if_neg hk0] at hZ
    have T := fun w1 => kn_ln2 k (by omega) (by omega) w1
    have A1 := fun w1 => fs_add hYl (fmul_lt (fint k) ll) w1
    have A2 := fun w1 => fs_add (fmul_lt (fint k) LL) (fadd_lt hYl (fmul_lt (fint k) ll)) w1
    rw [← hZ] at A2
    clear hZ
    generalize fadd Y (fmul (fint k) ll) = D at *
    generalize fmul (fint k) LL = U at *
    generalize fmul (fint k) ll = V at *
    have HT := Lib.hid T
    have HA1 := Lib.hid A1
    have HA2 := Lib.hid A2
    clear T A1 A2
    go_enter Tryd.func7, Tryd.ntmps7
    go_wp2_with fail
    refine K.out.mono ?_
    rintro _ w' ⟨rfl, rfl⟩
    go_wp2_with fail
    refine N.out.mono ?_
    rintro _ w' ⟨rfl, rfl⟩
    go_wp2_with fail
    with_reducible refine HSP.out.mono ?_
    rintro _ w1 ⟨rfl, b1⟩
    go_wp2_with fail
    with_reducible refine (HLS.out _).mono ?_
    rintro _ w2 ⟨rfl, b2⟩
    have g5 : (k == 0) = false := by simp; omega
    go_wp2_with fail
    with_reducible refine (HT.out _).mono ?_
    rintro _ w3 ⟨rfl, b3⟩
    go_wp2_with fail
    with_reducible refine (HA1.out _).mono ?_
    rintro _ w4 ⟨rfl, b4⟩
    go_wp2_with fail
    with_reducible refine (HA2.out _).mono ?_
    rintro _ w5 ⟨rfl, b5⟩
    go_wp2_with fail
    go_ret
    exact ⟨rfl, bbw b1 (bbw b2 (bbw b3 (bbw b4 b5)))⟩

end Go.Proofs.YtmoahgiklgicgaaDoor
