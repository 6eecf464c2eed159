/-
  The logarithm of a double by the document's steps, plainly: below 0 for numbers below 1, 0 for 1, above 0 for greater ones. Conditions: the argument is a positive finite double.
-/
import Derived.Test.YtibgpeaplmcogaaGreatDoorFsMathAllE
import Derived.Test.YtibgpeaplmcogaaGreatDoorRfOfAllE
import Derived.Test.YtibgpeaplmcogaaGreatDoorRefProdAllE
import Derived.Test.YtibgpeaplmcogaaGreatDoorFrOfAllE
import Derived.Test.YtibgpeaplmcogaaGreatDoorFpMulAllE
import Derived.Test.YtibgpeaplmcogaaGreatDoorRfMulAllE
import Derived.Test.YtibgpeaplmcogaaGreatDoorFltMath2AllE
import Derived.Test.YtibgpeaplmcogaaGreatDoorRatMulAllE
namespace Go.Proofs.YtibgpeaplmcogaaGreatDoor
set_option maxRecDepth 100000
open Go.RowKit
set_option linter.unusedVariables false
set_option linter.unusedSimpArgs false

/-- both numbers over one exponent -/
theorem num_parts {a b : Nat} (fa : fld a < 2047) (fb : fld b < 2047) {low : Int} (hlow : min (xpo a) (xpo b) = low) : ∃ K, 0 < K ∧ vl a = sig a * 2 ^ clampS (xpo a - low) * K ∧ vl b = sig b * 2 ^ clampS (xpo b - low) * K ∧ (∀ V, magR V 1 low = mag (V * K) 1) ∧ sig a * 2 ^ clampS (xpo a - low) < W ^ 33 ∧ sig b * 2 ^ clampS (xpo b - low) < W ^ 33 := by
  obtain ⟨h1, h2⟩ := xpo_range fa
  obtain ⟨h3, h4⟩ := xpo_range fb
  have s1 := sig_lt a
  have s2 := sig_lt b
  have c1 : clampS (xpo a - low) = (xpo a - low).toNat := clampS_mid (by omega) (by omega)
  have c2 : clampS (xpo b - low) = (xpo b - low).toNat := clampS_mid (by omega) (by omega)
  refine ⟨2 ^ (low + 1074).toNat, Nat.two_pow_pos _, ?_, ?_, fun V => (magR_at (m := V) (e := low) (s := (low + 1074).toNat) (by omega)).1, ?_, ?_⟩
  · rw [vl_eq, c1, Nat.mul_assoc, ← Nat.pow_add]; congr 2; omega
  · rw [vl_eq, c2, Nat.mul_assoc, ← Nat.pow_add]; congr 2; omega
  · exact mul_lt_pow (a := sig a) (k := 1) (l := 32) (by rw [Nat.pow_one]; unfold W; omega) (by omega)
  · exact mul_lt_pow (a := sig b) (k := 1) (l := 32) (by rw [Nat.pow_one]; unfold W; omega) (by omega)
theorem two_W {x y k : Nat} (hx : x < W ^ k) (hy : y < W ^ k) : x + y < W ^ (k + 1) := by
  rw [Nat.pow_succ]
  have : W ^ k * 2 ≤ W ^ k * W := Nat.mul_le_mul_left _ (by unfold W; omega)
  omega

set_option maxRecDepth 100000 in
set_option maxHeartbeats 4000000 in
theorem rf_numbers {a b : Nat} (ha : a < 18446744073709551616) (hb : b < 18446744073709551616) (fa : fld a < 2047) (fb : fld b < 2047) (w : World) :
    Calls Tryz.prog 179 #[.int .u64 a, .int .u64 b] w (RetW (fsumF a b) w) := by
  obtain ⟨low, hlow⟩ : ∃ low, min (xpo a) (xpo b) = low := ⟨_, rfl⟩
  obtain ⟨K, hK, v1, v2, hmag, x1, x2⟩ := num_parts fa fb hlow
  obtain ⟨h1, h2⟩ := xpo_range fa
  obtain ⟨h3, h4⟩ := xpo_range fb
  have s1 := sig_lt a
  have s2 := sig_lt b
  have hF : fsumF a b = if ng a = ng b then sg (ng a) (mag (vl a + vl b) 1) else if vl a = vl b then 0 else if vl b < vl a then sg (ng a) (mag (vl a - vl b) 1) else sg (ng b) (mag (vl b - vl a) 1) := rfl
  have P1 := fun w1 => rf_parts ha w1
  have P2 := fun w1 => rf_parts hb w1
  have N1 := fun w1 => rf_neg ha w1
  have N2 := fun w1 => rf_neg hb w1
  have S1 := fun w1 => ref_shl (sl_lit w1 (sig a : Int) (by unfold U; omega)) (by omega) (xpo a - low)
  have S2 := fun w1 => ref_shl (sl_lit w1 (sig b : Int) (by unfold U; omega)) (by omega) (xpo b - low)
  rw [val_one, Int.toNat_natCast] at S1 S2
  generalize sig a * 2 ^ clampS (xpo a - low) = X at *
  generalize sig b * 2 ^ clampS (xpo b - low) = Y at *
  have o1 : -1099511627777 ≤ low := by clear x1 x2 v1 v2 hmag; omega
  have o2 : low ≤ 1099511627776 := by clear x1 x2 v1 v2 hmag; omega
  have OF := fun (s : Bool) (w1 : World) (A : Option Addr) (n c V : Nat) (t : Sl w1 A n c (words V)) (hV : V < W ^ 34) => rf_of s t (Nat.le_trans (t.small hV) (by decide)) (e := low) o1 o2
  simp only [val_words, hmag] at OF
  have e1 : (X + Y) * K = vl a + vl b := by rw [v1, v2, Nat.add_mul]
  have e2 : (X - Y) * K = vl a - vl b := by rw [v1, v2, Nat.sub_mul]
  have e3 : (Y - X) * K = vl b - vl a := by rw [v1, v2, Nat.sub_mul]
  have hlt : vl a < vl b ↔ X < Y := by
    rw [v1, v2]
    exact ⟨fun h => Nat.lt_of_mul_lt_mul_right h, fun h => Nat.mul_lt_mul_of_pos_right h hK⟩
  have hgt : vl b < vl a ↔ Y < X := by
    rw [v1, v2]
    exact ⟨fun h => Nat.lt_of_mul_lt_mul_right h, fun h => Nat.mul_lt_mul_of_pos_right h hK⟩
  have z1 : X + Y < W ^ 34 := two_W x1 x2
  have z2 : X - Y < W ^ 34 := Nat.lt_of_le_of_lt (by clear z1 x1 x2; omega) z1
  have z3 : Y - X < W ^ 34 := Nat.lt_of_le_of_lt (by clear z1 z2 x1 x2; omega) z1
  clear v1 v2 hK hmag
  generalize fsumF a b = F at *
  generalize vl a = va at *
  generalize vl b = vb at *
  generalize hg1 : sig a = g1 at *
  generalize hg2 : sig b = g2 at *
  generalize hxa : xpo a = xa at *
  generalize hxb : xpo b = xb at *
  generalize ng a = na at *
  generalize ng b = nb at *
  have HP1 := Lib.hid P1
  have HP2 := Lib.hid P2
  have HN1 := Lib.hid N1
  have HN2 := Lib.hid N2
  have HS1 := Lib.hid S1
  have HS2 := Lib.hid S2
  have HOF := Lib.hid OF
  have HF := Lib.hid hF
  have HZ := Lib.hid (And.intro z1 (And.intro z2 (And.intro z3 (And.intro x1 x2))))
  have HE := Lib.hid (And.intro e1 (And.intro e2 e3))
  have HL := Lib.hid (And.intro hlt hgt)
  clear P1 P2 N1 N2 S1 S2 OF hF z1 z2 z3 e1 e2 e3 hlt hgt hg1 hg2 hxa hxb x1 x2
  go_enter Tryz.func179, Tryz.ntmps179
  go_wp2_with fail
  refine (HP1.out _).mono ?_
  rintro _ w' ⟨rfl, rfl⟩
  go_wp2_with fail
  refine (HP2.out _).mono ?_
  rintro _ w' ⟨rfl, rfl⟩
  go_upto_region 3 with (fail)
  go_cut [9] (fun s9 wx => s9 = .int .i64 low ∧ w = wx)
  case first =>
    by_cases h : xa ≤ xb
    · go_wp2_with fail
      go_meet
      exact ⟨vint (by omega), rfl⟩
    · go_wp2_with fail
      go_meet
      exact ⟨vint (by omega), rfl⟩
  case rest =>
  obtain ⟨rfl, rfl⟩ := hcut
  go_wp2_with fail
  with_reducible refine (HS1.out _).mono ?_
  rintro _ w1 ⟨A1, n1, c1, rfl, t1, b1⟩
  have y1 := bbw (below_alloc w _) b1
  go_wp2_with fail
  with_reducible refine (HS2.out _).mono ?_
  rintro _ w2 ⟨A2, n2, c2, rfl, t2, b2⟩
  have y2 := bbw (below_alloc w1 _) b2
  have t1' := t1.below y2
  have y3 := bbw y1 y2
  go_wp2_with fail
  refine (HN1.out _).mono ?_
  rintro _ w' ⟨rfl, rfl⟩
  go_wp2_with fail
  refine (HN2.out _).mono ?_
  rintro _ w' ⟨rfl, rfl⟩
  have l1 := t1'.small HZ.out.2.2.2.1
  have l2 := t2.small HZ.out.2.2.2.2
  by_cases hs : na = nb
  · subst hs
    have A1' := ref_nadd t1' t2 (by omega) (by omega)
    rw [val_words, val_words] at A1'
    have HA := Lib.hid A1'
    clear A1'
    go_wp2_with fail
    with_reducible refine HA.out.mono ?_
    rintro _ w3 ⟨A3, n3, c3, rfl, t3, b3⟩
    go_wp2_with fail
    with_reducible refine (HOF.out _ _ _ _ _ _ t3 HZ.out.1).mono ?_
    rintro _ w4 ⟨rfl, b4⟩
    go_wp2_with fail
    go_ret
    exact ⟨ret1 (by rw [HF.out, if_pos trivial, HE.out.1]), bbw y3 (bbw b3 b4)⟩
  · have C1 := ref_cmp t1' t2 (by omega) (by omega)
    rw [val_words, val_words] at C1
    have hs1 : (na == nb) = false := by simpa using hs
    obtain ⟨q1, q2⟩ := HL.out
    rcases Nat.lt_trichotomy X Y with hc | hc | hc
    · rw [cmpN_lt hc] at C1
      have SB := ref_nsub t2 t1' (by omega) (by omega) (by rw [val_words, val_words]; omega)
      rw [val_words, val_words] at SB
      have HC := Lib.hid C1
      have HSB := Lib.hid SB
      have HX := Lib.hid hc
      have HQ := Lib.hid (And.intro q1 q2)
      clear C1 SB hc q1 q2
      go_wp2_with fail
      refine HC.out.mono ?_
      rintro _ w' ⟨rfl, rfl⟩
      go_wp2_with fail
      with_reducible refine HSB.out.mono ?_
      rintro _ w3 ⟨A3, n3, c3, rfl, t3, b3⟩
      go_wp2_with fail
      with_reducible refine (HOF.out _ _ _ _ _ _ t3 HZ.out.2.2.1).mono ?_
      rintro _ w4 ⟨rfl, b4⟩
      go_wp2_with fail
      go_ret
      exact ⟨ret1 (by have r1 := HQ.out.1.2 HX.out; rw [HF.out, if_neg hs, if_neg (by omega), if_neg (by omega), HE.out.2.2]), bbw y3 (bbw b3 b4)⟩
    · rw [show cmpN X Y = 0 by rw [hc]; exact cmpN_eq Y] at C1
      have HC := Lib.hid C1
      have HX := Lib.hid hc
      have HQ := Lib.hid (And.intro q1 q2)
      clear C1 hc q1 q2
      go_wp2_with fail
      refine HC.out.mono ?_
      rintro _ w' ⟨rfl, rfl⟩
      go_wp2_with fail
      go_ret
      exact ⟨ret1 (by have r1 := HQ.out; have r2 := HX.out; rw [HF.out, if_neg hs, if_pos (by omega)]; rfl), y3⟩
    · rw [cmpN_gt hc] at C1
      have SB := ref_nsub t1' t2 (by omega) (by omega) (by rw [val_words, val_words]; omega)
      rw [val_words, val_words] at SB
      have HC := Lib.hid C1
      have HSB := Lib.hid SB
      have HX := Lib.hid hc
      have HQ := Lib.hid (And.intro q1 q2)
      clear C1 SB hc q1 q2
      go_wp2_with fail
      refine HC.out.mono ?_
      rintro _ w' ⟨rfl, rfl⟩
      go_wp2_with fail
      with_reducible refine HSB.out.mono ?_
      rintro _ w3 ⟨A3, n3, c3, rfl, t3, b3⟩
      go_wp2_with fail
      with_reducible refine (HOF.out _ _ _ _ _ _ t3 HZ.out.2.1).mono ?_
      rintro _ w4 ⟨rfl, b4⟩
      go_wp2_with fail
      go_ret
      exact ⟨ret1 (by have r1 := HQ.out.2.2 HX.out; rw [HF.out, if_neg hs, if_neg (by omega), if_pos r1, HE.out.2.1]), bbw y3 (bbw b3 b4)⟩

set_option maxHeartbeats 4000000 in
theorem rf_add {a b : Nat} (ha : a < 18446744073709551616) (hb : b < 18446744073709551616) (w : World) :
    Calls Tryz.prog 112 #[.int .u64 a, .int .u64 b] w (RetW (fadd a b) w) := by
  have K1 := Lib.hid (rf_kind ha w)
  have K2 := Lib.hid (rf_kind hb w)
  have c1 := kd_cases a
  have c2 := kd_cases b
  have NB := fun (h1 : kd a ≤ 2) (h2 : kd b ≤ 2) => rf_numbers ha hb (c1.2.1 h1) (c2.2.1 h2) w
  have hF : fadd a b = if kd a = 4 ∨ kd b = 4 ∨ (kd a = 3 ∧ kd b = 3 ∧ a ≠ b) then NAN else if kd a = 3 then a else if kd b = 3 then b else fsumF a b := rfl
  replace c1 := c1.1
  replace c2 := c2.1
  generalize fadd a b = F at *
  generalize fsumF a b = G at *
  generalize kd a = k at *
  generalize kd b = l at *
  by_cases h1 : k = 4
  · subst h1
    rw [if_pos (.inl rfl)] at hF
    have HF := Lib.hid hF
    clear hF NB
    go_enter Tryz.func112, Tryz.ntmps112
    go_wp2_with fail
    refine K1.out.mono ?_
    rintro _ w' ⟨rfl, rfl⟩
    go_wp2_with fail
    refine K2.out.mono ?_
    rintro _ w' ⟨rfl, rfl⟩
    go_wp2_with fail
    refine (rf_nan _).mono ?_
    rintro _ w' ⟨rfl, rfl⟩
    go_wp2_with fail
    go_ret
    exact ⟨ret1 (by rw [HF.out]), Below.refl _ _⟩
  · have g1 : ((k : Int) == 4) = false := by simp; omega
    by_cases h2 : l = 4
    · subst h2
      rw [if_pos (.inr (.inl rfl))] at hF
      have HF := Lib.hid hF
      clear hF NB
      go_enter Tryz.func112, Tryz.ntmps112
      go_wp2_with fail
      refine K1.out.mono ?_
      rintro _ w' ⟨rfl, rfl⟩
      go_wp2_with fail
      refine K2.out.mono ?_
      rintro _ w' ⟨rfl, rfl⟩
      go_wp2_with fail
      refine (rf_nan _).mono ?_
      rintro _ w' ⟨rfl, rfl⟩
      go_wp2_with fail
      go_ret
      exact ⟨ret1 (by rw [HF.out]), Below.refl _ _⟩
    · have g2 : ((l : Int) == 4) = false := by simp; omega
      by_cases h3 : k = 3
      · subst h3
        by_cases h4 : l = 3
        · subst h4
          by_cases h5 : a = b
          · subst h5
            rw [if_neg (by omega), if_pos rfl] at hF
            have HF := Lib.hid hF
            clear hF NB
            go_enter Tryz.func112, Tryz.ntmps112
            go_wp2_with fail
            refine K1.out.mono ?_
            rintro _ w' ⟨rfl, rfl⟩
            go_wp2_with fail
            refine K2.out.mono ?_
            rintro _ w' ⟨rfl, rfl⟩
            go_wp2_with fail
            go_ret
            exact ⟨ret1 (by rw [HF.out]), Below.refl _ _⟩
          · rw [if_pos (.inr (.inr ⟨rfl, rfl, h5⟩))] at hF
            have g5 : ((a : Int) != b) = true := by simp; omega
            have HF := Lib.hid hF
            clear hF NB
            go_enter Tryz.func112, Tryz.ntmps112
            go_wp2_with fail
            refine K1.out.mono ?_
            rintro _ w' ⟨rfl, rfl⟩
            go_wp2_with fail
            refine K2.out.mono ?_
            rintro _ w' ⟨rfl, rfl⟩
            go_wp2_with fail
            refine (rf_nan _).mono ?_
            rintro _ w' ⟨rfl, rfl⟩
            go_wp2_with fail
            go_ret
            exact ⟨ret1 (by rw [HF.out]), Below.refl _ _⟩
        · have g4 : ((l : Int) == 3) = false := by simp; omega
          rw [if_neg (by omega), if_pos rfl] at hF
          have HF := Lib.hid hF
          clear hF NB
          go_enter Tryz.func112, Tryz.ntmps112
          go_wp2_with fail
          refine K1.out.mono ?_
          rintro _ w' ⟨rfl, rfl⟩
          go_wp2_with fail
          refine K2.out.mono ?_
          rintro _ w' ⟨rfl, rfl⟩
          go_wp2_with fail
          go_ret
          exact ⟨ret1 (by rw [HF.out]), Below.refl _ _⟩
      · have g3 : ((k : Int) == 3) = false := by simp; omega
        by_cases h4 : l = 3
        · subst h4
          rw [if_neg (by omega), if_neg h3, if_pos rfl] at hF
          have HF := Lib.hid hF
          clear hF NB
          go_enter Tryz.func112, Tryz.ntmps112
          go_wp2_with fail
          refine K1.out.mono ?_
          rintro _ w' ⟨rfl, rfl⟩
          go_wp2_with fail
          refine K2.out.mono ?_
          rintro _ w' ⟨rfl, rfl⟩
          go_wp2_with fail
          go_ret
          exact ⟨ret1 (by rw [HF.out]), Below.refl _ _⟩
        · have g4 : ((l : Int) == 3) = false := by simp; omega
          rw [if_neg (by omega), if_neg h3, if_neg h4] at hF
          have HF := Lib.hid hF
          have HN := Lib.hid (NB (by omega) (by omega))
          clear hF NB
          go_enter Tryz.func112, Tryz.ntmps112
          go_wp2_with fail
          refine K1.out.mono ?_
          rintro _ w' ⟨rfl, rfl⟩
          go_wp2_with fail
          refine K2.out.mono ?_
          rintro _ w' ⟨rfl, rfl⟩
          go_wp2_with fail
          with_reducible refine HN.out.mono ?_
          rintro _ w' ⟨rfl, b1⟩
          go_wp2_with fail
          go_ret
          exact ⟨ret1 (by rw [HF.out]), b1⟩

theorem flc_lt' (b : Nat) : flc b < 18446744073709551616 := by have := flp_lt b; unfold flc NAN; split <;> omega
set_option maxHeartbeats 1000000 in
theorem rf_sub {a b : Nat} (ha : a < 18446744073709551616) (hb : b < 18446744073709551616) (w : World) :
    Calls Tryz.prog 113 #[.int .u64 a, .int .u64 b] w (RetW (fsub a b) w) := by
  have K1 := Lib.hid (rf_flip hb w)
  have HS := Lib.hid (rf_add ha (flc_lt' b) w)
  unfold fsub
  generalize fadd a (flc b) = F at *
  generalize flc b = k at *
  go_enter Tryz.func113, Tryz.ntmps113
  go_wp2_with fail
  refine K1.out.mono ?_
  rintro _ w' ⟨rfl, rfl⟩
  go_wp2_with fail
  with_reducible refine HS.out.mono ?_
  rintro _ w' ⟨rfl, b1⟩
  go_wp2_with fail
  go_ret
  exact ⟨rfl, b1⟩

end Go.Proofs.YtibgpeaplmcogaaGreatDoor

namespace Go.Proofs.YtibgpeaplmcogaaGreatDoor
set_option maxRecDepth 100000
open Go.RowKit
set_option linter.unusedVariables false
set_option linter.unusedSimpArgs false

theorem flp_mant (b : Nat) : mant (flp b) = mant b := by unfold mant flp; omega
theorem flp_ng {b : Nat} (hb : b < 18446744073709551616) : ng (flp b) = !(ng b) := by
  unfold ng flp
  rw [Bool.eq_iff_iff]
  simp
  omega
theorem flp_vl (b : Nat) : vl (flp b) = vl b := by unfold vl; rw [flp_mant]
theorem fsumF_lt (a b : Nat) : fsumF a b < 18446744073709551616 := by
  unfold fsumF
  split
  · exact sg_lt (mag_le _ _)
  · split
    · omega
    · split
      · exact sg_lt (mag_le _ _)
      · exact sg_lt (mag_le _ _)
theorem fadd_lt {a b : Nat} (ha : a < 18446744073709551616) (hb : b < 18446744073709551616) : fadd a b < 18446744073709551616 := by
  have := fsumF_lt a b
  unfold fadd NAN
  split
  · omega
  · split
    · omega
    · split <;> omega

end Go.Proofs.YtibgpeaplmcogaaGreatDoor

namespace Go.Proofs.YtibgpeaplmcogaaGreatDoor
set_option maxRecDepth 100000
open Go.RowKit
set_option linter.unusedVariables false
set_option linter.unusedSimpArgs false

/-! ### plain -/
theorem magR_leI (p q : Nat) (e : Int) : magR p q e ≤ INF := mag_le _ _
theorem bne_false' (x : Bool) : (x != false) = x := by cases x <;> rfl
theorem fmul_lt (a b : Nat) : fmul a b < 18446744073709551616 := by
  unfold fmul
  split
  · unfold NAN; omega
  · split
    · exact sg_lt (Nat.le_refl _)
    · exact sg_lt (magR_leI _ _ _)
/-! ### the root of a rounded square -/
/-! ### the walks -/
end Go.Proofs.YtibgpeaplmcogaaGreatDoor

namespace Go.Proofs.YtibgpeaplmcogaaGreatDoor
set_option maxRecDepth 100000
open Go.RowKit
set_option linter.unusedVariables false
set_option linter.unusedSimpArgs false

theorem dq_parts {b : Nat} (h : fld b < 2047) : sig b * 2 ^ clampS (xpo b) < W ^ 18 ∧ 2 ^ clampS (-(xpo b)) < W ^ 18 ∧ 2 ^ clampS (-(xpo b)) ≠ 0 := by
  obtain ⟨h1, h2⟩ := xpo_range h
  have hs := sig_lt b
  refine ⟨?_, ?_, by have := Nat.two_pow_pos (clampS (-(xpo b))); omega⟩
  · have hc : clampS (xpo b) ≤ 64 * 17 := by
      rcases Int.lt_or_le (xpo b) 0 with hl | hl
      · rw [clampS_neg hl]; omega
      · rw [clampS_mid hl (by omega)]; omega
    exact mul_lt_pow (a := sig b) (k := 1) (l := 17) (by rw [Nat.pow_one]; unfold W; omega) hc
  · have hc : clampS (-(xpo b)) ≤ 64 * 17 := by
      rcases Int.lt_or_le (-(xpo b)) 0 with hl | hl
      · rw [clampS_neg hl]; omega
      · rw [clampS_mid hl (by omega)]; omega
    have := mul_lt_pow (a := 1) (k := 1) (l := 17) (by rw [Nat.pow_one]; unfold W; omega) hc
    rwa [Nat.one_mul] at this

end Go.Proofs.YtibgpeaplmcogaaGreatDoor

namespace Go.Proofs.YtibgpeaplmcogaaGreatDoor
set_option maxRecDepth 100000
open Go.RowKit
set_option linter.unusedVariables false
set_option linter.unusedSimpArgs false

end Go.Proofs.YtibgpeaplmcogaaGreatDoor

namespace Go.Proofs.YtibgpeaplmcogaaGreatDoor
set_option maxRecDepth 100000
open Go.RowKit
set_option linter.unusedVariables false
set_option linter.unusedSimpArgs false

/-- the number 1 in units of the least double -/
@[irreducible] def OO : Nat := 2 ^ K74
theorem OO_eq : OO = 2 ^ K74 := by unfold OO; rfl
theorem OO_pos : 0 < OO := by rw [OO_eq]; exact Nat.two_pow_pos _
theorem mag_upto {p d c : Nat} (hd : 0 < d) (hc : c < INF) (h : p ≤ fv c * d) : mag p d ≤ c := by
  have := mag_mono (p := p) (d := d) (p' := fv c) (d' := 1) hd (by omega) (by omega)
  rw [mag_fv hc] at this
  exact this
theorem fv_mono {a b : Nat} (hb : b < INF) (h : a ≤ b) : fv a ≤ fv b := by
  rcases Nat.lt_or_eq_of_le h with h1 | h1
  · exact Nat.le_of_lt (fv_lt (by omega) hb h1)
  · rw [h1]; exact Nat.le_refl _
/-! ### what layers 10 and 13 do, plainly -/
def fint (n : Int) : Nat := sg (decide (n < 0)) (magR n.natAbs 1 0)
def fscale (b : Nat) (k : Int) : Nat := if fld b < 2047 then sg (ng b) (magR (sig b) 1 (xpo b + k)) else cln b
/-- the integer nearest to a finite double -/
def fnv (b : Nat) : Int := sI (ng b) (rdiv (vl b) OO)
def fless (a b : Nat) : Bool :=
  if kd a = 4 ∨ kd b = 4 then false else if ng a = true ∧ ng b = true then decide (b < a) else if ng a = true then (decide (a ≠ 9223372036854775808) || decide (b ≠ 0)) else (!(ng b) && decide (a < b))
/-- where a word stands in the order of the values: its digits, with its sign -/
def rk (b : Nat) : Int := sI (ng b) (mant b)
def isn (b : Nat) : Bool := !(decide (kd b = 4))
theorem fless_rk {a b : Nat} (ha : a < 18446744073709551616) (hb : b < 18446744073709551616) : fless a b = (isn a && isn b && decide (rk a < rk b)) := by
  unfold fless isn
  by_cases h1 : kd a = 4
  · rw [if_pos (.inl h1)]; simp [h1]
  by_cases h2 : kd b = 4
  · rw [if_pos (.inr h2)]; simp [h2]
  rw [if_neg (by omega)]
  simp only [h1, h2, decide_false, Bool.not_false, Bool.true_and]
  unfold rk sI ng mant
  by_cases h3 : 9223372036854775808 ≤ a <;> by_cases h4 : 9223372036854775808 ≤ b
  · rw [decide_eq_true h3, decide_eq_true h4]
    simp
    omega
  · rw [decide_eq_true h3, decide_eq_false h4]
    simp
    rw [Bool.eq_iff_iff]
    simp
    omega
  · rw [decide_eq_false h3, decide_eq_true h4]
    simp
    omega
  · rw [decide_eq_false h3, decide_eq_false h4]
    simp
    omega
/-! ### infinities stand beyond all others -/
/-! ### the nearest integer -/
def nok (b : Nat) : Bool := decide (fld b < 2047) && decide ((blen (sig b) : Int) + xpo b ≤ 62)
def nrv (b : Nat) : Int := if nok b = true then fnv b else 0
theorem fnv_up {b : Nat} (f : fld b < 2047) {x : Nat} (h : xpo b = x) : fnv b = sI (ng b) (sig b * 2 ^ x) := by
  have hK := K74_eq
  unfold fnv
  congr 1
  rw [vl_eq, OO_eq, show (xpo b + 1074).toNat = x + K74 by omega, Nat.pow_add, ← Nat.mul_assoc, rdiv_exact _ (Nat.two_pow_pos _)]
theorem fnv_dn {b : Nat} (f : fld b < 2047) {k : Nat} (h : xpo b = -(k : Int)) : fnv b = sI (ng b) (rdiv (sig b) (2 ^ k)) := by
  have hK := K74_eq
  obtain ⟨h1, h2⟩ := xpo_range f
  unfold fnv
  congr 1
  rw [vl_eq, OO_eq, show (xpo b + 1074).toNat = K74 - k by omega, show K74 = k + (K74 - k) by omega, Nat.pow_add, show k + (K74 - k) - k = K74 - k by omega, rdiv_scale _ _ (Nat.two_pow_pos _)]
/-- the nearest integer as the significand of a least double -/
theorem near_word {m k : Nat} (hm : m < 9007199254740992) (hk : 1 ≤ k) : magR m 1 (-(k : Int) - 1074) < 18446744073709551616 ∧ fld (magR m 1 (-(k : Int) - 1074)) < 2047 ∧ sig (magR m 1 (-(k : Int) - 1074)) = rdiv m (2 ^ k) ∧ ng (magR m 1 (-(k : Int) - 1074)) = false := by
  have e : magR m 1 (-(k : Int) - 1074) = mag m (2 ^ k) := by
    unfold magR
    rw [up_zero (by omega), show dn (-(k : Int) - 1074) = k by unfold dn; omega, Nat.pow_zero, Nat.mul_one, Nat.one_mul]
  rw [e]
  have hB := B52_eq
  have hI := INF_lit
  have h2 : 2 ^ 1 ≤ 2 ^ k := Nat.pow_le_pow_right (by omega) hk
  have hp : 0 < 2 ^ k := Nat.two_pow_pos k
  have hfB : fv B52 = B52 := by
    unfold fv
    rw [Nat.div_self B52_pos, Nat.mod_self]
    simp
  have h3 : mag m (2 ^ k) ≤ B52 := by
    refine mag_upto hp (by omega) ?_
    rw [hfB]
    have : B52 * 2 ^ 1 ≤ B52 * 2 ^ k := Nat.mul_le_mul_left _ h2
    omega
  have h4 := fv_mag m hp (by omega : mag m (2 ^ k) < INF)
  have hq : m / 2 ^ k < 2 ^ 53 := Nat.lt_of_le_of_lt (Nat.div_le_self _ _) (by omega)
  have hu : ulp m (2 ^ k) = 0 := by
    unfold ulp
    have := blen_le hq
    omega
  rw [hu, Nat.pow_zero, Nat.mul_one, Nat.mul_one] at h4
  rw [← h4]
  generalize mag m (2 ^ k) = M at *
  have hM : mant M = M := by unfold mant; omega
  have hf : fld M ≤ 1 := by
    have := (mant_fld M).1
    rw [hM] at this
    rw [← this, hB]
    omega
  have hv := fv_mant M
  rw [hM] at hv
  have hx : xpo M = -1074 := by unfold xpo; split <;> omega
  rw [hx] at hv
  refine ⟨by omega, by omega, ?_, by unfold ng; exact decide_eq_false (by omega)⟩
  rw [hv]
  simp
theorem near_fits {b : Nat} (h : nok b = true) : (∀ x : Nat, xpo b = x → sig b * 2 ^ x < 4611686018427387904) ∧ (∀ k : Nat, 1 ≤ k → xpo b = -(k : Int) → rdiv (sig b) (2 ^ k) ≤ 4503599627370496) := by
  unfold nok at h
  rw [Bool.and_eq_true, decide_eq_true_eq, decide_eq_true_eq] at h
  have hs := sig_lt b
  refine ⟨fun x hx => ?_, fun k hk hx => ?_⟩
  · have h1 := blen_lt (sig b)
    have h2 : 2 ^ (blen (sig b) + x) ≤ 2 ^ 62 := Nat.pow_le_pow_right (by omega) (by omega)
    have h3 : sig b * 2 ^ x < 2 ^ blen (sig b) * 2 ^ x := (Nat.mul_lt_mul_right (Nat.two_pow_pos x)).2 h1
    rw [Nat.pow_add] at h2
    omega
  · have h2 : 2 ^ 1 ≤ 2 ^ k := Nat.pow_le_pow_right (by omega) hk
    have := rdiv_mono (p := sig b) (d := 2 ^ k) (p' := 4503599627370496) (d' := 1) (Nat.two_pow_pos k) (by omega) (by
      have : 4503599627370496 * 2 ^ 1 ≤ 4503599627370496 * 2 ^ k := Nat.mul_le_mul_left _ h2
      omega)
    rw [rdiv_one] at this
    exact this
theorem nok_of {b : Nat} (f : fld b < 2047) (h : (fnv b).natAbs ≤ 1077) : nok b = true := by
  unfold nok
  rw [Bool.and_eq_true, decide_eq_true_eq, decide_eq_true_eq]
  refine ⟨f, ?_⟩
  have hs := sig_lt b
  have hb : blen (sig b) ≤ 53 := blen_le (by omega)
  rcases Int.lt_or_le (xpo b) 0 with hl | hl
  · omega
  · obtain ⟨x, hx⟩ : ∃ x : Nat, xpo b = x := ⟨(xpo b).toNat, by omega⟩
    rw [fnv_up f hx, sI_natAbs] at h
    rw [hx]
    rcases Nat.eq_zero_or_pos (sig b) with h0 | h0
    · exfalso
      unfold xpo at hl
      unfold sig at h0
      split at hl
      · omega
      · rename_i h9
        rw [if_neg h9] at h0
        omega
    · have := blen_mul_pow h0 x
      have h3 : blen (sig b * 2 ^ x) ≤ 11 := blen_le (by omega)
      omega
/-! ### times powers of 2 -/
theorem scale_clamp {b : Nat} (f : fld b < 2047) (k : Int) {L : Int} (hL : 2200 ≤ L) : magR (sig b) 1 (xpo b + min (max k (-L)) L) = magR (sig b) 1 (xpo b + k) := by
  obtain ⟨h1, h2⟩ := xpo_range f
  have hs := sig_lt b
  rcases Nat.eq_zero_or_pos (sig b) with h0 | h0
  · rw [h0, magR_zero, magR_zero]
  · have hb := blen_pos h0
    have hb2 : blen (sig b) ≤ 53 := blen_le (by omega)
    rcases Int.lt_or_le k (-L) with hl | hl
    · rw [magR_small (e := xpo b + k) (by omega) (by rw [show blen 1 = 1 by decide]; omega), magR_small (by omega) (by rw [show blen 1 = 1 by decide]; omega)]
    · rcases Int.lt_or_le L k with hg | hg
      · rw [magR_big1 (e := xpo b + k) h0 (by omega), magR_big1 h0 (by omega)]
      · congr 1; omega
theorem fscale_lt {b : Nat} (hb : b < 18446744073709551616) (k : Int) : fscale b k < 18446744073709551616 := by
  unfold fscale
  split
  · exact sg_lt (mag_le _ _)
  · exact cln_lt hb
theorem fint_lt (n : Int) : fint n < 18446744073709551616 := sg_lt (mag_le _ _)

end Go.Proofs.YtibgpeaplmcogaaGreatDoor

namespace Go.Proofs.YtibgpeaplmcogaaGreatDoor
set_option maxRecDepth 100000
open Go.RowKit
set_option linter.unusedVariables false
set_option linter.unusedSimpArgs false

theorem magR_low (p q : Nat) : magR p q (-1074) = mag p q := by
  unfold magR
  rw [up_zero (by omega), dn_zero (by omega), Nat.pow_zero, Nat.mul_one, Nat.mul_one]
theorem mul_mag {a b : Nat} (fa : fld a < 2047) (fb : fld b < 2047) : magR (sig a * sig b) 1 (xpo a + xpo b) = mag (vl a * vl b) OO := by
  have h1 := xpo_range fa
  have h2 := xpo_range fb
  rw [← magR_low]
  refine magR_eq (a := (xpo a + 1074).toNat + (xpo b + 1074).toNat) (b := K74) (by omega) OO_pos ?_ (by rw [K74_eq]; omega)
  rw [vl_eq, vl_eq, OO_eq, Nat.pow_add]
  grind
theorem fld_of {a A : Nat} (h : mant a ≤ A) (hA : A < INF) : fld a < 2047 := by
  have h1 := mant_fld a
  have h2 := INF_eq
  have h3 : mant a < INF := by omega
  rw [← h1.1, Nat.div_lt_iff_lt_mul B52_pos, ← h2]
  exact h3
theorem kd_of {a : Nat} (h : fld a < 2047) : kd a ≤ 2 := (kd_cases a).2.2 h
theorem sg_parts {s : Bool} {M : Nat} (h : M ≤ INF) : ng (sg s M) = s ∧ mant (sg s M) = M := by
  rw [INF_lit] at h
  unfold ng mant sg
  cases s
  · simp; omega
  · simp; omega
theorem fmul_fin {a b : Nat} (fa : fld a < 2047) (fb : fld b < 2047) : fmul a b = sg (ng a != ng b) (mag (vl a * vl b) OO) := by
  have k1 := kd_of fa
  have k2 := kd_of fb
  unfold fmul
  have h1 : ¬ (kd a = 4 ∨ kd b = 4 ∨ (kd a = 3 ∧ kd b = 0) ∨ (kd a = 0 ∧ kd b = 3)) := by omega
  have h2 : ¬ (kd a = 3 ∨ kd b = 3) := by omega
  rw [if_neg h1, if_neg h2, mul_mag fa fb]
/-- what a double says, with its sign -/
def iv (b : Nat) : Int := sI (ng b) (vl b)
theorem iv_abs (b : Nat) : (iv b).natAbs = vl b := sI_natAbs _ _
theorem fadd_fin {a b : Nat} (fa : fld a < 2047) (fb : fld b < 2047) : mant (fadd a b) = mag (iv a + iv b).natAbs 1 ∧ (0 < iv a + iv b → ng (fadd a b) = false) ∧ (iv a + iv b < 0 → ng (fadd a b) = true) ∧ (ng a = false → iv a + iv b = 0 → ng (fadd a b) = false) := by
  have k1 := kd_of fa
  have k2 := kd_of fb
  have e : fadd a b = fsumF a b := by
    unfold fadd
    have h1 : ¬ (kd a = 4 ∨ kd b = 4 ∨ (kd a = 3 ∧ kd b = 3 ∧ a ≠ b)) := by omega
    have h2 : ¬ kd a = 3 := by omega
    have h3 : ¬ kd b = 3 := by omega
    rw [if_neg h1, if_neg h2, if_neg h3]
  rw [e]
  unfold fsumF iv sI
  generalize vl a = p
  generalize vl b = q
  by_cases h : ng a = ng b
  · rw [if_pos h, ← h]
    obtain ⟨g1, g2⟩ := sg_parts (s := ng a) (mag_le (p + q) 1)
    rw [g1, g2]
    clear h
    cases ng a
    · rw [if_neg (by decide), if_neg (by decide)]
      exact ⟨by congr 1, fun _ => rfl, fun h => absurd h (by omega), fun _ _ => rfl⟩
    · rw [if_pos rfl, if_pos rfl]
      exact ⟨by congr 1; omega, fun h => absurd h (by omega), fun _ => rfl, fun h => by cases h⟩
  · rw [if_neg h]
    by_cases h2 : p = q
    · subst h2
      rw [if_pos rfl]
      have e0 : (if ng a = true then -(p : Int) else p) + (if ng b = true then -(p : Int) else p) = 0 := by
        revert h; cases ng a <;> cases ng b <;> simp <;> omega
      rw [e0]
      refine ⟨by rw [show (0 : Int).natAbs = 0 from rfl, mag_zero]; rfl, fun h => absurd h (by omega), fun h => absurd h (by omega), fun _ _ => by decide⟩
    · rw [if_neg h2]
      by_cases h3 : q < p
      · rw [if_pos h3]
        obtain ⟨g1, g2⟩ := sg_parts (s := ng a) (mag_le (p - q) 1)
        rw [g1, g2]
        revert h
        cases ng a <;> cases ng b <;> simp
        · exact ⟨by congr 1; omega, by omega⟩
        · exact ⟨by congr 1; omega, by omega⟩
      · rw [if_neg h3]
        obtain ⟨g1, g2⟩ := sg_parts (s := ng b) (mag_le (q - p) 1)
        rw [g1, g2]
        revert h
        cases ng a <;> cases ng b <;> simp
        · exact ⟨by congr 1; omega, by omega, by omega⟩
        · exact ⟨by congr 1; omega, by omega⟩
theorem flp_fld (b : Nat) : fld (flp b) = fld b := by unfold fld flp; omega
theorem flc_fin {b : Nat} (hb : b < 18446744073709551616) (fb : fld b < 2047) : flc b = flp b ∧ fld (flc b) < 2047 ∧ iv (flc b) = - iv b := by
  have k2 := kd_of fb
  have e : flc b = flp b := by unfold flc; rw [if_neg (by omega)]
  rw [e]
  refine ⟨rfl, by rw [flp_fld]; exact fb, ?_⟩
  unfold iv
  rw [flp_vl, flp_ng hb, sI_not]
theorem fsub_fin {a b : Nat} (hb : b < 18446744073709551616) (fa : fld a < 2047) (fb : fld b < 2047) : mant (fsub a b) = mag (iv a - iv b).natAbs 1 ∧ (0 < iv a - iv b → ng (fsub a b) = false) ∧ (iv a - iv b < 0 → ng (fsub a b) = true) ∧ (ng a = false → iv a - iv b = 0 → ng (fsub a b) = false) := by
  obtain ⟨_, f2, e2⟩ := flc_fin hb fb
  have := fadd_fin fa f2
  unfold fsub
  rw [e2, ← Int.sub_eq_add_neg] at this
  exact this
/-! ### bounds -/
theorem vl_le {a A : Nat} (h : mant a ≤ A) (hA : A < INF) : vl a ≤ fv A := fv_mono hA h
theorem le_mul {a b A B C : Nat} (ha : mant a ≤ A) (hb : mant b ≤ B) (hA : A < INF) (hB : B < INF) (hC : C < INF) (h : fv A * fv B ≤ fv C * OO) : ng (fmul a b) = (ng a != ng b) ∧ mant (fmul a b) ≤ C := by
  rw [fmul_fin (fld_of ha hA) (fld_of hb hB)]
  obtain ⟨g1, g2⟩ := sg_parts (s := (ng a != ng b)) (mag_le (vl a * vl b) OO)
  rw [g1, g2]
  exact ⟨rfl, mag_upto OO_pos hC (Nat.le_trans (Nat.mul_le_mul (vl_le ha hA) (vl_le hb hB)) h)⟩
theorem le_sub {a b A B C : Nat} (hb64 : b < 18446744073709551616) (ha : mant a ≤ A) (hb : mant b ≤ B) (hA : A < INF) (hB : B < INF) (hC : C < INF) (h : fv A + fv B ≤ fv C) : mant (fsub a b) ≤ C := by
  rw [(fsub_fin hb64 (fld_of ha hA) (fld_of hb hB)).1]
  refine mag_upto (by omega) hC ?_
  have h1 := vl_le ha hA
  have h2 := vl_le hb hB
  have h3 := iv_abs a
  have h4 := iv_abs b
  omega
/-! ### the exponential's sum: each step leaves it without a sign, at most twice the term that it adds -/
@[irreducible] def HALF : Nat := 4602678819172646912
theorem HALF_lt : HALF < INF := by decide +kernel
end Go.Proofs.YtibgpeaplmcogaaGreatDoor

namespace Go.Proofs.YtibgpeaplmcogaaGreatDoor
set_option maxRecDepth 100000
open Go.RowKit
set_option linter.unusedVariables false
set_option linter.unusedSimpArgs false

@[irreducible] def PP : Nat := 4609176140021203710
@[irreducible] def LL : Nat := 4604418534311723008
@[irreducible] def ll : Nat := 4461442080421002358
/-! ### the rest after the multiple of the logarithm of 2 is taken away is at most a half -/
@[irreducible] def HH : Nat := 2 ^ (K74 - 53)
theorem HH_pos : 0 < HH := by unfold HH; exact Nat.two_pow_pos _
theorem OO_HH : OO = 9007199254740992 * HH := by decide +kernel
theorem fv_PP : fv PP = 12994641697113596 * HH := by decide +kernel
theorem fv_LL : fv LL = 6243314766446592 * HH := by decide +kernel
@[irreducible] def W746 : Nat := 4649773101213548544
@[irreducible] def W1077 : Nat := 4652451511538810880
@[irreducible] def W716 : Nat := 4601552919265804288
@[irreducible] def WTINY : Nat := 4517110426252607488
theorem fv_746 : fv W746 = 746 * OO := by decide +kernel
theorem fv_1077 : fv W1077 = 1077 * OO := by decide +kernel
theorem fv_716 : fv W716 = 3940649673949184 * HH := by decide +kernel
theorem PP_lt : PP < INF := by decide +kernel
theorem LL_lt : LL < INF := by decide +kernel
theorem ll_lt : ll < INF := by decide +kernel
theorem W746_lt : W746 < INF := by decide +kernel
theorem W1077_lt : W1077 < INF := by decide +kernel
theorem W716_lt : W716 < INF := by decide +kernel
theorem WTINY_lt : WTINY < INF := by decide +kernel
theorem PP_parts : ng PP = false ∧ mant PP = PP ∧ PP < 18446744073709551616 := by decide +kernel
theorem LL_parts : ng LL = false ∧ mant LL = LL ∧ LL < 18446744073709551616 := by decide +kernel
theorem ll_parts : ng ll = false ∧ mant ll = ll ∧ ll < 18446744073709551616 := by decide +kernel
theorem tiny_ok : fv W1077 * fv ll ≤ fv WTINY * OO := by decide +kernel
theorem half_ok : fv W716 + fv WTINY ≤ fv HALF := by decide +kernel
/-- how far a rounded number is off, below 2^11 -/
theorem mag_err {p d : Nat} (hd : 0 < d) (hb : p / d < 2048 * OO) (hI : mag p d < INF) : 2 * (fv (mag p d) * d) ≤ 2 * p + d * (2048 * HH) ∧ 2 * p ≤ 2 * (fv (mag p d) * d) + d * (2048 * HH) := by
  have hK := K74_eq
  have hu : ulp p d ≤ K74 - 53 + 11 := by
    unfold ulp
    have : blen (p / d) ≤ K74 + 11 := blen_le (by rw [Nat.pow_add, ← OO_eq]; omega)
    omega
  have hp : 2 ^ ulp p d ≤ 2048 * HH := by
    have := Nat.pow_le_pow_right (n := 2) (by omega) hu
    rw [Nat.pow_add] at this
    unfold HH
    omega
  rw [fv_mag p hd hI]
  obtain ⟨a1, a2, _, _⟩ := rdiv_spec p (d := d * 2 ^ ulp p d) (Nat.mul_pos hd (Nat.two_pow_pos _))
  have hm := Nat.mul_le_mul_left d hp
  generalize rdiv p (d * 2 ^ ulp p d) = R at *
  have e1 : (2 * R + 1) * (d * 2 ^ ulp p d) = 2 * (R * 2 ^ ulp p d * d) + d * 2 ^ ulp p d := by grind
  have e2 : 2 * R * (d * 2 ^ ulp p d) = 2 * (R * 2 ^ ulp p d * d) := by grind
  rw [e1] at a1
  rw [e2] at a2
  omega
theorem rest_alg {a M y h : Nat} (m1 : 18014398509481984 * M ≤ 25989283394227192 * a + 18446744073709551616 * h) (m2 : 25989283394227192 * a ≤ 18014398509481984 * M + 18446744073709551616 * h)
    (n1 : 2 * M ≤ 18014398509481984 * y + 9007199254740992 * h) (n2 : 18014398509481984 * y ≤ 2 * M + 9007199254740992 * h) (hy : y ≤ 1077 * h) :
    a ≤ 6243314766446592 * y + 3940649673949184 * h ∧ 6243314766446592 * y ≤ a + 3940649673949184 * h := by omega
theorem fint_fin {k : Int} (hk : k.natAbs ≤ 1077) : mant (fint k) ≤ W1077 ∧ vl (fint k) = k.natAbs * OO ∧ ng (fint k) = decide (k < 0) := by
  have hK := K74_eq
  have e : magR k.natAbs 1 0 = mag (k.natAbs * OO) 1 := by
    rw [OO_eq]
    exact (magR_at (m := k.natAbs) (e := 0) (s := K74) (by rw [hK]; rfl)).1
  have hx := ex_any (x := k.natAbs) (s := K74) (by rw [B52_eq]; omega) (by rw [hK]; omega)
  rw [← OO_eq] at hx
  obtain ⟨v1, v2⟩ := ex_val hx
  unfold fint
  rw [e]
  obtain ⟨g1, g2⟩ := sg_parts (s := decide (k < 0)) (mag_le (k.natAbs * OO) 1)
  refine ⟨?_, ?_, g1⟩
  · rw [g2]
    refine mag_upto (by omega) W1077_lt ?_
    rw [fv_1077, Nat.mul_one]
    exact Nat.mul_le_mul_right _ hk
  · unfold vl; rw [g2]; exact v1
/-- a small multiple of L is a double, just so -/
theorem fmul_LL {k : Int} (hk : k.natAbs ≤ 1077) : vl (fmul (fint k) LL) = k.natAbs * fv LL ∧ ng (fmul (fint k) LL) = decide (k < 0) ∧ fld (fmul (fint k) LL) < 2047 := by
  obtain ⟨h1, h2, h3⟩ := fint_fin hk
  obtain ⟨l1, l2, _⟩ := LL_parts
  have hv : vl LL = fv LL := by unfold vl; rw [l2]
  rw [fmul_fin (fld_of h1 W1077_lt) (fld_of (Nat.le_of_eq l2) LL_lt), h2, h3, l1, hv, bne_false']
  have e : mag (k.natAbs * OO * fv LL) OO = mag (k.natAbs * fv LL) 1 := by
    have := mag_scale (k.natAbs * fv LL) 1 OO_pos
    rw [Nat.one_mul] at this
    rw [← this]
    congr 1
    grind
  rw [e]
  have hx : Ex (k.natAbs * fv LL) 1 := by
    have e2 : k.natAbs * fv LL = k.natAbs * 2977044471 * 2 ^ (K74 - 53 + 21) := by
      rw [fv_LL, Nat.pow_add]
      unfold HH
      grind
    rw [e2]
    have hK := K74_eq
    exact ex_any (by rw [B52_eq]; omega) (by rw [hK]; omega)
  obtain ⟨v1, v2⟩ := ex_val hx
  obtain ⟨g1, g2⟩ := sg_parts (s := decide (k < 0)) (mag_le (k.natAbs * fv LL) 1)
  refine ⟨?_, g1, ?_⟩
  · unfold vl; rw [g2]; exact v1
  · exact fld_of (A := mag (k.natAbs * fv LL) 1) (Nat.le_of_eq g2) v2
theorem sI_dec {s : Bool} {n : Nat} (m : Nat) : sI (decide (sI s n < 0)) (n * m) = sI s (n * m) := by
  unfold sI
  cases s
  · simp; omega
  · rcases Nat.eq_zero_or_pos n with h | h
    · subst h; simp
    · have : decide (-(n : Int) < 0) = true := decide_eq_true (by omega)
      simp [h]
def expR (x : Nat) : Nat := fsub (fsub x (fmul (fint (fnv (fmul x PP))) LL)) (fmul (fint (fnv (fmul x PP))) ll)
theorem fsub_lt {a b : Nat} (ha : a < 18446744073709551616) : fsub a b < 18446744073709551616 := fadd_lt ha (flc_lt b)
theorem expR_half {x : Nat} (hx64 : x < 18446744073709551616) (hx : mant x ≤ W746) : mant (expR x) ≤ HALF ∧ (fnv (fmul x PP)).natAbs ≤ 1077 ∧ fld (fmul x PP) < 2047 := by
  obtain ⟨p1, p2, p3⟩ := PP_parts
  have fx := fld_of hx W746_lt
  have fP := fld_of (Nat.le_of_eq p2) PP_lt
  have hvP : vl PP = fv PP := by unfold vl; rw [p2]
  have hvx := vl_le hx W746_lt
  rw [fv_746] at hvx
  have hO := OO_pos
  have hH := HH_pos
  have e1 := OO_HH
  have e2 := fv_PP
  have hb0 : vl x * fv PP ≤ 746 * OO * fv PP := Nat.mul_le_mul_right _ hvx
  have hb : vl x * fv PP ≤ fv W1077 * OO := by
    rw [fv_1077]
    refine Nat.le_trans hb0 ?_
    have e : 746 * OO * fv PP = 746 * fv PP * OO := by grind
    rw [e]
    refine Nat.mul_le_mul_right _ ?_
    rw [e2, e1]
    omega
  have hM1 : mag (vl x * fv PP) OO ≤ W1077 := mag_upto hO W1077_lt hb
  have hMI : mag (vl x * fv PP) OO < INF := Nat.lt_of_le_of_lt hM1 W1077_lt
  have hq : vl x * fv PP / OO < 2048 * OO := by
    rw [fv_1077] at hb
    rw [Nat.div_lt_iff_lt_mul hO]
    have : 1077 * OO * OO < 2048 * OO * OO := by
      rw [Nat.mul_assoc, Nat.mul_assoc]
      have := Nat.mul_pos hO hO
      omega
    omega
  obtain ⟨r1, r2⟩ := mag_err hO hq hMI
  have hv : fmul x PP = sg (ng x) (mag (vl x * fv PP) OO) := by rw [fmul_fin fx fP, p1, bne_false', hvP]
  obtain ⟨g1, g2⟩ := sg_parts (s := ng x) (mag_le (vl x * fv PP) OO)
  have hvm : vl (fmul x PP) = fv (mag (vl x * fv PP) OO) := by rw [show vl (fmul x PP) = fv (mant (fmul x PP)) from rfl, hv, g2]
  have hfv : fld (fmul x PP) < 2047 := fld_of (A := W1077) (by rw [hv, g2]; exact hM1) W1077_lt
  have hng : ng (fmul x PP) = ng x := by rw [hv, g1]
  have hMle : fv (mag (vl x * fv PP) OO) ≤ 1077 * OO := by rw [← fv_1077]; exact fv_mono W1077_lt hM1
  -- the nearest integer
  obtain ⟨n1, n2, _, _⟩ := rdiv_spec (fv (mag (vl x * fv PP) OO)) hO
  have hKle : rdiv (fv (mag (vl x * fv PP) OO)) OO ≤ 1077 := by
    have := rdiv_mono1 hO hMle
    rw [rdiv_exact 1077 hO] at this
    exact this
  have hk : fnv (fmul x PP) = sI (ng x) (rdiv (fv (mag (vl x * fv PP) OO)) OO) := by unfold fnv; rw [hng, hvm]
  generalize fv (mag (vl x * fv PP) OO) = M at *
  generalize rdiv M OO = K at *
  have hkabs : (fnv (fmul x PP)).natAbs = K := by rw [hk, sI_natAbs]
  -- all over HH
  have hcore : vl x ≤ 6243314766446592 * (K * HH) + 3940649673949184 * HH ∧ 6243314766446592 * (K * HH) ≤ vl x + 3940649673949184 * HH := by
    refine rest_alg (M := M) ?_ ?_ ?_ ?_ (Nat.mul_le_mul_right _ hKle)
    · refine Nat.le_of_mul_le_mul_right ?_ hH
      rw [e1, e2] at r1
      have t1 : 18014398509481984 * M * HH = 2 * (M * (9007199254740992 * HH)) := by grind
      have t2 : (25989283394227192 * vl x + 18446744073709551616 * HH) * HH = 2 * (vl x * (12994641697113596 * HH)) + 9007199254740992 * HH * (2048 * HH) := by grind
      rw [t1, t2]
      exact r1
    · refine Nat.le_of_mul_le_mul_right ?_ hH
      rw [e1, e2] at r2
      have t1 : (18014398509481984 * M + 18446744073709551616 * HH) * HH = 2 * (M * (9007199254740992 * HH)) + 9007199254740992 * HH * (2048 * HH) := by grind
      have t2 : 25989283394227192 * vl x * HH = 2 * (vl x * (12994641697113596 * HH)) := by grind
      rw [t1, t2]
      exact r2
    · rw [e1] at n1
      have t1 : (2 * K + 1) * (9007199254740992 * HH) = 18014398509481984 * (K * HH) + 9007199254740992 * HH := by grind
      rw [t1] at n1
      exact n1
    · rw [e1] at n2
      have t1 : 2 * K * (9007199254740992 * HH) = 18014398509481984 * (K * HH) := by grind
      rw [t1] at n2
      exact n2
  refine ⟨?_, by rw [hkabs]; exact hKle, hfv⟩
  unfold expR
  have hk1077 : (fnv (fmul x PP)).natAbs ≤ 1077 := by rw [hkabs]; exact hKle
  obtain ⟨a1, a2, a3⟩ := fmul_LL hk1077
  have hiv : iv (fmul (fint (fnv (fmul x PP))) LL) = sI (ng x) (K * fv LL) := by
    unfold iv
    rw [a1, a2, hkabs, hk]
    exact sI_dec _
  have hd1 : mant (fsub x (fmul (fint (fnv (fmul x PP))) LL)) ≤ W716 := by
    rw [(fsub_fin (fmul_lt _ _) fx a3).1, hiv]
    refine mag_upto (by omega) W716_lt ?_
    unfold iv
    rw [abs_same, fv_716, fv_LL]
    unfold dist
    have : K * (6243314766446592 * HH) = 6243314766446592 * (K * HH) := by grind
    rw [this]
    omega
  obtain ⟨b1, _, _⟩ := fint_fin hk1077
  obtain ⟨l1, l2, _⟩ := ll_parts
  have hnl := le_mul b1 (Nat.le_of_eq l2) W1077_lt ll_lt WTINY_lt tiny_ok
  exact le_sub (fmul_lt _ _) hd1 hnl.2 W716_lt WTINY_lt HALF_lt half_ok

/-! ### the whole -/
/-- 1 divided by the factorials of 12, 11, .., 0 -/
def expC : List Nat := [4477122120089393304, 4493156764026750180, 4508805057796939612, 4523617214285662004, 4537941361671905306, 4551452160554016794, 4564047942368979991, 4575957461383581969, 4586165620538955093, 4595172819793696085, 4602678819172646912, 4607182418800017408, 4607182418800017408]
def expP (r : Nat) : Nat := expC.foldl (fun p c => fadd (fmul p r) c) 4460272573143870729
def fexp (x : Nat) : Nat := if kd x = 4 then NAN else if fless (fint 710) x = true then INF else if fless x (fint (-746)) = true then 0 else fscale (expP (expR x)) (fnv (fmul x PP))
theorem int_710 : fint 710 = 4649456441864749056 := by decide +kernel
theorem int_746 : fint (-746) = 13873145138068324352 := by decide +kernel
/-- an argument that is not too great and not too small -/
theorem exp_range {x : Nat} (hx : x < 18446744073709551616) (h4 : kd x ≠ 4) (h1 : fless (fint 710) x ≠ true) (h2 : fless x (fint (-746)) ≠ true) : mant x ≤ W746 := by
  rw [int_710] at h1
  rw [int_746] at h2
  unfold fless at h1 h2
  rw [show kd 4649456441864749056 = 2 by decide +kernel, show ng 4649456441864749056 = false by decide +kernel] at h1
  rw [show kd 13873145138068324352 = 2 by decide +kernel, show ng 13873145138068324352 = true by decide +kernel] at h2
  have hW : W746 = 4649773101213548544 := by unfold W746; rfl
  rw [hW]
  have c1 : ¬ (2 = 4 ∨ kd x = 4) := by omega
  have c2 : ¬ (kd x = 4 ∨ 2 = 4) := by omega
  rw [if_neg c1] at h1
  rw [if_neg c2] at h2
  cases hn : ng x
  · rw [hn] at h1
    simp at h1
    unfold ng at hn
    simp at hn
    unfold mant
    omega
  · rw [hn] at h2
    simp at h2
    unfold ng at hn
    simp at hn
    unfold mant
    omega
end Go.Proofs.YtibgpeaplmcogaaGreatDoor

namespace Go.Proofs.YtibgpeaplmcogaaGreatDoor
set_option maxRecDepth 100000
open Go.RowKit
set_option linter.unusedVariables false
set_option linter.unusedSimpArgs false

@[irreducible] def ONE : Nat := 4607182418800017408
@[irreducible] def TWO : Nat := 4611686018427387904
@[irreducible] def RR : Nat := 4609047870845172685
@[irreducible] def W1116 : Nat := 4604367669032910848
@[irreducible] def W32 : Nat := 4609434218613702656
@[irreducible] def W516 : Nat := 4599301119452119040
@[irreducible] def W14 : Nat := 4598175219545276416
@[irreducible] def W116 : Nat := 4589168020290535424
@[irreducible] def W132 : Nat := 4584664420663164928
@[irreducible] def W164 : Nat := 4580160821035794432
@[irreducible] def W38 : Nat := 4600427019358961664
@[irreducible] def W3364 : Nat := 4602819556661002240
@[irreducible] def W3464 : Nat := 4602960294149357568
@[irreducible] def W4464 : Nat := 4604367669032910848
@[irreducible] def W53 : Nat := 4368491638549381120
@[irreducible] def W55 : Nat := 4359484439294640128
@[irreducible] def W4 : Nat := 4616189618054758400
theorem kn_lt : ONE < INF ∧ TWO < INF ∧ W1116 < INF ∧ W32 < INF ∧ W516 < INF ∧ W14 < INF ∧ W116 < INF ∧ W132 < INF ∧ W164 < INF ∧ W38 < INF ∧ W3364 < INF ∧ W3464 < INF ∧ W4464 < INF ∧ W53 < INF ∧ W55 < INF ∧ W4 < INF := by decide +kernel
theorem kn_fv : fv ONE = OO ∧ fv TWO = 2 * OO ∧ fv W1116 * 16 = 11 * OO ∧ fv W32 * 2 = 3 * OO ∧ fv W516 * 16 = 5 * OO ∧ fv W14 * 4 = OO ∧ fv W116 * 16 = OO ∧ fv W132 * 32 = OO ∧ fv W164 * 64 = OO := by decide +kernel
/-- 1 divided by 19, 17, .., 3 -/
def logC : List Nat := [4587745830934523688, 4588638185040256542, 4589468260265693457, 4590207312512236308, 4591215111030249286, 4592670820000712476, 4594314991293244562, 4596373779694328218, 4599676419421066581]
def logP (z : Nat) : Nat := logC.foldl (fun p c => fadd (fmul p z) c) 4587023449039406616
def logY (f : Nat) : Nat :=
  fadd (fadd (fdiv (fsub f ONE) (fadd TWO (fsub f ONE))) (fdiv (fsub f ONE) (fadd TWO (fsub f ONE))))
    (fmul (fadd (fdiv (fsub f ONE) (fadd TWO (fsub f ONE))) (fdiv (fsub f ONE) (fadd TWO (fsub f ONE))))
      (fmul (logP (fmul (fdiv (fsub f ONE) (fadd TWO (fsub f ONE))) (fdiv (fsub f ONE) (fadd TWO (fsub f ONE))))) (fmul (fdiv (fsub f ONE) (fadd TWO (fsub f ONE))) (fdiv (fsub f ONE) (fadd TWO (fsub f ONE))))))
def logZ (f : Nat) (k : Int) : Nat := if k = 0 then logY f else fadd (fmul (fint k) LL) (fadd (logY f) (fmul (fint k) ll))
/-! ### the sum over powers of z -/
/-! ### the logarithm near 1 -/
/-! ### the whole -/
def lf0 (x : Nat) : Nat := 4602678819172646912 + sig x * 2 ^ (53 - blen (sig x))
def lk0 (x : Nat) : Int := xpo x + blen (sig x) - 1
def lf (x : Nat) : Nat := if RR < lf0 x then lf0 x - 4503599627370496 else lf0 x
def lk (x : Nat) : Int := if RR < lf0 x then lk0 x + 1 else lk0 x
def flog (x : Nat) : Nat := if kd x = 0 then sg true INF else if kd x = 4 ∨ ng x = true then NAN else if kd x = 3 then x else logZ (lf x) (lk x)
theorem lf0_range {x : Nat} (h : 0 < sig x) : 4607182418800017408 ≤ lf0 x ∧ lf0 x < 4611686018427387904 := by
  have h1 := blen_self h
  have h0 := blen_pos h
  have h2 := sig_blen x
  have h3 := blen_lt (sig x)
  unfold lf0
  have a1 : 2 ^ (blen (sig x) - 1) * 2 ^ (53 - blen (sig x)) ≤ sig x * 2 ^ (53 - blen (sig x)) := Nat.mul_le_mul_right _ h1
  have a2 : sig x * 2 ^ (53 - blen (sig x)) < 2 ^ blen (sig x) * 2 ^ (53 - blen (sig x)) := Nat.mul_lt_mul_of_pos_right h3 (Nat.two_pow_pos _)
  rw [← Nat.pow_add, show blen (sig x) - 1 + (53 - blen (sig x)) = 52 by omega] at a1
  rw [← Nat.pow_add, show blen (sig x) + (53 - blen (sig x)) = 53 by omega] at a2
  omega
/-- where x lies, by its exponent -/
theorem lk_cases {x : Nat} (hx : x < 18446744073709551616) (hk : kd x = 1 ∨ kd x = 2) (hn : ng x = false) :
    (lk0 x < 0 ↔ x < 4607182418800017408) ∧ -1074 ≤ lk0 x ∧ lk0 x ≤ 1023 ∧ (lk0 x = 0 → lf0 x = x) ∧ (lk0 x = -1 → lf0 x = x + 4503599627370496) := by
  have hp := sig_pos hk
  have hsb := sig_blen x
  have hb0 := blen_pos hp
  have hm := sg_mant x hx
  rw [hn, sg_false] at hm
  have hmf := mant_fld x
  rw [hm, B52_eq] at hmf
  have hf : fld x < 2047 := (kd_cases x).2.1 (by omega)
  have hr := rst_lt x
  have hdm := Nat.div_add_mod' x 4503599627370496
  rw [hmf.1, hmf.2] at hdm
  by_cases h0 : fld x = 0
  · have hs : sig x = rst x := by unfold sig; rw [if_pos h0]
    have hxp : xpo x = -1074 := by unfold xpo; rw [if_pos h0]
    have hbl : blen (sig x) ≤ 52 := by rw [hs]; exact blen_le (by omega)
    unfold lk0
    rw [hxp]
    rw [h0, Nat.zero_mul] at hdm
    refine ⟨⟨fun _ => by omega, fun _ => by omega⟩, by omega, by omega, fun h => by omega, fun h => by omega⟩
  · have hs : sig x = rst x + 4503599627370496 := by unfold sig; rw [if_neg h0]
    have hxp : xpo x = (fld x : Int) - 1075 := by unfold xpo; rw [if_neg h0]
    have hbl : blen (sig x) = 53 := by rw [hs]; exact blen_unique (k := 52) (by omega) (by omega)
    have hl : lk0 x = (fld x : Int) - 1023 := by unfold lk0; rw [hxp, hbl]; omega
    have hlf : lf0 x = 4602678819172646912 + (rst x + 4503599627370496) := by unfold lf0; rw [hbl, hs, Nat.sub_self, Nat.pow_zero, Nat.mul_one]
    rw [hl, hlf]
    refine ⟨⟨fun h => ?_, fun h => ?_⟩, by omega, by omega, fun h => ?_, fun h => ?_⟩
    · have : fld x ≤ 1022 := by omega
      have := Nat.mul_le_mul_right 4503599627370496 this
      omega
    · rcases Nat.lt_or_ge (fld x) 1023 with h9 | h9
      · omega
      · have := Nat.mul_le_mul_right 4503599627370496 h9
        omega
    · have : fld x = 1023 := by omega
      rw [this] at hdm
      omega
    · have : fld x = 1022 := by omega
      rw [this] at hdm
      omega
end Go.Proofs.YtibgpeaplmcogaaGreatDoor
