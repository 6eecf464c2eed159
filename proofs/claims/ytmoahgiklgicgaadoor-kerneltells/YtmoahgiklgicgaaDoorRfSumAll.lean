/-
  What rat's small functions do: isZero, signed, Make, Of, Sign, told by Lean's own Rat. Conditions: the slices read as lists of words, of at most 1000 words.
-/
import Derived.Test.YtmoahgiklgicgaaDoorFsMathAll
import Derived.Test.YtmoahgiklgicgaaDoorRfOfAll
import Derived.Test.YtmoahgiklgicgaaDoorRefShiftAll
import Derived.Test.YtmoahgiklgicgaaDoorFpMathAll
import Derived.Test.YtmoahgiklgicgaaDoorFpMulAll
import Derived.Test.YtmoahgiklgicgaaDoorRfMulAll
import Derived.Test.YtmoahgiklgicgaaDoorRefGcdAll
import Derived.Test.YtmoahgiklgicgaaDoorProdMathAll
import Derived.Deep.RegionHeld3
namespace Go.Proofs.YtmoahgiklgicgaaDoor
set_option maxRecDepth 100000
open Go.RowKit
set_option linter.unusedVariables false
set_option linter.unusedSimpArgs false

/-- both numbers over one exponent -/
theorem num_parts {a b : Nat} (fa : fld a < 2047) (fb : fld b < 2047) {low : Int} (hlow : min (xpo a) (xpo b) = low) : ∃ K, 0 < K ∧ vl a = sig a * 2 ^ clampS (xpo a - low) * K ∧ vl b = sig b * 2 ^ clampS (xpo b - low) * K ∧ (∀ V, magR V 1 low = mag (V * K) 1) ∧ sig a * 2 ^ clampS (xpo a - low) < W ^ 33 ∧ sig b * 2 ^ clampS (xpo b - low) < W ^ 33 := by
  obtain ⟨h1, h2⟩ := xpo_range fa
  obtain ⟨h3, h4⟩ := xpo_range fb
  have s1 := sig_lt a
  have s2 := sig_lt b
  have c1 : clampS (xpo a - low) = (xpo a - low).toNat := clampS_mid (by omega) (by omega)
  have c2 : clampS (xpo b - low) = (xpo b - low).toNat := clampS_mid (by omega) (by omega)
  refine ⟨2 ^ (low + 1074).toNat, Nat.two_pow_pos _, ?_, ?_, fun V => (magR_at (m := V) (e := low) (s := (low + 1074).toNat) (by omega)).1, ?_, ?_⟩
  · rw [vl_eq, c1, Nat.mul_assoc, ← Nat.pow_add]; congr 2; omega
  · rw [vl_eq, c2, Nat.mul_assoc, ← Nat.pow_add]; congr 2; omega
  · exact mul_lt_pow (a := sig a) (k := 1) (l := 32) (by rw [Nat.pow_one]; unfold W; omega) (by omega)
  · exact mul_lt_pow (a := sig b) (k := 1) (l := 32) (by rw [Nat.pow_one]; unfold W; omega) (by omega)
theorem two_W {x y k : Nat} (hx : x < W ^ k) (hy : y < W ^ k) : x + y < W ^ (k + 1) := by
  rw [Nat.pow_succ]
  have : W ^ k * 2 ≤ W ^ k * W := Nat.mul_le_mul_left _ (by unfold W; omega)
  omega

set_option maxRecDepth 100000 in
set_option maxHeartbeats 4000000 in
theorem rf_numbers {a b : Nat} (ha : a < 18446744073709551616) (hb : b < 18446744073709551616) (fa : fld a < 2047) (fb : fld b < 2047) (w : World) :
    Calls Tryd.prog 67 #[.int .u64 a, .int .u64 b] w (RetW (fsumF a b) w) := by
  obtain ⟨low, hlow⟩ : ∃ low, min (xpo a) (xpo b) = low := ⟨_, rfl⟩
  obtain ⟨K, hK, v1, v2, hmag, x1, x2⟩ := num_parts fa fb hlow
  obtain ⟨h1, h2⟩ := xpo_range fa
  obtain ⟨h3, h4⟩ := xpo_range fb
  have s1 := sig_lt a
  have s2 := sig_lt b
  have hF : fsumF a b = if ng a = ng b then sg (ng a) (mag (vl a + vl b) 1) else if vl a = vl b then 0 else if vl b < vl a then sg (ng a) (mag (vl a - vl b) 1) else sg (ng b) (mag (vl b - vl a) 1) := rfl
  have P1 := fun w1 => rf_parts ha w1
  have P2 := fun w1 => rf_parts hb w1
  have N1 := fun w1 => rf_neg ha w1
  have N2 := fun w1 => rf_neg hb w1
  have S1 := fun w1 => ref_shl (sl_lit w1 (sig a : Int) (by unfold U; omega)) (by omega) (xpo a - low)
  have S2 := fun w1 => ref_shl (sl_lit w1 (sig b : Int) (by unfold U; omega)) (by omega) (xpo b - low)
  rw [val_one, Int.toNat_natCast] at S1 S2
  generalize sig a * 2 ^ clampS (xpo a - low) = X at *
  generalize sig b * 2 ^ clampS (xpo b - low) = Y at *
  have o1 : -1099511627777 ≤ low := by clear x1 x2 v1 v2 hmag; omega
  have o2 : low ≤ 1099511627776 := by clear x1 x2 v1 v2 hmag; omega
  have OF := fun (s : Bool) (w1 : World) (A : Option Addr) (n c V : Nat) (t : Sl w1 A n c (words V)) (hV : V < W ^ 34) => rf_of s t (Nat.le_trans (t.small hV) (by decide)) (e := low) o1 o2
  simp only [val_words, hmag] at OF
  have e1 : (X + Y) * K = vl a + vl b := by rw [v1, v2, Nat.add_mul]
  have e2 : (X - Y) * K = vl a - vl b := by rw [v1, v2, Nat.sub_mul]
  have e3 : (Y - X) * K = vl b - vl a := by rw [v1, v2, Nat.sub_mul]
  have hlt : vl a < vl b ↔ X < Y := by
    rw [v1, v2]
    exact ⟨fun h => Nat.lt_of_mul_lt_mul_right h, fun h => Nat.mul_lt_mul_of_pos_right h hK⟩
  have hgt : vl b < vl a ↔ Y < X := by
    rw [v1, v2]
    exact ⟨fun h => Nat.lt_of_mul_lt_mul_right h, fun h => Nat.mul_lt_mul_of_pos_right h hK⟩
  have z1 : X + Y < W ^ 34 := two_W x1 x2
  have z2 : X - Y < W ^ 34 := Nat.lt_of_le_of_lt (by clear z1 x1 x2; omega) z1
  have z3 : Y - X < W ^ 34 := Nat.lt_of_le_of_lt (by clear z1 z2 x1 x2; omega) z1
  clear v1 v2 hK hmag
  generalize fsumF a b = F at *
  generalize vl a = va at *
  generalize vl b = vb at *
  generalize hg1 : sig a = g1 at *
  generalize hg2 : sig b = g2 at *
  generalize hxa : xpo a = xa at *
  generalize hxb : xpo b = xb at *
  generalize ng a = na at *
  generalize ng b = nb at *
  have HP1 := Lib.hid P1
  have HP2 := Lib.hid P2
  have HN1 := Lib.hid N1
  have HN2 := Lib.hid N2
  have HS1 := Lib.hid S1
  have HS2 := Lib.hid S2
  have HOF := Lib.hid OF
  have HF := Lib.hid hF
  have HZ := Lib.hid (And.intro z1 (And.intro z2 (And.intro z3 (And.intro x1 x2))))
  have HE := Lib.hid (And.intro e1 (And.intro e2 e3))
  have HL := Lib.hid (And.intro hlt hgt)
  clear P1 P2 N1 N2 S1 S2 OF hF z1 z2 z3 e1 e2 e3 hlt hgt hg1 hg2 hxa hxb x1 x2
  go_enter Tryd.func67, Tryd.ntmps67
  go_wp2_with fail
  refine (HP1.out _).mono ?_
  rintro _ w' ⟨rfl, rfl⟩
  go_wp2_with fail
  refine (HP2.out _).mono ?_
  rintro _ w' ⟨rfl, rfl⟩
  go_upto_region 3 with (fail)
  go_cut [9] (fun s9 wx => s9 = .int .i64 low ∧ w = wx)
  case first =>
    by_cases h : xa ≤ xb
    · go_wp2_with fail
      go_meet
      exact ⟨vint (by omega), rfl⟩
    · go_wp2_with fail
      go_meet
      exact ⟨vint (by omega), rfl⟩
  case rest =>
  obtain ⟨rfl, rfl⟩ := hcut
  go_wp2_with fail
  with_reducible refine (HS1.out _).mono ?_
  rintro _ w1 ⟨A1, n1, c1, rfl, t1, b1⟩
  have y1 := bbw (below_alloc w _) b1
  go_wp2_with fail
  with_reducible refine (HS2.out _).mono ?_
  rintro _ w2 ⟨A2, n2, c2, rfl, t2, b2⟩
  have y2 := bbw (below_alloc w1 _) b2
  have t1' := t1.below y2
  have y3 := bbw y1 y2
  go_wp2_with fail
  refine (HN1.out _).mono ?_
  rintro _ w' ⟨rfl, rfl⟩
  go_wp2_with fail
  refine (HN2.out _).mono ?_
  rintro _ w' ⟨rfl, rfl⟩
  have l1 := t1'.small HZ.out.2.2.2.1
  have l2 := t2.small HZ.out.2.2.2.2
  by_cases hs : na = nb
  · subst hs
    have A1' := ref_nadd t1' t2 (by omega) (by omega)
    rw [val_words, val_words] at A1'
    have HA := Lib.hid A1'
    clear A1'
    go_wp2_with fail
    with_reducible refine HA.out.mono ?_
    rintro _ w3 ⟨A3, n3, c3, rfl, t3, b3⟩
    go_wp2_with fail
    with_reducible refine (HOF.out _ _ _ _ _ _ t3 HZ.out.1).mono ?_
    rintro _ w4 ⟨rfl, b4⟩
    go_wp2_with fail
    go_ret
    exact ⟨ret1 (by rw [HF.out, if_pos trivial, HE.out.1]), bbw y3 (bbw b3 b4)⟩
  · have C1 := ref_cmp t1' t2 (by omega) (by omega)
    rw [val_words, val_words] at C1
    have hs1 : (na == nb) = false := by simpa using hs
    obtain ⟨q1, q2⟩ := HL.out
    rcases Nat.lt_trichotomy X Y with hc | hc | hc
    · rw [cmpN_lt hc] at C1
      have SB := ref_nsub t2 t1' (by omega) (by omega) (by rw [val_words, val_words]; omega)
      rw [val_words, val_words] at SB
      have HC := Lib.hid C1
      have HSB := Lib.hid SB
      have HX := Lib.hid hc
      have HQ := Lib.hid (And.intro q1 q2)
      clear C1 SB hc q1 q2
      go_wp2_with fail
      refine HC.out.mono ?_
      rintro _ w' ⟨rfl, rfl⟩
      go_wp2_with fail
      with_reducible refine HSB.out.mono ?_
      rintro _ w3 ⟨A3, n3, c3, rfl, t3, b3⟩
      go_wp2_with fail
      with_reducible refine (HOF.out _ _ _ _ _ _ t3 HZ.out.2.2.1).mono ?_
      rintro _ w4 ⟨rfl, b4⟩
      go_wp2_with fail
      go_ret
      exact ⟨ret1 (by have r1 := HQ.out.1.2 HX.out; rw [HF.out, if_neg hs, if_neg (by omega), if_neg (by omega), HE.out.2.2]), bbw y3 (bbw b3 b4)⟩
    · rw [show cmpN X Y = 0 by rw [hc]; exact cmpN_eq Y] at C1
      have HC := Lib.hid C1
      have HX := Lib.hid hc
      have HQ := Lib.hid (And.intro q1 q2)
      clear C1 hc q1 q2
      go_wp2_with fail
      refine HC.out.mono ?_
      rintro _ w' ⟨rfl, rfl⟩
      go_wp2_with fail
      go_ret
      exact ⟨ret1 (by have r1 := HQ.out; have r2 := HX.out; rw [HF.out, if_neg hs, if_pos (by omega)]; rfl), y3⟩
    · rw [cmpN_gt hc] at C1
      have SB := ref_nsub t1' t2 (by omega) (by omega) (by rw [val_words, val_words]; omega)
      rw [val_words, val_words] at SB
      have HC := Lib.hid C1
      have HSB := Lib.hid SB
      have HX := Lib.hid hc
      have HQ := Lib.hid (And.intro q1 q2)
      clear C1 SB hc q1 q2
      go_wp2_with fail
      refine HC.out.mono ?_
      rintro _ w' ⟨rfl, rfl⟩
      go_wp2_with fail
      with_reducible refine HSB.out.mono ?_
      rintro _ w3 ⟨A3, n3, c3, rfl, t3, b3⟩
      go_wp2_with fail
      with_reducible refine (HOF.out _ _ _ _ _ _ t3 HZ.out.2.1).mono ?_
      rintro _ w4 ⟨rfl, b4⟩
      go_wp2_with fail
      go_ret
      exact ⟨ret1 (by have r1 := HQ.out.2.2 HX.out; rw [HF.out, if_neg hs, if_neg (by omega), if_pos r1, HE.out.2.1]), bbw y3 (bbw b3 b4)⟩

set_option maxHeartbeats 4000000 in
theorem rf_add {a b : Nat} (ha : a < 18446744073709551616) (hb : b < 18446744073709551616) (w : World) :
    Calls Tryd.prog 32 #[.int .u64 a, .int .u64 b] w (RetW (fadd a b) w) := by
  have K1 := Lib.hid (rf_kind ha w)
  have K2 := Lib.hid (rf_kind hb w)
  have c1 := kd_cases a
  have c2 := kd_cases b
  have NB := fun (h1 : kd a ≤ 2) (h2 : kd b ≤ 2) => rf_numbers ha hb (c1.2.1 h1) (c2.2.1 h2) w
  have hF : fadd a b = if kd a = 4 ∨ kd b = 4 ∨ (kd a = 3 ∧ kd b = 3 ∧ a ≠ b) then NAN else if kd a = 3 then a else if kd b = 3 then b else fsumF a b := rfl
  replace c1 := c1.1
  replace c2 := c2.1
  generalize fadd a b = F at *
  generalize fsumF a b = G at *
  generalize kd a = k at *
  generalize kd b = l at *
  by_cases h1 : k = 4
  · subst h1
    rw [if_pos (.inl rfl)] at hF
    have HF := Lib.hid hF
    clear hF NB
    go_enter Tryd.func32, Tryd.ntmps32
    go_wp2_with fail
    refine K1.out.mono ?_
    rintro _ w' ⟨rfl, rfl⟩
    go_wp2_with fail
    refine K2.out.mono ?_
    rintro _ w' ⟨rfl, rfl⟩
    go_wp2_with fail
    refine (rf_nan _).mono ?_
    rintro _ w' ⟨rfl, rfl⟩
    go_wp2_with fail
    go_ret
    exact ⟨ret1 (by rw [HF.out]), Below.refl _ _⟩
  · have g1 : ((k : Int) == 4) = false := by simp; omega
    by_cases h2 : l = 4
    · subst h2
      rw [if_pos (.inr (.inl rfl))] at hF
      have HF := Lib.hid hF
      clear hF NB
      go_enter Tryd.func32, Tryd.ntmps32
      go_wp2_with fail
      refine K1.out.mono ?_
      rintro _ w' ⟨rfl, rfl⟩
      go_wp2_with fail
      refine K2.out.mono ?_
      rintro _ w' ⟨rfl, rfl⟩
      go_wp2_with fail
      refine (rf_nan _).mono ?_
      rintro _ w' ⟨rfl, rfl⟩
      go_wp2_with fail
      go_ret
      exact ⟨ret1 (by rw [HF.out]), Below.refl _ _⟩
    · have g2 : ((l : Int) == 4) = false := by simp; omega
      by_cases h3 : k = 3
      · subst h3
        by_cases h4 : l = 3
        · subst h4
          by_cases h5 : a = b
          · subst h5
            rw [if_neg (by omega), if_pos rfl] at hF
            have HF := Lib.hid hF
            clear hF NB
            go_enter Tryd.func32, Tryd.ntmps32
            go_wp2_with fail
            refine K1.out.mono ?_
            rintro _ w' ⟨rfl, rfl⟩
            go_wp2_with fail
            refine K2.out.mono ?_
            rintro _ w' ⟨rfl, rfl⟩
            go_wp2_with fail
            go_ret
            exact ⟨ret1 (by rw [HF.out]), Below.refl _ _⟩
          · rw [if_pos (.inr (.inr ⟨rfl, rfl, h5⟩))] at hF
            have g5 : ((a : Int) != b) = true := by simp; omega
            have HF := Lib.hid hF
            clear hF NB
            go_enter Tryd.func32, Tryd.ntmps32
            go_wp2_with fail
            refine K1.out.mono ?_
            rintro _ w' ⟨rfl, rfl⟩
            go_wp2_with fail
            refine K2.out.mono ?_
            rintro _ w' ⟨rfl, rfl⟩
            go_wp2_with fail
            refine (rf_nan _).mono ?_
            rintro _ w' ⟨rfl, rfl⟩
            go_wp2_with fail
            go_ret
            exact ⟨ret1 (by rw [HF.out]), Below.refl _ _⟩
        · have g4 : ((l : Int) == 3) = false := by simp; omega
          rw [if_neg (by omega), if_pos rfl] at hF
          have HF := Lib.hid hF
          clear hF NB
          go_enter Tryd.func32, Tryd.ntmps32
          go_wp2_with fail
          refine K1.out.mono ?_
          rintro _ w' ⟨rfl, rfl⟩
          go_wp2_with fail
          refine K2.out.mono ?_
          rintro _ w' ⟨rfl, rfl⟩
          go_wp2_with fail
          go_ret
          exact ⟨ret1 (by rw [HF.out]), Below.refl _ _⟩
      · have g3 : ((k : Int) == 3) = false := by simp; omega
        by_cases h4 : l = 3
        · subst h4
          rw [if_neg (by omega), if_neg h3, if_pos rfl] at hF
          have HF := Lib.hid hF
          clear hF NB
          go_enter Tryd.func32, Tryd.ntmps32
          go_wp2_with fail
          refine K1.out.mono ?_
          rintro _ w' ⟨rfl, rfl⟩
          go_wp2_with fail
          refine K2.out.mono ?_
          rintro _ w' ⟨rfl, rfl⟩
          go_wp2_with fail
          go_ret
          exact ⟨ret1 (by rw [HF.out]), Below.refl _ _⟩
        · have g4 : ((l : Int) == 3) = false := by simp; omega
          rw [if_neg (by omega), if_neg h3, if_neg h4] at hF
          have HF := Lib.hid hF
          have HN := Lib.hid (NB (by omega) (by omega))
          clear hF NB
          go_enter Tryd.func32, Tryd.ntmps32
          go_wp2_with fail
          refine K1.out.mono ?_
          rintro _ w' ⟨rfl, rfl⟩
          go_wp2_with fail
          refine K2.out.mono ?_
          rintro _ w' ⟨rfl, rfl⟩
          go_wp2_with fail
          with_reducible refine HN.out.mono ?_
          rintro _ w' ⟨rfl, b1⟩
          go_wp2_with fail
          go_ret
          exact ⟨ret1 (by rw [HF.out]), b1⟩

theorem flc_lt' (b : Nat) : flc b < 18446744073709551616 := by have := flp_lt b; unfold flc NAN; split <;> omega
set_option maxHeartbeats 1000000 in
theorem rf_sub {a b : Nat} (ha : a < 18446744073709551616) (hb : b < 18446744073709551616) (w : World) :
    Calls Tryd.prog 29 #[.int .u64 a, .int .u64 b] w (RetW (fsub a b) w) := by
  have K1 := Lib.hid (rf_flip hb w)
  have HS := Lib.hid (rf_add ha (flc_lt' b) w)
  unfold fsub
  generalize fadd a (flc b) = F at *
  generalize flc b = k at *
  go_enter Tryd.func29, Tryd.ntmps29
  go_wp2_with fail
  refine K1.out.mono ?_
  rintro _ w' ⟨rfl, rfl⟩
  go_wp2_with fail
  with_reducible refine HS.out.mono ?_
  rintro _ w' ⟨rfl, b1⟩
  go_wp2_with fail
  go_ret
  exact ⟨rfl, b1⟩

end Go.Proofs.YtmoahgiklgicgaaDoor

namespace Go.Proofs.YtmoahgiklgicgaaDoor
set_option maxRecDepth 100000
open Go.RowKit
set_option linter.unusedVariables false
set_option linter.unusedSimpArgs false

theorem sg_kd {s : Bool} {M : Nat} (h : M ≤ INF) : kd (sg s M) ≠ 4 := by
  rw [INF_lit] at h
  have h1 : fld (sg s M) = M / 4503599627370496 ∧ rst (sg s M) = M % 4503599627370496 := by
    unfold fld rst sg
    cases s
    · simp; omega
    · simp; omega
  rw [kd_eq, h1.1, h1.2]
  split
  · split <;> omega
  · split
    · split <;> omega
    · omega
theorem flc_sg {s : Bool} {M : Nat} (h : M ≤ INF) : flc (sg s M) = sg (!s) M := by
  have h1 := sg_kd (s := s) h
  unfold flc
  rw [if_neg h1]
  rw [INF_lit] at h
  unfold flp sg
  cases s
  · simp; omega
  · simp; omega
theorem flp_mant (b : Nat) : mant (flp b) = mant b := by unfold mant flp; omega
theorem flp_ng {b : Nat} (hb : b < 18446744073709551616) : ng (flp b) = !(ng b) := by
  unfold ng flp
  rw [Bool.eq_iff_iff]
  simp
  omega
theorem flp_vl (b : Nat) : vl (flp b) = vl b := by unfold vl; rw [flp_mant]
theorem fsumF_opp {a b : Nat} (ha : a < 18446744073709551616) (hb : b < 18446744073709551616) : fsumF (flp a) (flp b) = flc (fsumF a b) ∨ (fsumF a b = 0 ∧ fsumF (flp a) (flp b) = 0) := by
  unfold fsumF
  rw [flp_vl, flp_vl, flp_ng ha, flp_ng hb]
  by_cases h : ng a = ng b
  · rw [if_pos h, if_pos (by rw [h]), flc_sg (mag_le _ _)]
    exact .inl rfl
  · have h' : ¬ ((!ng a) = !ng b) := fun x => h (by revert x; cases ng a <;> cases ng b <;> simp)
    rw [if_neg h, if_neg h']
    by_cases h2 : vl a = vl b
    · rw [if_pos h2, if_pos h2]; exact .inr ⟨rfl, rfl⟩
    · rw [if_neg h2, if_neg h2]
      by_cases h3 : vl b < vl a
      · rw [if_pos h3, if_pos h3, flc_sg (mag_le _ _)]; exact .inl rfl
      · rw [if_neg h3, if_neg h3, flc_sg (mag_le _ _)]; exact .inl rfl
theorem kd_nan : kd NAN = 4 := by decide +kernel
theorem flc_nan : flc NAN = NAN := by unfold flc; rw [if_pos kd_nan]
theorem flc_kd {b : Nat} (hb : b < 18446744073709551616) : kd (flc b) = kd b := by
  unfold flc
  split
  · rename_i h; rw [h, kd_nan]
  · exact flp_kind hb
theorem flp_inj {a b : Nat} (ha : a < 18446744073709551616) (hb : b < 18446744073709551616) (h : flp a = flp b) : a = b := by unfold flp at h; omega
theorem fadd_opp {a b : Nat} (ha : a < 18446744073709551616) (hb : b < 18446744073709551616) : fadd (flc a) (flc b) = flc (fadd a b) ∨ (fadd a b = 0 ∧ fadd (flc a) (flc b) = 0) := by
  unfold fadd
  rw [flc_kd ha, flc_kd hb]
  by_cases h1 : kd a = 4
  · rw [if_pos (.inl h1), if_pos (.inl h1), flc_nan]; exact .inl rfl
  · by_cases h2 : kd b = 4
    · rw [if_pos (.inr (.inl h2)), if_pos (.inr (.inl h2)), flc_nan]; exact .inl rfl
    · have ea : flc a = flp a := by unfold flc; rw [if_neg h1]
      have eb : flc b = flp b := by unfold flc; rw [if_neg h2]
      rw [ea, eb]
      by_cases h5 : kd a = 3 ∧ kd b = 3 ∧ a ≠ b
      · have h6 : flp a ≠ flp b := fun x => h5.2.2 (flp_inj ha hb x)
        rw [if_pos (.inr (.inr ⟨h5.1, h5.2.1, h6⟩)), if_pos (.inr (.inr h5)), flc_nan]; exact .inl rfl
      · have h7 : ¬ (kd a = 4 ∨ kd b = 4 ∨ (kd a = 3 ∧ kd b = 3 ∧ flp a ≠ flp b)) := by
          rintro (x | x | ⟨x, y, z⟩)
          · exact h1 x
          · exact h2 x
          · exact h5 ⟨x, y, fun q => z (by rw [q])⟩
        have h8 : ¬ (kd a = 4 ∨ kd b = 4 ∨ (kd a = 3 ∧ kd b = 3 ∧ a ≠ b)) := by
          rintro (x | x | x)
          · exact h1 x
          · exact h2 x
          · exact h5 x
        rw [if_neg h7, if_neg h8]
        by_cases h3 : kd a = 3
        · rw [if_pos h3, if_pos h3, ea]; exact .inl rfl
        · by_cases h4 : kd b = 3
          · rw [if_neg h3, if_pos h4, if_neg h3, if_pos h4, eb]; exact .inl rfl
          · rw [if_neg h3, if_neg h4, if_neg h3, if_neg h4]
            exact fsumF_opp ha hb
theorem sg_lt' {s : Bool} {M : Nat} (h : M ≤ INF) : sg s M < 18446744073709551616 := sg_lt h
theorem fsumF_lt (a b : Nat) : fsumF a b < 18446744073709551616 := by
  unfold fsumF
  split
  · exact sg_lt (mag_le _ _)
  · split
    · omega
    · split
      · exact sg_lt (mag_le _ _)
      · exact sg_lt (mag_le _ _)
theorem fadd_lt {a b : Nat} (ha : a < 18446744073709551616) (hb : b < 18446744073709551616) : fadd a b < 18446744073709551616 := by
  have := fsumF_lt a b
  unfold fadd NAN
  split
  · omega
  · split
    · omega
    · split <;> omega

end Go.Proofs.YtmoahgiklgicgaaDoor

namespace Go.Proofs.YtmoahgiklgicgaaDoor
set_option maxRecDepth 100000
open Go.RowKit
set_option linter.unusedVariables false
set_option linter.unusedSimpArgs false

/-! ### plain -/
theorem magR_leI (p q : Nat) (e : Int) : magR p q e ≤ INF := mag_le _ _
theorem bne_comm' (x y : Bool) : (x != y) = (y != x) := by cases x <;> cases y <;> rfl
theorem fmul_comm (a b : Nat) : fmul a b = fmul b a := by
  unfold fmul
  rw [bne_comm' (ng a) (ng b), Nat.mul_comm (sig a), Int.add_comm (xpo a)]
  by_cases h : kd a = 4 ∨ kd b = 4 ∨ (kd a = 3 ∧ kd b = 0) ∨ (kd a = 0 ∧ kd b = 3)
  · have h' : kd b = 4 ∨ kd a = 4 ∨ (kd b = 3 ∧ kd a = 0) ∨ (kd b = 0 ∧ kd a = 3) := by omega
    rw [if_pos h, if_pos h']
  · have h' : ¬ (kd b = 4 ∨ kd a = 4 ∨ (kd b = 3 ∧ kd a = 0) ∨ (kd b = 0 ∧ kd a = 3)) := by omega
    rw [if_neg h, if_neg h']
    by_cases g : kd a = 3 ∨ kd b = 3
    · have g' : kd b = 3 ∨ kd a = 3 := by omega
      rw [if_pos g, if_pos g']
    · have g' : ¬ (kd b = 3 ∨ kd a = 3) := by omega
      rw [if_neg g, if_neg g']
/-- a finite double is the one nearest to what it says -/
theorem self_near {a : Nat} (hf : fld a < 2047) : magR (sig a) 1 (xpo a) = mant a := by
  have hx := xpo_range hf
  rw [(magR_at (m := sig a) (e := xpo a) (s := (xpo a + 1074).toNat) (by omega)).1, ← fv_mant, mag_fv (mant_lt hf)]
theorem one_kd : kd 4607182418800017408 = 2 := by decide +kernel
theorem one_ng : ng 4607182418800017408 = false := by decide +kernel
theorem one_sig : sig 4607182418800017408 = 2 ^ 52 := by decide +kernel
theorem one_xpo : xpo 4607182418800017408 = -52 := by decide +kernel
theorem bne_false' (x : Bool) : (x != false) = x := by cases x <;> rfl
theorem fmul_one {a : Nat} (ha : a < 18446744073709551616) : fmul a 4607182418800017408 = cln a := by
  unfold fmul cln
  rw [one_kd, one_ng, one_sig, one_xpo, bne_false']
  have c := kd_cases a
  by_cases h4 : kd a = 4
  · rw [if_pos (.inl h4), if_pos h4]
  · have h : ¬ (kd a = 4 ∨ 2 = 4 ∨ (kd a = 3 ∧ 2 = 0) ∨ (kd a = 0 ∧ 2 = 3)) := by omega
    rw [if_neg h, if_neg h4]
    by_cases h3 : kd a = 3
    · rw [if_pos (.inl h3)]; exact (kd3 ha h3).symm
    · have h' : ¬ (kd a = 3 ∨ 2 = 3) := by omega
      rw [if_neg h', magR_shift _ _ _ (by omega), show xpo a + -52 + ((52 : Nat) : Int) = xpo a by omega, self_near (c.2.1 (by omega)), sg_mant a ha]
theorem mant_zero {a : Nat} (h : kd a = 0) : mant a = 0 := by
  have h1 := mant_fld a
  unfold kd at h
  split at h
  · split at h <;> omega
  · split at h
    · split at h
      · rename_i h2 h3 h4
        have := Nat.div_add_mod' (mant a) B52
        rw [h1.1, h1.2, h3, h4] at this
        omega
      · omega
    · omega
theorem fdiv_one {a : Nat} (ha : a < 18446744073709551616) : fdiv a 4607182418800017408 = cln a := by
  unfold fdiv cln
  rw [one_kd, one_ng, one_sig, one_xpo, bne_false']
  have c := kd_cases a
  by_cases h4 : kd a = 4
  · rw [if_pos (.inl h4), if_pos h4]
  · have h : ¬ (kd a = 4 ∨ 2 = 4 ∨ (kd a = 3 ∧ 2 = 3) ∨ (kd a = 0 ∧ 2 = 0)) := by omega
    rw [if_neg h, if_neg h4]
    by_cases h3 : kd a = 3
    · rw [if_pos (.inl h3)]; exact (kd3 ha h3).symm
    · have h' : ¬ (kd a = 3 ∨ 2 = 0) := by omega
      rw [if_neg h']
      by_cases h0 : kd a = 0
      · rw [if_pos (.inl h0)]
        have := sg_mant a ha
        rw [mant_zero h0] at this
        exact this
      · have h'' : ¬ (kd a = 0 ∨ 2 = 3) := by omega
        have e := magR_down (sig a) 1 52 (by omega) (xpo a)
        rw [Nat.one_mul] at e
        rw [if_neg h'', show xpo a - -52 = xpo a + ((52 : Nat) : Int) by omega, e, self_near (c.2.1 (by omega)), sg_mant a ha]
theorem flp_sig (b : Nat) : sig (flp b) = sig b ∧ xpo (flp b) = xpo b := by
  have h1 : fld (flp b) = fld b := by unfold fld flp; omega
  have h2 : rst (flp b) = rst b := by unfold rst flp; omega
  unfold sig xpo
  rw [h1, h2]
  exact ⟨rfl, rfl⟩
theorem bne_not (x y : Bool) : ((!x) != y) = !(x != y) := by cases x <;> cases y <;> rfl
theorem fmul_flip {a b : Nat} (ha : a < 18446744073709551616) : fmul (flc a) b = flc (fmul a b) := by
  unfold fmul
  rw [flc_kd ha]
  by_cases h4 : kd a = 4
  · rw [if_pos (.inl h4), if_pos (.inl h4), flc_nan]
  · have e : flc a = flp a := by unfold flc; rw [if_neg h4]
    rw [e, flp_ng ha, (flp_sig a).1, (flp_sig a).2, bne_not]
    by_cases h : kd a = 4 ∨ kd b = 4 ∨ (kd a = 3 ∧ kd b = 0) ∨ (kd a = 0 ∧ kd b = 3)
    · rw [if_pos h, if_pos h, flc_nan]
    · rw [if_neg h, if_neg h]
      by_cases g : kd a = 3 ∨ kd b = 3
      · rw [if_pos g, if_pos g, flc_sg (Nat.le_refl _)]
      · rw [if_neg g, if_neg g, flc_sg (magR_leI _ _ _)]
theorem fmul_lt (a b : Nat) : fmul a b < 18446744073709551616 := by
  unfold fmul
  split
  · unfold NAN; omega
  · split
    · exact sg_lt (Nat.le_refl _)
    · exact sg_lt (magR_leI _ _ _)
/-! ### the root of a rounded square -/
theorem inf_room {u R B I : Nat} (hI : I = 2047 * B) (hB : 0 < B) (hu : u ≤ 2023) (hR : R ≤ 2 * B) : min (u * B + R) I < I := by
  subst hI
  have := Nat.mul_le_mul_right B hu
  omega
theorem square_word {X : Nat} {x : Int} (hX1 : B52 ≤ X) (hX2 : X < 2 * B52) (hx1 : -552 ≤ x) (hx2 : x ≤ 448) :
    ∃ k R u : Nat, k = blen (X * X) - 53 ∧ R = rdiv (X * X) (2 ^ k) ∧ (u : Int) = k + 2 * x + 1074 ∧ 52 ≤ k ∧ k ≤ 53 ∧ R ≤ 2 * B52 ∧ magR (X * X) 1 (x + x) < INF ∧ fv (magR (X * X) 1 (x + x)) = R * 2 ^ u := by
  have hBB : B52 * B52 = 2 ^ 104 := by rw [B52_pow, ← Nat.pow_add]
  have hsq1 : B52 * B52 ≤ X * X := Nat.mul_le_mul hX1 hX1
  have hsq2 : X * X < 2 * B52 * (2 * B52) := Nat.mul_lt_mul_of_lt_of_le hX2 (Nat.le_of_lt hX2) (by omega)
  have hb1 : 105 ≤ blen (X * X) := blen_ge (k := 104) (by omega)
  have hb2 : blen (X * X) ≤ 106 := blen_le (by
    have : 2 * B52 * (2 * B52) = 4 * (B52 * B52) := by grind
    rw [this, hBB] at hsq2
    exact hsq2)
  have hpos : 0 < X * X := by have := B52_pos; exact Nat.mul_pos (by omega) (by omega)
  have hu := ulpR1 (m := X * X) (x + x) hpos
  obtain ⟨k, hk⟩ : ∃ k, k = blen (X * X) - 53 := ⟨_, rfl⟩
  obtain ⟨u, eu⟩ : ∃ u : Nat, (u : Int) = k + 2 * x + 1074 := ⟨(k + 2 * x + 1074).toNat, by omega⟩
  have hu2 : ulp (X * X * 2 ^ up (x + x)) (1 * 2 ^ dn (x + x)) = u := by omega
  have hd := up_dn (x + x)
  have e1 : 1 * 2 ^ dn (x + x) * 2 ^ u = 2 ^ k * 2 ^ up (x + x) := by
    rw [Nat.one_mul, ← Nat.pow_add, ← Nat.pow_add]; congr 1; omega
  have hpd : 0 < 1 * 2 ^ dn (x + x) := by have := Nat.two_pow_pos (dn (x + x)); omega
  have hle := units_le (X * X * 2 ^ up (x + x)) hpd
  rw [hu2, e1, rdiv_scale _ _ (Nat.two_pow_pos _)] at hle
  have hlt : magR (X * X) 1 (x + x) < INF := by
    unfold magR mag
    rw [hu2, e1, rdiv_scale _ _ (Nat.two_pow_pos _)]
    exact inf_room INF_eq B52_pos (by omega) hle
  refine ⟨k, rdiv (X * X) (2 ^ k), u, hk, rfl, eu, by omega, by omega, hle, hlt, ?_⟩
  unfold magR at hlt ⊢
  rw [fv_mag _ hpd hlt, hu2, e1, rdiv_scale _ _ (Nat.two_pow_pos _)]
theorem square_root {a : Nat} (h1 : 2355382605114769408 ≤ mant a) (h2 : mant a ≤ 6858982232485265408) : fsqrt (fmul a a) = mant a := by
  have hm := mant_fld a
  rw [B52_eq] at hm
  have hf : 523 ≤ fld a ∧ fld a ≤ 1523 := by omega
  have hka : kd a = 2 := by unfold kd; rw [if_neg (by omega), if_neg (by omega)]
  have hX : sig a = rst a + 4503599627370496 := by unfold sig; rw [if_neg (by omega)]
  have hxx : xpo a = (fld a : Int) - 1075 := by unfold xpo; rw [if_neg (by omega)]
  have hr := rst_lt a
  have hself := self_near (a := a) (by omega)
  have hX1 : B52 ≤ sig a := by rw [B52_eq]; omega
  have hX2 : sig a < 2 * B52 := by rw [B52_eq]; omega
  have e1 : fmul a a = magR (sig a * sig a) 1 (xpo a + xpo a) := by
    unfold fmul
    rw [hka, if_neg (by omega), if_neg (by omega), show (ng a != ng a) = false by cases ng a <;> rfl, sg_false]
  rw [e1]
  obtain ⟨k, R, u, hk, hR, hu, k1, k2, hRle, hlt, hfv⟩ := square_word hX1 hX2 (x := xpo a) (by omega) (by omega)
  obtain ⟨s1, s2, s3, s4⟩ := square_close hX1 hX2 hk hR
  generalize sig a = X at *
  generalize xpo a = x at *
  generalize magR (X * X) 1 (x + x) = M at *
  -- M is a finite double without a sign, and not 0
  have hI := INF_lit
  have hmM : mant M = M := by unfold mant; omega
  have hgM : ng M = false := by unfold ng; exact decide_eq_false (by omega)
  have hfM : fld M < 2047 := by
    have := mant_fld M
    rw [hmM] at this
    have h3 := INF_eq
    have h4 : M / B52 < 2047 := by rw [Nat.div_lt_iff_lt_mul B52_pos, ← h3]; exact hlt
    omega
  have hvM := vl_eq M
  unfold vl at hvM
  rw [hmM, hfv] at hvM
  have hRpos : 0 < R := by
    rcases Nat.eq_zero_or_pos R with h | h
    · exfalso
      rw [h, Nat.zero_mul] at s3
      have := Nat.mul_pos B52_pos B52_pos
      omega
    · exact h
  have hsp : 0 < sig M := by
    rcases Nat.eq_zero_or_pos (sig M) with h | h
    · exfalso
      rw [h, Nat.zero_mul] at hvM
      have := Nat.mul_pos hRpos (Nat.two_pow_pos u)
      omega
    · exact h
  have hk0 : kd M ≠ 0 := fun h => by have := sig_zero h; omega
  have hk2 := (kd_cases M).2.2 hfM
  have e2 : fsqrt M = fsqM M := by
    unfold fsqrt
    rw [if_neg hk0, if_neg (by rw [hgM]; simp; omega), if_neg (by omega)]
  rw [e2]
  unfold fsqM
  have hxM := xpo_range hfM
  have hu2 : upz M = 160 ∨ upz M = 161 := by unfold upz; split <;> omega
  have hu3 : (xpo M - (upz M : Int)) % 2 = 0 := by unfold upz; split <;> omega
  have hxle : xpo M ≤ 106 + 2 * x := by
    have a1 : 2 ^ (xpo M + 1074).toNat ≤ R * 2 ^ u := by
      rw [hvM]
      exact Nat.le_mul_of_pos_left _ hsp
    have a2 : R * 2 ^ u ≤ 2 ^ (53 + u) := by
      rw [Nat.pow_add]
      refine Nat.mul_le_mul_right _ ?_
      rw [show (2 : Nat) ^ 53 = 2 * B52 by rw [B52_eq]]
      exact hRle
    have a3 : (xpo M + 1074).toNat ≤ 53 + u := (Nat.pow_le_pow_iff_right (by omega)).1 (Nat.le_trans a1 a2)
    omega
  generalize xpo M = y at *
  generalize upz M = z at *
  obtain ⟨h, hh⟩ : ∃ h : Nat, 2 * (h : Int) = z + 2 * x - y := ⟨((z + 2 * x - y) / 2).toNat, by omega⟩
  have hN : sig M * 2 ^ z = R * 2 ^ k * 2 ^ (2 * h) := by
    have := cross_pow (X := sig M) (Y := R) (a := (y + 1074).toNat) (b := u) (m := z) (n := k + 2 * h) hvM.symm (by omega)
    rw [this, Nat.pow_add, Nat.mul_assoc]
  rw [hN]
  obtain ⟨g1, g2⟩ := rt_spec (R * 2 ^ k * 2 ^ (2 * h))
  unfold rtM
  generalize rt (R * 2 ^ k * 2 ^ (2 * h)) = r at *
  have hc := root_close (e := (y - (z : Int)) / 2) hX1 hX2 s1 s2 s3 s4 (by omega) g1 g2 (by omega)
  have ex : (y - (z : Int)) / 2 + h = x := by omega
  rw [ex, hself] at hc
  by_cases hq : r * r = R * 2 ^ k * 2 ^ (2 * h)
  · rw [decide_eq_false (by omega), magM_no]; exact hc.1 hq
  · rw [decide_eq_true hq, magM_yes]; exact hc.2 hq
theorem root_two : fsqrt 4611686018427387904 = 4609047870845172685 := by
  unfold fsqrt
  rw [if_neg (by decide +kernel), if_neg (by decide +kernel), if_neg (by decide +kernel)]
  unfold fsqM
  rw [show upz 4611686018427387904 = 161 by decide +kernel, show sig 4611686018427387904 = 4503599627370496 by decide +kernel, show xpo 4611686018427387904 = -51 by decide +kernel]
  rw [rtM_of (r := 114734634956362014553563009489834) _ (by decide +kernel) (by decide +kernel)]
  decide +kernel

/-! ### the walks -/
theorem andNot_mant {a : Nat} (h : a < 18446744073709551616) : bits .andNot .u64 (a : Int) 9223372036854775808 = (mant a : Int) := by
  have h1 := u64_andNot_nat a 9223372036854775808 h (by omega)
  rw [show ((9223372036854775808 : Nat) : Int) = 9223372036854775808 from rfl] at h1
  rw [h1, show 18446744073709551615 - 9223372036854775808 = 2 ^ 63 - 1 by decide, Nat.and_two_pow_sub_one_eq_mod]
  rfl

end Go.Proofs.YtmoahgiklgicgaaDoor

namespace Go.Proofs.YtmoahgiklgicgaaDoor
set_option maxRecDepth 100000
open Go.RowKit
set_option linter.unusedVariables false
set_option linter.unusedSimpArgs false

/-- the struct of the sign s and the slices (A n c), (A' n' c') reads, in w, as X -/
def Q (w : World) (s : Bool) (A : Option Addr) (n c : Nat) (A' : Option Addr) (n' c' : Nat) (X : Rat) : Prop :=
  s = neg_ X ∧ Sl w A n c (words X.num.natAbs) ∧ Sl w A' n' c' (words X.den)
theorem Q.below {w w' : World} {s : Bool} {A A' : Option Addr} {n c n' c' : Nat} {X : Rat} (h : Q w s A n c A' n' c' X) (hb : Below w.heap.size w w') : Q w' s A n c A' n' c' X :=
  ⟨h.1, h.2.1.below hb, h.2.2.below hb⟩
theorem Q.drewN {w : World} {s : Bool} {A A' : Option Addr} {n c n' c' : Nat} {X : Rat} (h : Q w s A n c A' n' c' X) (k : Nat) : Q (w.drewN k) s A n c A' n' c' X := h
/-- a call that returns a number, and turns nothing that was there -/
def RetQ (X : Rat) (w : World) (e : Ending) (w' : World) : Prop :=
  ∃ s A n c A' n' c', e = .returned (.agg #[.bool s, .slice A n c, .slice A' n' c']) ∧ Q w' s A n c A' n' c' X ∧ Below w.heap.size w w'
/-- .. and an error's number -/
def RetQE (X : Rat) (k : Int) (w : World) (e : Ending) (w' : World) : Prop :=
  ∃ s A n c A' n' c', e = .returned (.tuple #[.agg #[.bool s, .slice A n c, .slice A' n' c'], .int .i64 k]) ∧ Q w' s A n c A' n' c' X ∧ Below w.heap.size w w'
/-- .. no number, and an error's number -/
def RetNo (k : Int) (w : World) (e : Ending) (w' : World) : Prop :=
  e = .returned (.tuple #[.agg #[.bool false, .slice none 0 0, .slice none 0 0], .int .i64 k]) ∧ Below w.heap.size w w'

/-- block g of w is just the cells vs, none frozen -/
def Box (t : TypeId) (w : World) (g : Nat) (vs : Array Value) : Prop := w.heap[g]? = some (.cells vs t (0, 0))
section
variable {t : TypeId} {w w' : World} {g : Nat} {vs : Array Value}
theorem Box.new (w : World) (t : TypeId) (vs : Array Value) : Box t (w.alloc (.cells vs t)) w.heap.size vs := heap_alloc_new w _
theorem Box.lt (h : Box t w g vs) : g < w.heap.size := by
  rcases Nat.lt_or_ge g w.heap.size with hlt | hge
  · exact hlt
  · unfold Box at h; rw [Array.getElem?_eq_none hge] at h; cases h
theorem Box.below {B : Nat} (h : Box t w g vs) (hb : Below B w w') (hg : g < B) : Box t w' g vs := (hb.block g hg).trans h
theorem Box.below' (h : Box t w g vs) (hb : Below w.heap.size w w') : Box t w' g vs := h.below hb h.lt
theorem Box.alloc (h : Box t w g vs) (o : Obj) : Box t (w.alloc o) g vs := h.below (below_alloc w o) h.lt
theorem Box.cell (h : Box t w g vs) (i : Nat) : w.cell? ⟨g, i, none⟩ = vs[i]? := by
  rw [cell_of_row w g i _ t (0, 0) h]
theorem Box.free (h : Box t w g vs) (i : Nat) : w.frozen? ⟨g, i, none⟩ = false := by
  unfold Box at h
  simp [World.frozen?, h]
/-- the three cells of a box of a number -/
theorem Box.three {v0 v1 v2 : Value} (h : Box t w g #[v0, v1, v2]) :
    (w.cell? ⟨g, 0, none⟩ = some v0 ∧ w.cell? ⟨g, 1, none⟩ = some v1 ∧ w.cell? ⟨g, 2, none⟩ = some v2) ∧
    (w.frozen? ⟨g, 0, none⟩ = false ∧ w.frozen? ⟨g, 1, none⟩ = false ∧ w.frozen? ⟨g, 2, none⟩ = false) :=
  ⟨⟨h.cell 0, h.cell 1, h.cell 2⟩, h.free 0, h.free 1, h.free 2⟩
end
/-- a number is stored into block g -/
def put3 (w : World) (g : Nat) (x0 x1 x2 : Value) : World := ((w.setCell ⟨g, 0, none⟩ x0).setCell ⟨g, 1, none⟩ x1).setCell ⟨g, 2, none⟩ x2
/-- a box of a number (none of its cells is an integer) -/
def IsBox (t : TypeId) (w : World) (g : Nat) : Prop := ∃ s A n c A' n' c', Box t w g #[.bool s, .slice A n c, .slice A' n' c']
theorem IsBox.below {t : TypeId} {w w' : World} {g : Nat} (h : IsBox t w g) (hb : Below w.heap.size w w') : IsBox t w' g := by
  obtain ⟨s, A, n, c, A', n', c', h⟩ := h
  exact ⟨s, A, n, c, A', n', c', h.below' hb⟩
theorem Sl.apartBox {t : TypeId} {w : World} {g : Nat} {A : Option Addr} {n c : Nat} {xs : List Int} (hB : IsBox t w g) (h : Sl w A n c xs) : SlN g w A n c xs := by
  refine ⟨h, fun h0 => ?_⟩
  obtain ⟨b, off, e, hlt, hc⟩ := h.2 h0
  refine ⟨b, off, e, fun e2 => ?_⟩
  subst e2
  obtain ⟨s, B, m, d, B', m', d', hb⟩ := hB
  have k := hc 0 h0
  rw [hb.cell] at k
  match off, k with
  | 0, k => simp at k
  | 1, k => simp at k
  | 2, k => simp at k
  | off + 3, k => simp at k
theorem keep_put3 (w : World) (g : Nat) (x0 x1 x2 : Value) : Keep g w (put3 w g x0 x1 x2) := (((Keep.refl g w).setCell 0 x0).setCell 1 x1).setCell 2 x2
theorem Sl.put3 {t : TypeId} {w : World} {g : Nat} {A : Option Addr} {n c : Nat} {xs : List Int} {x0 x1 x2 : Value} (hB : IsBox t w g) (h : Sl w A n c xs) : Sl (put3 w g x0 x1 x2) A n c xs :=
  ((h.apartBox hB).keep (keep_put3 w g x0 x1 x2)).sl
theorem Q.put3 {t : TypeId} {w : World} {g : Nat} {s : Bool} {A A' : Option Addr} {n c n' c' : Nat} {X : Rat} {x0 x1 x2 : Value} (hB : IsBox t w g) (h : Q w s A n c A' n' c' X) : Q (put3 w g x0 x1 x2) s A n c A' n' c' X :=
  ⟨h.1, h.2.1.put3 hB, h.2.2.put3 hB⟩
theorem below_put3 {B g : Nat} {a w : World} (h : Below B a w) (hg : B ≤ g) (hB : B ≤ a.heap.size) (x0 x1 x2 : Value) : Below B a (put3 w g x0 x1 x2) := Below.keep h (keep_put3 w g x0 x1 x2) hg hB

theorem Box.put3 {t : TypeId} {w : World} {g g' : Nat} {vs : Array Value} (h : Box t w g vs) (hne : g ≠ g') (x0 x1 x2 : Value) : Box t (put3 w g' x0 x1 x2) g vs := ((keep_put3 w g' x0 x1 x2).block g h.lt hne).trans h
theorem bb {a b c : World} (h : Below a.heap.size a b) (k : Below b.heap.size b c) : Below a.heap.size a c := h.trans (k.mono h.size)
/-- a call that returns a natural with a sign -/
def RetSB (z : Int) (w : World) (e : Ending) (w' : World) : Prop :=
  ∃ s A n c, e = .returned (.tuple #[.bool s, .slice A n c]) ∧ sI s z.natAbs = z ∧ Sl w' A n c (words z.natAbs) ∧ Below w.heap.size w w'
/-- a call that returns an integer, a bool, and turns nothing that was there -/
def RetI (z : Int) (w : World) (e : Ending) (w' : World) : Prop := e = .returned (.int .i64 z) ∧ Below w.heap.size w w'
def RetBl (b : Bool) (w : World) (e : Ending) (w' : World) : Prop := e = .returned (.bool b) ∧ Below w.heap.size w w'
/-- the world behind the boxes of a number and of a result -/
theorem boxes1 (t : TypeId) (w : World) (vs us : Array Value) : ∃ W, (w.alloc (.cells vs t)).alloc (.cells us t) = W ∧ Box t W w.heap.size vs ∧ Box t W (w.heap.size + 1) us ∧ Below w.heap.size w W := by
  refine ⟨_, rfl, (Box.new w t vs).alloc _, ?_, (below_alloc _ _).alloc (by simp) _⟩
  have := Box.new (w.alloc (.cells vs t)) t us
  rw [show (w.alloc (.cells vs t)).heap.size = w.heap.size + 1 from by simp] at this
  exact this
theorem boxes2 (t : TypeId) (w : World) (vs us xs : Array Value) : ∃ W, ((w.alloc (.cells vs t)).alloc (.cells us t)).alloc (.cells xs t) = W ∧ Box t W w.heap.size vs ∧ Box t W (w.heap.size + 1) us ∧ Box t W (w.heap.size + 1 + 1) xs ∧ Below w.heap.size w W := by
  obtain ⟨W, h, h1, h2, h3⟩ := boxes1 t w vs us
  have hs : W.heap.size = w.heap.size + 2 := by rw [← h]; simp
  refine ⟨_, rfl, ?_, ?_, ?_, ?_⟩
  · rw [h]; exact h1.alloc _
  · rw [h]; exact h2.alloc _
  · rw [h, ← hs]; exact Box.new W t xs
  · rw [h]; exact h3.alloc h3.size _

end Go.Proofs.YtmoahgiklgicgaaDoor

namespace Go.Proofs.YtmoahgiklgicgaaDoor
set_option maxRecDepth 100000
open Go.RowKit
set_option linter.unusedVariables false
set_option linter.unusedSimpArgs false

theorem of_rq (z : Int) : rq (decide (z < 0)) z.natAbs 1 = (z : Rat) := by
  unfold rq
  have e : sI (decide (z < 0)) z.natAbs = z := by unfold sI; by_cases h : z < 0 <;> simp [h] <;> omega
  rw [e]
  have := Rat.mkRat_self (z : Rat)
  simpa using this
end Go.Proofs.YtmoahgiklgicgaaDoor
