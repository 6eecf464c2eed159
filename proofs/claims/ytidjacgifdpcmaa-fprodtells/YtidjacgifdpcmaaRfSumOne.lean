/-
  What the document's functions of layer 11 (gradineref11) return for any words. Conditions: the words are below 2^64; numbers: both are finite.
-/
import Derived.Test.YtidjacgifdpcmaaFsMath
import Derived.Test.YtidjacgifdpcmaaFrRunAll
import Derived.Test.YtidjacgifdpcmaaRefShift
namespace Go.Proofs.Ytidjacgifdpcmaa
set_option maxRecDepth 100000
open Go.RowKit
set_option linter.unusedVariables false
set_option linter.unusedSimpArgs false

/-- both numbers over one exponent -/
theorem num_parts {a b : Nat} (fa : fld a < 2047) (fb : fld b < 2047) {low : Int} (hlow : min (xpo a) (xpo b) = low) : ∃ K, 0 < K ∧ vl a = sig a * 2 ^ clampS (xpo a - low) * K ∧ vl b = sig b * 2 ^ clampS (xpo b - low) * K ∧ (∀ V, magR V 1 low = mag (V * K) 1) ∧ sig a * 2 ^ clampS (xpo a - low) < W ^ 33 ∧ sig b * 2 ^ clampS (xpo b - low) < W ^ 33 := by
  obtain ⟨h1, h2⟩ := xpo_range fa
  obtain ⟨h3, h4⟩ := xpo_range fb
  have s1 := sig_lt a
  have s2 := sig_lt b
  have c1 : clampS (xpo a - low) = (xpo a - low).toNat := clampS_mid (by omega) (by omega)
  have c2 : clampS (xpo b - low) = (xpo b - low).toNat := clampS_mid (by omega) (by omega)
  refine ⟨2 ^ (low + 1074).toNat, Nat.two_pow_pos _, ?_, ?_, fun V => (magR_at (m := V) (e := low) (s := (low + 1074).toNat) (by omega)).1, ?_, ?_⟩
  · rw [vl_eq, c1, Nat.mul_assoc, ← Nat.pow_add]; congr 2; omega
  · rw [vl_eq, c2, Nat.mul_assoc, ← Nat.pow_add]; congr 2; omega
  · exact mul_lt_pow (a := sig a) (k := 1) (l := 32) (by rw [Nat.pow_one]; unfold W; omega) (by omega)
  · exact mul_lt_pow (a := sig b) (k := 1) (l := 32) (by rw [Nat.pow_one]; unfold W; omega) (by omega)
theorem two_W {x y k : Nat} (hx : x < W ^ k) (hy : y < W ^ k) : x + y < W ^ (k + 1) := by
  rw [Nat.pow_succ]
  have : W ^ k * 2 ≤ W ^ k * W := Nat.mul_le_mul_left _ (by unfold W; omega)
  omega

set_option maxRecDepth 100000 in
set_option maxHeartbeats 4000000 in
theorem rf_numbers {a b : Nat} (ha : a < 18446744073709551616) (hb : b < 18446744073709551616) (fa : fld a < 2047) (fb : fld b < 2047) (w : World) :
    Calls Try.prog 36 #[.int .u64 a, .int .u64 b] w (RetW (fsumF a b) w) := by
  obtain ⟨low, hlow⟩ : ∃ low, min (xpo a) (xpo b) = low := ⟨_, rfl⟩
  obtain ⟨K, hK, v1, v2, hmag, x1, x2⟩ := num_parts fa fb hlow
  obtain ⟨h1, h2⟩ := xpo_range fa
  obtain ⟨h3, h4⟩ := xpo_range fb
  have s1 := sig_lt a
  have s2 := sig_lt b
  have hF : fsumF a b = if ng a = ng b then sg (ng a) (mag (vl a + vl b) 1) else if vl a = vl b then 0 else if vl b < vl a then sg (ng a) (mag (vl a - vl b) 1) else sg (ng b) (mag (vl b - vl a) 1) := rfl
  have P1 := fun w1 => rf_parts ha w1
  have P2 := fun w1 => rf_parts hb w1
  have N1 := fun w1 => rf_neg ha w1
  have N2 := fun w1 => rf_neg hb w1
  have S1 := fun w1 => ref_shl (sl_lit w1 (sig a : Int) (by unfold U; omega)) (by omega) (xpo a - low)
  have S2 := fun w1 => ref_shl (sl_lit w1 (sig b : Int) (by unfold U; omega)) (by omega) (xpo b - low)
  rw [val_one, Int.toNat_natCast] at S1 S2
  generalize sig a * 2 ^ clampS (xpo a - low) = X at *
  generalize sig b * 2 ^ clampS (xpo b - low) = Y at *
  have o1 : -1099511627777 ≤ low := by clear x1 x2 v1 v2 hmag; omega
  have o2 : low ≤ 1099511627776 := by clear x1 x2 v1 v2 hmag; omega
  have OF := fun (s : Bool) (w1 : World) (A : Option Addr) (n c V : Nat) (t : Sl w1 A n c (words V)) (hV : V < W ^ 34) => rf_of s t (Nat.le_trans (t.small hV) (by decide)) (e := low) o1 o2
  simp only [val_words, hmag] at OF
  have e1 : (X + Y) * K = vl a + vl b := by rw [v1, v2, Nat.add_mul]
  have e2 : (X - Y) * K = vl a - vl b := by rw [v1, v2, Nat.sub_mul]
  have e3 : (Y - X) * K = vl b - vl a := by rw [v1, v2, Nat.sub_mul]
  have hlt : vl a < vl b ↔ X < Y := by
    rw [v1, v2]
    exact ⟨fun h => Nat.lt_of_mul_lt_mul_right h, fun h => Nat.mul_lt_mul_of_pos_right h hK⟩
  have hgt : vl b < vl a ↔ Y < X := by
    rw [v1, v2]
    exact ⟨fun h => Nat.lt_of_mul_lt_mul_right h, fun h => Nat.mul_lt_mul_of_pos_right h hK⟩
  have z1 : X + Y < W ^ 34 := two_W x1 x2
  have z2 : X - Y < W ^ 34 := Nat.lt_of_le_of_lt (by clear z1 x1 x2; omega) z1
  have z3 : Y - X < W ^ 34 := Nat.lt_of_le_of_lt (by clear z1 z2 x1 x2; omega) z1
  clear v1 v2 hK hmag
  generalize fsumF a b = F at *
  generalize vl a = va at *
  generalize vl b = vb at *
  generalize hg1 : sig a = g1 at *
  generalize hg2 : sig b = g2 at *
  generalize hxa : xpo a = xa at *
  generalize hxb : xpo b = xb at *
  generalize ng a = na at *
  generalize ng b = nb at *
  have HP1 := Lib.hid P1
  have HP2 := Lib.hid P2
  have HN1 := Lib.hid N1
  have HN2 := Lib.hid N2
  have HS1 := Lib.hid S1
  have HS2 := Lib.hid S2
  have HOF := Lib.hid OF
  have HF := Lib.hid hF
  have HZ := Lib.hid (And.intro z1 (And.intro z2 (And.intro z3 (And.intro x1 x2))))
  have HE := Lib.hid (And.intro e1 (And.intro e2 e3))
  have HL := Lib.hid (And.intro hlt hgt)
  clear P1 P2 N1 N2 S1 S2 OF hF z1 z2 z3 e1 e2 e3 hlt hgt hg1 hg2 hxa hxb x1 x2
  go_enter Try.func36, Try.ntmps36
  go_wp2_with fail
  refine (HP1.out _).mono ?_
  rintro _ w' ⟨rfl, rfl⟩
  go_wp2_with fail
  refine (HP2.out _).mono ?_
  rintro _ w' ⟨rfl, rfl⟩
  go_upto_region 3 with (fail)
  go_cut [9] (fun s9 wx => s9 = .int .i64 low ∧ w = wx)
  case first =>
    by_cases h : xa ≤ xb
    · go_wp2_with fail
      go_meet
      exact ⟨vint (by omega), rfl⟩
    · go_wp2_with fail
      go_meet
      exact ⟨vint (by omega), rfl⟩
  case rest =>
  obtain ⟨rfl, rfl⟩ := hcut
  go_wp2_with fail
  with_reducible refine (HS1.out _).mono ?_
  rintro _ w1 ⟨A1, n1, c1, rfl, t1, b1⟩
  have y1 := bbw (below_alloc w _) b1
  go_wp2_with fail
  with_reducible refine (HS2.out _).mono ?_
  rintro _ w2 ⟨A2, n2, c2, rfl, t2, b2⟩
  have y2 := bbw (below_alloc w1 _) b2
  have t1' := t1.below y2
  have y3 := bbw y1 y2
  go_wp2_with fail
  refine (HN1.out _).mono ?_
  rintro _ w' ⟨rfl, rfl⟩
  go_wp2_with fail
  refine (HN2.out _).mono ?_
  rintro _ w' ⟨rfl, rfl⟩
  have l1 := t1'.small HZ.out.2.2.2.1
  have l2 := t2.small HZ.out.2.2.2.2
  by_cases hs : na = nb
  · subst hs
    have A1' := ref_nadd t1' t2 (by omega) (by omega)
    rw [val_words, val_words] at A1'
    have HA := Lib.hid A1'
    clear A1'
    go_wp2_with fail
    with_reducible refine HA.out.mono ?_
    rintro _ w3 ⟨A3, n3, c3, rfl, t3, b3⟩
    go_wp2_with fail
    with_reducible refine (HOF.out _ _ _ _ _ _ t3 HZ.out.1).mono ?_
    rintro _ w4 ⟨rfl, b4⟩
    go_wp2_with fail
    go_ret
    exact ⟨ret1 (by rw [HF.out, if_pos trivial, HE.out.1]), bbw y3 (bbw b3 b4)⟩
  · have C1 := ref_cmp t1' t2 (by omega) (by omega)
    rw [val_words, val_words] at C1
    have hs1 : (na == nb) = false := by simpa using hs
    obtain ⟨q1, q2⟩ := HL.out
    rcases Nat.lt_trichotomy X Y with hc | hc | hc
    · rw [cmpN_lt hc] at C1
      have SB := ref_nsub t2 t1' (by omega) (by omega) (by rw [val_words, val_words]; omega)
      rw [val_words, val_words] at SB
      have HC := Lib.hid C1
      have HSB := Lib.hid SB
      have HX := Lib.hid hc
      have HQ := Lib.hid (And.intro q1 q2)
      clear C1 SB hc q1 q2
      go_wp2_with fail
      refine HC.out.mono ?_
      rintro _ w' ⟨rfl, rfl⟩
      go_wp2_with fail
      with_reducible refine HSB.out.mono ?_
      rintro _ w3 ⟨A3, n3, c3, rfl, t3, b3⟩
      go_wp2_with fail
      with_reducible refine (HOF.out _ _ _ _ _ _ t3 HZ.out.2.2.1).mono ?_
      rintro _ w4 ⟨rfl, b4⟩
      go_wp2_with fail
      go_ret
      exact ⟨ret1 (by have r1 := HQ.out.1.2 HX.out; rw [HF.out, if_neg hs, if_neg (by omega), if_neg (by omega), HE.out.2.2]), bbw y3 (bbw b3 b4)⟩
    · rw [show cmpN X Y = 0 by rw [hc]; exact cmpN_eq Y] at C1
      have HC := Lib.hid C1
      have HX := Lib.hid hc
      have HQ := Lib.hid (And.intro q1 q2)
      clear C1 hc q1 q2
      go_wp2_with fail
      refine HC.out.mono ?_
      rintro _ w' ⟨rfl, rfl⟩
      go_wp2_with fail
      go_ret
      exact ⟨ret1 (by have r1 := HQ.out; have r2 := HX.out; rw [HF.out, if_neg hs, if_pos (by omega)]; rfl), y3⟩
    · rw [cmpN_gt hc] at C1
      have SB := ref_nsub t1' t2 (by omega) (by omega) (by rw [val_words, val_words]; omega)
      rw [val_words, val_words] at SB
      have HC := Lib.hid C1
      have HSB := Lib.hid SB
      have HX := Lib.hid hc
      have HQ := Lib.hid (And.intro q1 q2)
      clear C1 SB hc q1 q2
      go_wp2_with fail
      refine HC.out.mono ?_
      rintro _ w' ⟨rfl, rfl⟩
      go_wp2_with fail
      with_reducible refine HSB.out.mono ?_
      rintro _ w3 ⟨A3, n3, c3, rfl, t3, b3⟩
      go_wp2_with fail
      with_reducible refine (HOF.out _ _ _ _ _ _ t3 HZ.out.2.1).mono ?_
      rintro _ w4 ⟨rfl, b4⟩
      go_wp2_with fail
      go_ret
      exact ⟨ret1 (by have r1 := HQ.out.2.2 HX.out; rw [HF.out, if_neg hs, if_neg (by omega), if_pos r1, HE.out.2.1]), bbw y3 (bbw b3 b4)⟩

set_option maxHeartbeats 4000000 in
theorem rf_add {a b : Nat} (ha : a < 18446744073709551616) (hb : b < 18446744073709551616) (w : World) :
    Calls Try.prog 11 #[.int .u64 a, .int .u64 b] w (RetW (fadd a b) w) := by
  have K1 := Lib.hid (rf_kind ha w)
  have K2 := Lib.hid (rf_kind hb w)
  have c1 := kd_cases a
  have c2 := kd_cases b
  have NB := fun (h1 : kd a ≤ 2) (h2 : kd b ≤ 2) => rf_numbers ha hb (c1.2.1 h1) (c2.2.1 h2) w
  have hF : fadd a b = if kd a = 4 ∨ kd b = 4 ∨ (kd a = 3 ∧ kd b = 3 ∧ a ≠ b) then NAN else if kd a = 3 then a else if kd b = 3 then b else fsumF a b := rfl
  replace c1 := c1.1
  replace c2 := c2.1
  generalize fadd a b = F at *
  generalize fsumF a b = G at *
  generalize kd a = k at *
  generalize kd b = l at *
  by_cases h1 : k = 4
  · subst h1
    rw [if_pos (.inl rfl)] at hF
    have HF := Lib.hid hF
    clear hF NB
    go_enter Try.func11, Try.ntmps11
    go_wp2_with fail
    refine K1.out.mono ?_
    rintro _ w' ⟨rfl, rfl⟩
    go_wp2_with fail
    refine K2.out.mono ?_
    rintro _ w' ⟨rfl, rfl⟩
    go_wp2_with fail
    refine (rf_nan _).mono ?_
    rintro _ w' ⟨rfl, rfl⟩
    go_wp2_with fail
    go_ret
    exact ⟨ret1 (by rw [HF.out]), Below.refl _ _⟩
  · have g1 : ((k : Int) == 4) = false := by simp; omega
    by_cases h2 : l = 4
    · subst h2
      rw [if_pos (.inr (.inl rfl))] at hF
      have HF := Lib.hid hF
      clear hF NB
      go_enter Try.func11, Try.ntmps11
      go_wp2_with fail
      refine K1.out.mono ?_
      rintro _ w' ⟨rfl, rfl⟩
      go_wp2_with fail
      refine K2.out.mono ?_
      rintro _ w' ⟨rfl, rfl⟩
      go_wp2_with fail
      refine (rf_nan _).mono ?_
      rintro _ w' ⟨rfl, rfl⟩
      go_wp2_with fail
      go_ret
      exact ⟨ret1 (by rw [HF.out]), Below.refl _ _⟩
    · have g2 : ((l : Int) == 4) = false := by simp; omega
      by_cases h3 : k = 3
      · subst h3
        by_cases h4 : l = 3
        · subst h4
          by_cases h5 : a = b
          · subst h5
            rw [if_neg (by omega), if_pos rfl] at hF
            have HF := Lib.hid hF
            clear hF NB
            go_enter Try.func11, Try.ntmps11
            go_wp2_with fail
            refine K1.out.mono ?_
            rintro _ w' ⟨rfl, rfl⟩
            go_wp2_with fail
            refine K2.out.mono ?_
            rintro _ w' ⟨rfl, rfl⟩
            go_wp2_with fail
            go_ret
            exact ⟨ret1 (by rw [HF.out]), Below.refl _ _⟩
          · rw [if_pos (.inr (.inr ⟨rfl, rfl, h5⟩))] at hF
            have g5 : ((a : Int) != b) = true := by simp; omega
            have HF := Lib.hid hF
            clear hF NB
            go_enter Try.func11, Try.ntmps11
            go_wp2_with fail
            refine K1.out.mono ?_
            rintro _ w' ⟨rfl, rfl⟩
            go_wp2_with fail
            refine K2.out.mono ?_
            rintro _ w' ⟨rfl, rfl⟩
            go_wp2_with fail
            refine (rf_nan _).mono ?_
            rintro _ w' ⟨rfl, rfl⟩
            go_wp2_with fail
            go_ret
            exact ⟨ret1 (by rw [HF.out]), Below.refl _ _⟩
        · have g4 : ((l : Int) == 3) = false := by simp; omega
          rw [if_neg (by omega), if_pos rfl] at hF
          have HF := Lib.hid hF
          clear hF NB
          go_enter Try.func11, Try.ntmps11
          go_wp2_with fail
          refine K1.out.mono ?_
          rintro _ w' ⟨rfl, rfl⟩
          go_wp2_with fail
          refine K2.out.mono ?_
          rintro _ w' ⟨rfl, rfl⟩
          go_wp2_with fail
          go_ret
          exact ⟨ret1 (by rw [HF.out]), Below.refl _ _⟩
      · have g3 : ((k : Int) == 3) = false := by simp; omega
        by_cases h4 : l = 3
        · subst h4
          rw [if_neg (by omega), if_neg h3, if_pos rfl] at hF
          have HF := Lib.hid hF
          clear hF NB
          go_enter Try.func11, Try.ntmps11
          go_wp2_with fail
          refine K1.out.mono ?_
          rintro _ w' ⟨rfl, rfl⟩
          go_wp2_with fail
          refine K2.out.mono ?_
          rintro _ w' ⟨rfl, rfl⟩
          go_wp2_with fail
          go_ret
          exact ⟨ret1 (by rw [HF.out]), Below.refl _ _⟩
        · have g4 : ((l : Int) == 3) = false := by simp; omega
          rw [if_neg (by omega), if_neg h3, if_neg h4] at hF
          have HF := Lib.hid hF
          have HN := Lib.hid (NB (by omega) (by omega))
          clear hF NB
          go_enter Try.func11, Try.ntmps11
          go_wp2_with fail
          refine K1.out.mono ?_
          rintro _ w' ⟨rfl, rfl⟩
          go_wp2_with fail
          refine K2.out.mono ?_
          rintro _ w' ⟨rfl, rfl⟩
          go_wp2_with fail
          with_reducible refine HN.out.mono ?_
          rintro _ w' ⟨rfl, b1⟩
          go_wp2_with fail
          go_ret
          exact ⟨ret1 (by rw [HF.out]), b1⟩

theorem flc_lt' (b : Nat) : flc b < 18446744073709551616 := by have := flp_lt b; unfold flc NAN; split <;> omega
set_option maxHeartbeats 1000000 in
theorem rf_sub {a b : Nat} (ha : a < 18446744073709551616) (hb : b < 18446744073709551616) (w : World) :
    Calls Try.prog 13 #[.int .u64 a, .int .u64 b] w (RetW (fsub a b) w) := by
  have K1 := Lib.hid (rf_flip hb w)
  have HS := Lib.hid (rf_add ha (flc_lt' b) w)
  unfold fsub
  generalize fadd a (flc b) = F at *
  generalize flc b = k at *
  go_enter Try.func13, Try.ntmps13
  go_wp2_with fail
  refine K1.out.mono ?_
  rintro _ w' ⟨rfl, rfl⟩
  go_wp2_with fail
  with_reducible refine HS.out.mono ?_
  rintro _ w' ⟨rfl, b1⟩
  go_wp2_with fail
  go_ret
  exact ⟨rfl, b1⟩

end Go.Proofs.Ytidjacgifdpcmaa
