/-
  The walks of the laws FprodTells, FprodRoots, FprodTurns and FprodSquares: each returns true for any words. No condition but that they fit their kind.
-/
import Derived.Test.YtidjacgifdpcmaaFpRunAll
import Derived.Test.YtidjacgifdpcmaaRfMulAll
import Derived.Test.YtidjacgifdpcmaaFsLawsOne
namespace Go.Proofs.Ytidjacgifdpcmaa
set_option maxRecDepth 100000
open Go.RowKit
set_option linter.unusedVariables false
set_option linter.unusedSimpArgs false

/-! ### plain -/
theorem magR_leI (p q : Nat) (e : Int) : magR p q e ≤ INF := mag_le _ _
theorem bne_comm' (x y : Bool) : (x != y) = (y != x) := by cases x <;> cases y <;> rfl
theorem fmul_comm (a b : Nat) : fmul a b = fmul b a := by
  unfold fmul
  rw [bne_comm' (ng a) (ng b), Nat.mul_comm (sig a), Int.add_comm (xpo a)]
  by_cases h : kd a = 4 ∨ kd b = 4 ∨ (kd a = 3 ∧ kd b = 0) ∨ (kd a = 0 ∧ kd b = 3)
  · have h' : kd b = 4 ∨ kd a = 4 ∨ (kd b = 3 ∧ kd a = 0) ∨ (kd b = 0 ∧ kd a = 3) := by omega
    rw [if_pos h, if_pos h']
  · have h' : ¬ (kd b = 4 ∨ kd a = 4 ∨ (kd b = 3 ∧ kd a = 0) ∨ (kd b = 0 ∧ kd a = 3)) := by omega
    rw [if_neg h, if_neg h']
    by_cases g : kd a = 3 ∨ kd b = 3
    · have g' : kd b = 3 ∨ kd a = 3 := by omega
      rw [if_pos g, if_pos g']
    · have g' : ¬ (kd b = 3 ∨ kd a = 3) := by omega
      rw [if_neg g, if_neg g']
/-- a finite double is the one nearest to what it says -/
theorem self_near {a : Nat} (hf : fld a < 2047) : magR (sig a) 1 (xpo a) = mant a := by
  have hx := xpo_range hf
  rw [(magR_at (m := sig a) (e := xpo a) (s := (xpo a + 1074).toNat) (by omega)).1, ← fv_mant, mag_fv (mant_lt hf)]
theorem one_kd : kd 4607182418800017408 = 2 := by decide +kernel
theorem one_ng : ng 4607182418800017408 = false := by decide +kernel
theorem one_sig : sig 4607182418800017408 = 2 ^ 52 := by decide +kernel
theorem one_xpo : xpo 4607182418800017408 = -52 := by decide +kernel
theorem bne_false' (x : Bool) : (x != false) = x := by cases x <;> rfl
theorem fmul_one {a : Nat} (ha : a < 18446744073709551616) : fmul a 4607182418800017408 = cln a := by
  unfold fmul cln
  rw [one_kd, one_ng, one_sig, one_xpo, bne_false']
  have c := kd_cases a
  by_cases h4 : kd a = 4
  · rw [if_pos (.inl h4), if_pos h4]
  · have h : ¬ (kd a = 4 ∨ 2 = 4 ∨ (kd a = 3 ∧ 2 = 0) ∨ (kd a = 0 ∧ 2 = 3)) := by omega
    rw [if_neg h, if_neg h4]
    by_cases h3 : kd a = 3
    · rw [if_pos (.inl h3)]; exact (kd3 ha h3).symm
    · have h' : ¬ (kd a = 3 ∨ 2 = 3) := by omega
      rw [if_neg h', magR_shift _ _ _ (by omega), show xpo a + -52 + ((52 : Nat) : Int) = xpo a by omega, self_near (c.2.1 (by omega)), sg_mant a ha]
theorem mant_zero {a : Nat} (h : kd a = 0) : mant a = 0 := by
  have h1 := mant_fld a
  unfold kd at h
  split at h
  · split at h <;> omega
  · split at h
    · split at h
      · rename_i h2 h3 h4
        have := Nat.div_add_mod' (mant a) B52
        rw [h1.1, h1.2, h3, h4] at this
        omega
      · omega
    · omega
theorem fdiv_one {a : Nat} (ha : a < 18446744073709551616) : fdiv a 4607182418800017408 = cln a := by
  unfold fdiv cln
  rw [one_kd, one_ng, one_sig, one_xpo, bne_false']
  have c := kd_cases a
  by_cases h4 : kd a = 4
  · rw [if_pos (.inl h4), if_pos h4]
  · have h : ¬ (kd a = 4 ∨ 2 = 4 ∨ (kd a = 3 ∧ 2 = 3) ∨ (kd a = 0 ∧ 2 = 0)) := by omega
    rw [if_neg h, if_neg h4]
    by_cases h3 : kd a = 3
    · rw [if_pos (.inl h3)]; exact (kd3 ha h3).symm
    · have h' : ¬ (kd a = 3 ∨ 2 = 0) := by omega
      rw [if_neg h']
      by_cases h0 : kd a = 0
      · rw [if_pos (.inl h0)]
        have := sg_mant a ha
        rw [mant_zero h0] at this
        exact this
      · have h'' : ¬ (kd a = 0 ∨ 2 = 3) := by omega
        have e := magR_down (sig a) 1 52 (by omega) (xpo a)
        rw [Nat.one_mul] at e
        rw [if_neg h'', show xpo a - -52 = xpo a + ((52 : Nat) : Int) by omega, e, self_near (c.2.1 (by omega)), sg_mant a ha]
theorem flp_sig (b : Nat) : sig (flp b) = sig b ∧ xpo (flp b) = xpo b := by
  have h1 : fld (flp b) = fld b := by unfold fld flp; omega
  have h2 : rst (flp b) = rst b := by unfold rst flp; omega
  unfold sig xpo
  rw [h1, h2]
  exact ⟨rfl, rfl⟩
theorem bne_not (x y : Bool) : ((!x) != y) = !(x != y) := by cases x <;> cases y <;> rfl
theorem fmul_flip {a b : Nat} (ha : a < 18446744073709551616) : fmul (flc a) b = flc (fmul a b) := by
  unfold fmul
  rw [flc_kd ha]
  by_cases h4 : kd a = 4
  · rw [if_pos (.inl h4), if_pos (.inl h4), flc_nan]
  · have e : flc a = flp a := by unfold flc; rw [if_neg h4]
    rw [e, flp_ng ha, (flp_sig a).1, (flp_sig a).2, bne_not]
    by_cases h : kd a = 4 ∨ kd b = 4 ∨ (kd a = 3 ∧ kd b = 0) ∨ (kd a = 0 ∧ kd b = 3)
    · rw [if_pos h, if_pos h, flc_nan]
    · rw [if_neg h, if_neg h]
      by_cases g : kd a = 3 ∨ kd b = 3
      · rw [if_pos g, if_pos g, flc_sg (Nat.le_refl _)]
      · rw [if_neg g, if_neg g, flc_sg (magR_leI _ _ _)]
theorem fmul_lt (a b : Nat) : fmul a b < 18446744073709551616 := by
  unfold fmul
  split
  · unfold NAN; omega
  · split
    · exact sg_lt (Nat.le_refl _)
    · exact sg_lt (magR_leI _ _ _)
/-! ### the root of a rounded square -/
theorem inf_room {u R B I : Nat} (hI : I = 2047 * B) (hB : 0 < B) (hu : u ≤ 2023) (hR : R ≤ 2 * B) : min (u * B + R) I < I := by
  subst hI
  have := Nat.mul_le_mul_right B hu
  omega
theorem square_word {X : Nat} {x : Int} (hX1 : B52 ≤ X) (hX2 : X < 2 * B52) (hx1 : -552 ≤ x) (hx2 : x ≤ 448) :
    ∃ k R u : Nat, k = blen (X * X) - 53 ∧ R = rdiv (X * X) (2 ^ k) ∧ (u : Int) = k + 2 * x + 1074 ∧ 52 ≤ k ∧ k ≤ 53 ∧ R ≤ 2 * B52 ∧ magR (X * X) 1 (x + x) < INF ∧ fv (magR (X * X) 1 (x + x)) = R * 2 ^ u := by
  have hBB : B52 * B52 = 2 ^ 104 := by rw [B52_pow, ← Nat.pow_add]
  have hsq1 : B52 * B52 ≤ X * X := Nat.mul_le_mul hX1 hX1
  have hsq2 : X * X < 2 * B52 * (2 * B52) := Nat.mul_lt_mul_of_lt_of_le hX2 (Nat.le_of_lt hX2) (by omega)
  have hb1 : 105 ≤ blen (X * X) := blen_ge (k := 104) (by omega)
  have hb2 : blen (X * X) ≤ 106 := blen_le (by
    have : 2 * B52 * (2 * B52) = 4 * (B52 * B52) := by grind
    rw [this, hBB] at hsq2
    exact hsq2)
  have hpos : 0 < X * X := by have := B52_pos; exact Nat.mul_pos (by omega) (by omega)
  have hu := ulpR1 (m := X * X) (x + x) hpos
  obtain ⟨k, hk⟩ : ∃ k, k = blen (X * X) - 53 := ⟨_, rfl⟩
  obtain ⟨u, eu⟩ : ∃ u : Nat, (u : Int) = k + 2 * x + 1074 := ⟨(k + 2 * x + 1074).toNat, by omega⟩
  have hu2 : ulp (X * X * 2 ^ up (x + x)) (1 * 2 ^ dn (x + x)) = u := by omega
  have hd := up_dn (x + x)
  have e1 : 1 * 2 ^ dn (x + x) * 2 ^ u = 2 ^ k * 2 ^ up (x + x) := by
    rw [Nat.one_mul, ← Nat.pow_add, ← Nat.pow_add]; congr 1; omega
  have hpd : 0 < 1 * 2 ^ dn (x + x) := by have := Nat.two_pow_pos (dn (x + x)); omega
  have hle := units_le (X * X * 2 ^ up (x + x)) hpd
  rw [hu2, e1, rdiv_scale _ _ (Nat.two_pow_pos _)] at hle
  have hlt : magR (X * X) 1 (x + x) < INF := by
    unfold magR mag
    rw [hu2, e1, rdiv_scale _ _ (Nat.two_pow_pos _)]
    exact inf_room INF_eq B52_pos (by omega) hle
  refine ⟨k, rdiv (X * X) (2 ^ k), u, hk, rfl, eu, by omega, by omega, hle, hlt, ?_⟩
  unfold magR at hlt ⊢
  rw [fv_mag _ hpd hlt, hu2, e1, rdiv_scale _ _ (Nat.two_pow_pos _)]
theorem square_root {a : Nat} (h1 : 2355382605114769408 ≤ mant a) (h2 : mant a ≤ 6858982232485265408) : fsqrt (fmul a a) = mant a := by
  have hm := mant_fld a
  rw [B52_eq] at hm
  have hf : 523 ≤ fld a ∧ fld a ≤ 1523 := by omega
  have hka : kd a = 2 := by unfold kd; rw [if_neg (by omega), if_neg (by omega)]
  have hX : sig a = rst a + 4503599627370496 := by unfold sig; rw [if_neg (by omega)]
  have hxx : xpo a = (fld a : Int) - 1075 := by unfold xpo; rw [if_neg (by omega)]
  have hr := rst_lt a
  have hself := self_near (a := a) (by omega)
  have hX1 : B52 ≤ sig a := by rw [B52_eq]; omega
  have hX2 : sig a < 2 * B52 := by rw [B52_eq]; omega
  have e1 : fmul a a = magR (sig a * sig a) 1 (xpo a + xpo a) := by
    unfold fmul
    rw [hka, if_neg (by omega), if_neg (by omega), show (ng a != ng a) = false by cases ng a <;> rfl, sg_false]
  rw [e1]
  obtain ⟨k, R, u, hk, hR, hu, k1, k2, hRle, hlt, hfv⟩ := square_word hX1 hX2 (x := xpo a) (by omega) (by omega)
  obtain ⟨s1, s2, s3, s4⟩ := square_close hX1 hX2 hk hR
  generalize sig a = X at *
  generalize xpo a = x at *
  generalize magR (X * X) 1 (x + x) = M at *
  -- M is a finite double without a sign, and not 0
  have hI := INF_lit
  have hmM : mant M = M := by unfold mant; omega
  have hgM : ng M = false := by unfold ng; exact decide_eq_false (by omega)
  have hfM : fld M < 2047 := by
    have := mant_fld M
    rw [hmM] at this
    have h3 := INF_eq
    have h4 : M / B52 < 2047 := by rw [Nat.div_lt_iff_lt_mul B52_pos, ← h3]; exact hlt
    omega
  have hvM := vl_eq M
  unfold vl at hvM
  rw [hmM, hfv] at hvM
  have hRpos : 0 < R := by
    rcases Nat.eq_zero_or_pos R with h | h
    · exfalso
      rw [h, Nat.zero_mul] at s3
      have := Nat.mul_pos B52_pos B52_pos
      omega
    · exact h
  have hsp : 0 < sig M := by
    rcases Nat.eq_zero_or_pos (sig M) with h | h
    · exfalso
      rw [h, Nat.zero_mul] at hvM
      have := Nat.mul_pos hRpos (Nat.two_pow_pos u)
      omega
    · exact h
  have hk0 : kd M ≠ 0 := fun h => by have := sig_zero h; omega
  have hk2 := (kd_cases M).2.2 hfM
  have e2 : fsqrt M = fsqM M := by
    unfold fsqrt
    rw [if_neg hk0, if_neg (by rw [hgM]; simp; omega), if_neg (by omega)]
  rw [e2]
  unfold fsqM
  have hxM := xpo_range hfM
  have hu2 : upz M = 160 ∨ upz M = 161 := by unfold upz; split <;> omega
  have hu3 : (xpo M - (upz M : Int)) % 2 = 0 := by unfold upz; split <;> omega
  have hxle : xpo M ≤ 106 + 2 * x := by
    have a1 : 2 ^ (xpo M + 1074).toNat ≤ R * 2 ^ u := by
      rw [hvM]
      exact Nat.le_mul_of_pos_left _ hsp
    have a2 : R * 2 ^ u ≤ 2 ^ (53 + u) := by
      rw [Nat.pow_add]
      refine Nat.mul_le_mul_right _ ?_
      rw [show (2 : Nat) ^ 53 = 2 * B52 by rw [B52_eq]]
      exact hRle
    have a3 : (xpo M + 1074).toNat ≤ 53 + u := (Nat.pow_le_pow_iff_right (by omega)).1 (Nat.le_trans a1 a2)
    omega
  generalize xpo M = y at *
  generalize upz M = z at *
  obtain ⟨h, hh⟩ : ∃ h : Nat, 2 * (h : Int) = z + 2 * x - y := ⟨((z + 2 * x - y) / 2).toNat, by omega⟩
  have hN : sig M * 2 ^ z = R * 2 ^ k * 2 ^ (2 * h) := by
    have := cross_pow (X := sig M) (Y := R) (a := (y + 1074).toNat) (b := u) (m := z) (n := k + 2 * h) hvM.symm (by omega)
    rw [this, Nat.pow_add, Nat.mul_assoc]
  rw [hN]
  obtain ⟨g1, g2⟩ := rt_spec (R * 2 ^ k * 2 ^ (2 * h))
  unfold rtM
  generalize rt (R * 2 ^ k * 2 ^ (2 * h)) = r at *
  have hc := root_close (e := (y - (z : Int)) / 2) hX1 hX2 s1 s2 s3 s4 (by omega) g1 g2 (by omega)
  have ex : (y - (z : Int)) / 2 + h = x := by omega
  rw [ex, hself] at hc
  by_cases hq : r * r = R * 2 ^ k * 2 ^ (2 * h)
  · rw [decide_eq_false (by omega), magM_no]; exact hc.1 hq
  · rw [decide_eq_true hq, magM_yes]; exact hc.2 hq
theorem root_two : fsqrt 4611686018427387904 = 4609047870845172685 := by
  unfold fsqrt
  rw [if_neg (by decide +kernel), if_neg (by decide +kernel), if_neg (by decide +kernel)]
  unfold fsqM
  rw [show upz 4611686018427387904 = 161 by decide +kernel, show sig 4611686018427387904 = 4503599627370496 by decide +kernel, show xpo 4611686018427387904 = -51 by decide +kernel]
  rw [rtM_of (r := 114734634956362014553563009489834) _ (by decide +kernel) (by decide +kernel)]
  decide +kernel

/-! ### the walks -/
set_option maxHeartbeats 1000000 in
theorem same12 (w : World) : Calls Try.prog 28 #[] w fun e w' => e = .returned (.bool true) ∧ Below w.heap.size w w' := by
  have A1 := fun w1 => fp_div (a := 4607182418800017408) (b := 4613937818241073152) (by omega) (by omega) w1
  have A2 := fun w1 => fp_sqrt (b := 4611686018427387904) (by omega) w1
  have A3 := fun w1 => fp_mul (a := 0) (b := 9218868437227405312) (by omega) (by omega) w1
  rw [show fdiv 4607182418800017408 4613937818241073152 = 4599676419421066581 by decide +kernel] at A1
  rw [root_two] at A2
  rw [show fmul 0 9218868437227405312 = 9221120237041090560 by decide +kernel] at A3
  have H1 := Lib.hid A1
  have H2 := Lib.hid A2
  have H3 := Lib.hid A3
  clear A1 A2 A3
  go_enter Try.func28, Try.ntmps28
  go_wp2_with fail
  refine (H1.out _).mono ?_
  rintro _ w1 ⟨rfl, b1⟩
  go_wp2_with fail
  refine (H2.out _).mono ?_
  rintro _ w2 ⟨rfl, b2⟩
  go_wp2_with fail
  refine (H3.out _).mono ?_
  rintro _ w3 ⟨rfl, b3⟩
  go_wp2_with fail
  go_ret
  exact ⟨rfl, bbw b1 (bbw b2 b3)⟩

set_option maxHeartbeats 2000000 in
theorem fprodTells_walk (a b : Int) (w0 : (Lit.int .u64 a).wf = true) (w1 : (Lit.int .u64 b).wf = true) (w : World) :
    Calls Try.prog 6 #[.int .u64 a, .int .u64 b] w fun e w' => e = .returned (.bool true) ∧ Below w.heap.size w w' := by
  obtain ⟨a, rfl, ha⟩ := u64_wf w0
  obtain ⟨b, rfl, hb⟩ := u64_wf w1
  clear w0 w1
  have H1 := Lib.hid (fun w1 => fp_mul ha hb w1)
  have H2 := Lib.hid (fun w1 => rf_mul ha hb w1)
  have H3 := Lib.hid (fun w1 => fp_div ha hb w1)
  have H4 := Lib.hid (fun w1 => rf_div ha hb w1)
  generalize fmul a b = F at *
  generalize fdiv a b = G at *
  go_enter Try.func6, Try.ntmps6
  go_wp2_with fail
  with_reducible refine (H1.out _).mono ?_
  rintro _ w1 ⟨rfl, b1⟩
  go_wp2_with fail
  with_reducible refine (H2.out _).mono ?_
  rintro _ w2 ⟨rfl, b2⟩
  go_wp2_with fail
  with_reducible refine (H3.out _).mono ?_
  rintro _ w3 ⟨rfl, b3⟩
  go_wp2_with fail
  with_reducible refine (H4.out _).mono ?_
  rintro _ w4 ⟨rfl, b4⟩
  go_wp2_with fail
  with_reducible refine (same12 _).mono ?_
  rintro _ w5 ⟨rfl, b5⟩
  go_wp2_with fail
  go_ret
  exact ⟨rfl, bbw b1 (bbw b2 (bbw b3 (bbw b4 b5)))⟩

set_option maxHeartbeats 2000000 in
theorem fprodRoots_walk (b : Int) (w0 : (Lit.int .u64 b).wf = true) (w : World) :
    Calls Try.prog 7 #[.int .u64 b] w fun e w' => e = .returned (.bool true) ∧ Below w.heap.size w w' := by
  obtain ⟨b, rfl, hb⟩ := u64_wf w0
  clear w0
  have H1 := Lib.hid (fun w1 => fp_sqrt hb w1)
  have H2 := Lib.hid (fun w1 => rf_sqrt hb w1)
  generalize fsqrt b = F at *
  go_enter Try.func7, Try.ntmps7
  go_wp2_with fail
  with_reducible refine (H1.out _).mono ?_
  rintro _ w1 ⟨rfl, b1⟩
  go_wp2_with fail
  with_reducible refine (H2.out _).mono ?_
  rintro _ w2 ⟨rfl, b2⟩
  go_wp2_with fail
  with_reducible refine (same12 _).mono ?_
  rintro _ w5 ⟨rfl, b5⟩
  go_wp2_with fail
  go_ret
  exact ⟨rfl, bbw b1 (bbw b2 b5)⟩

set_option maxHeartbeats 2000000 in
theorem fprodTurns_walk (a b : Int) (w0 : (Lit.int .u64 a).wf = true) (w1 : (Lit.int .u64 b).wf = true) (w : World) :
    Calls Try.prog 8 #[.int .u64 a, .int .u64 b] w fun e w' => e = .returned (.bool true) ∧ Below w.heap.size w w' := by
  obtain ⟨a, rfl, ha⟩ := u64_wf w0
  obtain ⟨b, rfl, hb⟩ := u64_wf w1
  clear w0 w1
  have A1 := fun w1 => fp_mul ha hb w1
  have A2 := fun w1 => fp_mul hb ha w1
  rw [fmul_comm b a] at A2
  have A3 := fun w1 => fp_mul ha (b := 4607182418800017408) (by omega) w1
  rw [fmul_one ha] at A3
  have A4 := fun w1 => fp_div ha (b := 4607182418800017408) (by omega) w1
  rw [fdiv_one ha] at A4
  have A5 := fun w1 => fp_mul (flc_lt a) hb w1
  rw [fmul_flip ha] at A5
  have C1 := Lib.hid (fun w1 => rf_clean ha w1)
  have F1 := Lib.hid (fun w1 => rf_flip ha w1)
  have F2 := Lib.hid (fun w1 => rf_flip (fmul_lt a b) w1)
  have H1 := Lib.hid A1
  have H2 := Lib.hid A2
  have H3 := Lib.hid A3
  have H4 := Lib.hid A4
  have H5 := Lib.hid A5
  clear A1 A2 A3 A4 A5
  generalize flc (fmul a b) = G at *
  generalize fmul a b = F at *
  generalize flc a = fa at *
  generalize cln a = ca at *
  go_enter Try.func8, Try.ntmps8
  go_wp2_with fail
  with_reducible refine (H1.out _).mono ?_
  rintro _ w1 ⟨rfl, b1⟩
  go_wp2_with fail
  with_reducible refine (H2.out _).mono ?_
  rintro _ w2 ⟨rfl, b2⟩
  go_wp2_with fail
  refine (H3.out _).mono ?_
  rintro _ w3 ⟨rfl, b3⟩
  go_wp2_with fail
  with_reducible refine (C1.out _).mono ?_
  rintro _ _ ⟨rfl, rfl⟩
  go_wp2_with fail
  refine (H4.out _).mono ?_
  rintro _ w4 ⟨rfl, b4⟩
  go_wp2_with fail
  with_reducible refine (C1.out _).mono ?_
  rintro _ _ ⟨rfl, rfl⟩
  go_wp2_with fail
  with_reducible refine (F1.out _).mono ?_
  rintro _ _ ⟨rfl, rfl⟩
  go_wp2_with fail
  with_reducible refine (H5.out _).mono ?_
  rintro _ w5 ⟨rfl, b5⟩
  go_wp2_with fail
  with_reducible refine (H1.out _).mono ?_
  rintro _ w6 ⟨rfl, b6⟩
  go_wp2_with fail
  with_reducible refine (F2.out _).mono ?_
  rintro _ _ ⟨rfl, rfl⟩
  go_wp2_with fail
  with_reducible refine (same12 _).mono ?_
  rintro _ w7 ⟨rfl, b7⟩
  go_wp2_with fail
  go_ret
  exact ⟨rfl, bbw b1 (bbw b2 (bbw b3 (bbw b4 (bbw b5 (bbw b6 b7)))))⟩

theorem andNot_mant {a : Nat} (h : a < 18446744073709551616) : bits .andNot .u64 (a : Int) 9223372036854775808 = (mant a : Int) := by
  have h1 := u64_andNot_nat a 9223372036854775808 h (by omega)
  rw [show ((9223372036854775808 : Nat) : Int) = 9223372036854775808 from rfl] at h1
  rw [h1, show 18446744073709551615 - 9223372036854775808 = 2 ^ 63 - 1 by decide, Nat.and_two_pow_sub_one_eq_mod]
  rfl

set_option maxHeartbeats 2000000 in
theorem fprodSquares_walk (a : Int) (w0 : (Lit.int .u64 a).wf = true) (w : World) :
    Calls Try.prog 9 #[.int .u64 a] w fun e w' => e = .returned (.bool true) ∧ Below w.heap.size w w' := by
  obtain ⟨a, rfl, ha⟩ := u64_wf w0
  clear w0
  have e1 := andNot_mant ha
  by_cases h : 2355382605114769408 ≤ mant a ∧ mant a ≤ 6858982232485265408
  · have S := square_root h.1 h.2
    have H1 := Lib.hid (fun w1 => fp_mul ha ha w1)
    have A2 := fun w1 => fp_sqrt (fmul_lt a a) w1
    rw [S] at A2
    have H2 := Lib.hid A2
    clear A2 S
    have i1 : decide ((mant a : Int) < 2355382605114769408) = false := decide_eq_false (by omega)
    have i2 : decide ((6858982232485265408 : Int) < mant a) = false := decide_eq_false (by omega)
    generalize fmul a a = F at *
    generalize mant a = m at *
    clear h
    go_enter Try.func9, Try.ntmps9
    go_wp2_with fail
    with_reducible refine (H1.out _).mono ?_
    rintro _ w1 ⟨rfl, b1⟩
    go_wp2_with fail
    with_reducible refine (H2.out _).mono ?_
    rintro _ w2 ⟨rfl, b2⟩
    go_wp2_with fail
    with_reducible refine (same12 _).mono ?_
    rintro _ w5 ⟨rfl, b5⟩
    go_wp2_with fail
    go_ret
    exact ⟨rfl, bbw b1 (bbw b2 b5)⟩
  · generalize mant a = m at *
    by_cases h1 : m < 2355382605114769408
    · have i1 : decide ((m : Int) < 2355382605114769408) = true := decide_eq_true (by omega)
      clear h h1
      go_enter Try.func9, Try.ntmps9
      go_wp2_with fail
      with_reducible refine (same12 _).mono ?_
      rintro _ w5 ⟨rfl, b5⟩
      go_wp2_with fail
      go_ret
      exact ⟨rfl, b5⟩
    · have i1 : decide ((m : Int) < 2355382605114769408) = false := decide_eq_false (by omega)
      have i2 : decide ((6858982232485265408 : Int) < m) = true := decide_eq_true (by omega)
      clear h h1
      go_enter Try.func9, Try.ntmps9
      go_wp2_with fail
      with_reducible refine (same12 _).mono ?_
      rintro _ w5 ⟨rfl, b5⟩
      go_wp2_with fail
      go_ret
      exact ⟨rfl, b5⟩

end Go.Proofs.Ytidjacgifdpcmaa
