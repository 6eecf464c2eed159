/-
  What fprod.Sqrt returns for any word. Condition: the word is below 2^64.
-/
import Derived.Test.YtidjacgifdpcmaaFpMulOne
namespace Go.Proofs.Ytidjacgifdpcmaa
set_option maxRecDepth 100000
open Go.RowKit
set_option linter.unusedVariables false
set_option linter.unusedSimpArgs false

theorem inf_kd : kd INF = 3 := by decide +kernel
theorem inf_ng : ng INF = false := by decide +kernel
theorem sg_false (v : Nat) : sg false v = v := rfl
theorem rtx_even (b : Nat) : rtx b % 2 = 0 := by unfold rtx; split <;> omega
theorem tmod_even {X : Int} (h : X % 2 = 0) : (Int.tmod X 2 != 0) = false := by
  have : Int.tmod X 2 = 0 := Int.tmod_eq_zero_of_dvd (Int.dvd_of_emod_eq_zero h)
  rw [this]; rfl
theorem tmod_odd {X : Int} (h : ¬ X % 2 = 0) : (Int.tmod X 2 != 0) = true := by
  have : ¬ Int.tmod X 2 = 0 := fun h2 => h (Int.emod_eq_zero_of_dvd (Int.dvd_of_tmod_eq_zero h2))
  simpa using this
/-- the root and what is left, as names -/
theorem root_names {m : Nat} (h1 : 4611686018427387904 ≤ m) (h2 : m < 18446744073709551616) : ∃ R T : Nat, R < 18446744073709551616 ∧ 55 ≤ blen R ∧ (∀ e, magR (mkd R (decide (T ≠ 0))) 1 e = rtM (m * 281474976710656) e) ∧
    ∀ w, Calls Try.prog 63 #[.int .u64 m] w fun e w' => e = .returned (.tuple #[.int .u64 R, .int .u64 T]) ∧ w = w' := by
  obtain ⟨R, hR⟩ : ∃ R, rt (m * 281474976710656) = R := ⟨_, rfl⟩
  obtain ⟨g1, g2⟩ := rt_spec (m * 281474976710656)
  have C := fun w => fp_root h2 w
  rw [hR] at g1 g2 C
  have hb := rt_blen h1 g2
  refine ⟨R, m * 281474976710656 - R * R, ?_, hb, ?_, C⟩
  · rcases Nat.lt_or_ge R 18446744073709551616 with h | h
    · exact h
    · exfalso
      have := Nat.mul_le_mul h h
      omega
  · intro e
    rw [rtM_of e g1 g2, magM_mkd _ _ hb]
    congr 1
    rw [Bool.eq_iff_iff]; simp only [decide_eq_true_eq]; omega
theorem sqrt_calls {b : Nat} (hf : fld b < 2047) (pb : 0 < sig b) (w : World) : ∃ (R T Z : Nat) (hd e9 : Int), (R < 18446744073709551616 ∧ -569 ≤ hd ∧ hd ≤ 486 ∧ Int.tdiv (rtx b) 2 = hd ∧ hd + 32 - 56 = e9 ∧ -1138 ≤ rtx b ∧ rtx b ≤ 972 ∧ rtw b < 18446744073709551616) ∧
    Calls Try.prog 63 #[.int .u64 (rtw b)] w (fun e w' => e = .returned (.tuple #[.int .u64 R, .int .u64 T]) ∧ w = w') ∧
    Calls Try.prog 56 #[.int .u64 R, .int .u64 T] w (fun e w' => e = .returned (.int .u64 Z) ∧ w = w') ∧
    Calls Try.prog 55 #[.bool false, .int .u64 Z, .int .i64 e9] w (RetW (fsqM b) w) := by
  obtain ⟨q1, q2⟩ := rtw_ge pb
  obtain ⟨R, T, hR, hb, hm, hC⟩ := root_names q1 q2
  have r1 := fxp_range hf
  have ev := rtx_even b
  have rr : -1138 ≤ rtx b ∧ rtx b ≤ 972 := by unfold rtx; split <;> omega
  obtain ⟨hd, hhd⟩ : ∃ hd : Int, rtx b = hd * 2 := ⟨rtx b / 2, by omega⟩
  refine ⟨R, T, mkd R (decide (T ≠ 0)), hd, hd + 32 - 56, ⟨hR, by omega, by omega, by rw [hhd]; exact Int.mul_tdiv_cancel _ (by decide), rfl, by omega, by omega, q2⟩, hC w, fp_mark hR w, ?_⟩
  have WO := fr_word false (mkd_lt hR (decide (T ≠ 0))) (e := hd + 32 - 56) (by omega) (by omega) w
  have hV := hm (hd + 32 - 56)
  rw [show hd + 32 - 56 = rtx b / 2 - 24 by omega, root_round pb, show rtx b / 2 - 24 = hd + 32 - 56 by omega] at hV
  rw [hV, sg_false] at WO
  exact WO

set_option maxRecDepth 100000 in
set_option maxHeartbeats 8000000 in
theorem fp_sqrt {b : Nat} (hb : b < 18446744073709551616) (w : World) :
    Calls Try.prog 29 #[.int .u64 b] w (RetW (fsqrt b) w) := by
  have K1 := Lib.hid (fb_kind hb w)
  have N1 := fb_neg hb w
  have NN := Lib.hid (fb_nan w)
  have I0 := fb_inf false w
  rw [sg_false] at I0
  have II := Lib.hid I0
  clear I0
  have c1 := kd_cases b
  have hF : fsqrt b = if kd b = 0 then b else if kd b = 4 ∨ ng b = true then NAN else if kd b = 3 then b else fsqM b := rfl
  by_cases h0 : kd b = 0
  · rw [if_pos h0] at hF
    rw [h0] at K1
    rw [hF]
    clear hF N1
    go_enter Try.func29, Try.ntmps29
    go_wp2_with fail
    refine K1.out.mono ?_
    rintro _ w' ⟨rfl, rfl⟩
    go_wp2_with fail
    go_ret
    exact ⟨rfl, Below.refl _ _⟩
  · by_cases hI : b = INF
    · have h3 := inf_kd
      have h4 := inf_ng
      rw [← hI] at h3 h4
      rw [if_neg h0, if_neg (by rw [h3, h4]; simp), if_pos h3] at hF
      rw [hF]
      rw [← hI] at II
      rw [h3] at K1
      clear hF N1 hI
      go_enter Try.func29, Try.ntmps29
      go_wp2_with fail
      refine K1.out.mono ?_
      rintro _ w' ⟨rfl, rfl⟩
      go_wp2_with fail
      refine II.out.mono ?_
      rintro _ w' ⟨rfl, rfl⟩
      go_wp2_with fail
      go_ret
      exact ⟨rfl, Below.refl _ _⟩
    · have hI2 : ((b : Int) == INF) = false := by simp; omega
      have g0 : ((kd b : Int) == 0) = false := by simp; omega
      by_cases h4 : kd b = 4
      · rw [if_neg h0, if_pos (.inl h4)] at hF
        rw [hF]
        rw [h4] at K1
        clear hF N1 g0
        generalize INF = I at *
        go_enter Try.func29, Try.ntmps29
        go_wp2_with fail
        refine K1.out.mono ?_
        rintro _ w' ⟨rfl, rfl⟩
        go_wp2_with fail
        refine II.out.mono ?_
        rintro _ w' ⟨rfl, rfl⟩
        go_wp2_with fail
        refine NN.out.mono ?_
        rintro _ w' ⟨rfl, rfl⟩
        go_wp2_with fail
        go_ret
        exact ⟨rfl, Below.refl _ _⟩
      · have g4 : ((kd b : Int) == 4) = false := by simp; omega
        by_cases hn : ng b = true
        · rw [if_neg h0, if_pos (.inr hn)] at hF
          rw [hF]
          rw [hn] at N1
          have HN := Lib.hid N1
          clear hF N1 c1
          generalize INF = I at *
          generalize kd b = k at *
          go_enter Try.func29, Try.ntmps29
          go_wp2_with fail
          refine K1.out.mono ?_
          rintro _ w' ⟨rfl, rfl⟩
          go_wp2_with fail
          refine II.out.mono ?_
          rintro _ w' ⟨rfl, rfl⟩
          go_wp2_with fail
          refine HN.out.mono ?_
          rintro _ w' ⟨rfl, rfl⟩
          go_wp2_with fail
          refine NN.out.mono ?_
          rintro _ w' ⟨rfl, rfl⟩
          go_wp2_with fail
          go_ret
          exact ⟨rfl, Below.refl _ _⟩
        · have h3 : kd b ≠ 3 := by
            intro h3
            apply hI
            have := kd3 hb h3
            rw [show ng b = false by simpa using hn] at this
            exact this
          rw [if_neg h0, if_neg (by simp [h4]; simpa using hn), if_neg h3] at hF
          rw [hF]
          rw [show ng b = false by simpa using hn] at N1
          have hk : kd b = 1 ∨ kd b = 2 := by omega
          have hf := c1.2.1 (by omega)
          have pb := sig_pos hk
          have FU := Lib.hid (fp_full hb hf w)
          obtain ⟨R, T, Z, hd, e9, ⟨hR, d1, d2, ed, he9, x1, x2, hrw⟩, RO0, MA0, WO0⟩ := sqrt_calls hf pb w
          have r1 := fxp_range hf
          have hl := fsg_lt b
          have hX : rtx b = if fxp b % 2 = 0 then fxp b else fxp b + 1 := rfl
          have hW : rtw b = if fxp b % 2 = 0 then fsg b else fsg b / 2 := rfl
          have RO := Lib.hid RO0
          have M2 := Lib.hid MA0
          have HWO := Lib.hid WO0
          have HN := Lib.hid N1
          clear RO0 MA0 WO0 N1
          generalize fsqM b = V at *
          generalize INF = I at *
          generalize kd b = k at *
          generalize fsg b = G at *
          generalize fxp b = X at *
          generalize rtw b = RW at *
          generalize rtx b = RX at *
          have HX := Lib.hid hX
          have HW := Lib.hid hW
          clear hF c1 hX hW pb hk hf hn
          go_enter Try.func29, Try.ntmps29
          go_wp2_with fail
          refine K1.out.mono ?_
          rintro _ w' ⟨rfl, rfl⟩
          go_wp2_with fail
          refine II.out.mono ?_
          rintro _ w' ⟨rfl, rfl⟩
          go_wp2_with fail
          refine HN.out.mono ?_
          rintro _ w' ⟨rfl, rfl⟩
          go_wp2_with fail
          refine FU.out.mono ?_
          rintro _ w' ⟨rfl, rfl⟩
          go_upto_if 30 with (fail)
          go_cut [4, 5] (fun s4 s5 wx => s4 = .int .u64 RW ∧ s5 = .int .i64 RX ∧ w = wx)
          case first =>
            by_cases hx : X % 2 = 0
            · have t1 := tmod_even hx
              have h1 := HX.out
              have h2 := HW.out
              rw [if_pos hx] at h1 h2
              clear HX HW
              subst h1 h2
              go_wp2_with fail
              go_meet
              exact ⟨rfl, rfl, rfl⟩
            · have t1 := tmod_odd hx
              have h1 := HX.out
              have h2 := HW.out
              rw [if_neg hx] at h1 h2
              have HX1 := Lib.hid h1
              have HW1 := Lib.hid h2
              clear HX HW h1 h2
              go_wp2_with fail
              go_meet
              exact ⟨vint (by rw [HW1.out]; omega), vint (by rw [HX1.out]), rfl⟩
          case rest =>
          obtain ⟨rfl, rfl, rfl⟩ := hcut
          clear HX HW
          go_wp2_with fail
          refine RO.out.mono ?_
          rintro _ w' ⟨rfl, rfl⟩
          go_wp2_with fail
          refine M2.out.mono ?_
          rintro _ w' ⟨rfl, rfl⟩
          go_wp2_with fail
          with_reducible refine HWO.out.mono ?_
          rintro _ w' ⟨rfl, b1⟩
          go_wp2_with fail
          go_ret
          exact ⟨rfl, b1⟩

end Go.Proofs.Ytidjacgifdpcmaa
