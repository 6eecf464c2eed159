/-
  The walks of the laws FsumTells and FsumTurns: each returns true for any two words. No condition but that they fit their kind.
-/
import Derived.Test.YtidjacgifdpcmaaFsRunOne
import Derived.Test.YtidjacgifdpcmaaRfSumOne
namespace Go.Proofs.Ytidjacgifdpcmaa
set_option maxRecDepth 100000
open Go.RowKit
set_option linter.unusedVariables false
set_option linter.unusedSimpArgs false

theorem sg_kd {s : Bool} {M : Nat} (h : M ≤ INF) : kd (sg s M) ≠ 4 := by
  rw [INF_lit] at h
  have h1 : fld (sg s M) = M / 4503599627370496 ∧ rst (sg s M) = M % 4503599627370496 := by
    unfold fld rst sg
    cases s
    · simp; omega
    · simp; omega
  rw [kd_eq, h1.1, h1.2]
  split
  · split <;> omega
  · split
    · split <;> omega
    · omega
theorem flc_sg {s : Bool} {M : Nat} (h : M ≤ INF) : flc (sg s M) = sg (!s) M := by
  have h1 := sg_kd (s := s) h
  unfold flc
  rw [if_neg h1]
  rw [INF_lit] at h
  unfold flp sg
  cases s
  · simp; omega
  · simp; omega
theorem flp_mant (b : Nat) : mant (flp b) = mant b := by unfold mant flp; omega
theorem flp_ng {b : Nat} (hb : b < 18446744073709551616) : ng (flp b) = !(ng b) := by
  unfold ng flp
  rw [Bool.eq_iff_iff]
  simp
  omega
theorem flp_vl (b : Nat) : vl (flp b) = vl b := by unfold vl; rw [flp_mant]
theorem fsumF_opp {a b : Nat} (ha : a < 18446744073709551616) (hb : b < 18446744073709551616) : fsumF (flp a) (flp b) = flc (fsumF a b) ∨ (fsumF a b = 0 ∧ fsumF (flp a) (flp b) = 0) := by
  unfold fsumF
  rw [flp_vl, flp_vl, flp_ng ha, flp_ng hb]
  by_cases h : ng a = ng b
  · rw [if_pos h, if_pos (by rw [h]), flc_sg (mag_le _ _)]
    exact .inl rfl
  · have h' : ¬ ((!ng a) = !ng b) := fun x => h (by revert x; cases ng a <;> cases ng b <;> simp)
    rw [if_neg h, if_neg h']
    by_cases h2 : vl a = vl b
    · rw [if_pos h2, if_pos h2]; exact .inr ⟨rfl, rfl⟩
    · rw [if_neg h2, if_neg h2]
      by_cases h3 : vl b < vl a
      · rw [if_pos h3, if_pos h3, flc_sg (mag_le _ _)]; exact .inl rfl
      · rw [if_neg h3, if_neg h3, flc_sg (mag_le _ _)]; exact .inl rfl
theorem kd_nan : kd NAN = 4 := by decide +kernel
theorem flc_nan : flc NAN = NAN := by unfold flc; rw [if_pos kd_nan]
theorem flc_kd {b : Nat} (hb : b < 18446744073709551616) : kd (flc b) = kd b := by
  unfold flc
  split
  · rename_i h; rw [h, kd_nan]
  · exact flp_kind hb
theorem flp_inj {a b : Nat} (ha : a < 18446744073709551616) (hb : b < 18446744073709551616) (h : flp a = flp b) : a = b := by unfold flp at h; omega
theorem fadd_opp {a b : Nat} (ha : a < 18446744073709551616) (hb : b < 18446744073709551616) : fadd (flc a) (flc b) = flc (fadd a b) ∨ (fadd a b = 0 ∧ fadd (flc a) (flc b) = 0) := by
  unfold fadd
  rw [flc_kd ha, flc_kd hb]
  by_cases h1 : kd a = 4
  · rw [if_pos (.inl h1), if_pos (.inl h1), flc_nan]; exact .inl rfl
  · by_cases h2 : kd b = 4
    · rw [if_pos (.inr (.inl h2)), if_pos (.inr (.inl h2)), flc_nan]; exact .inl rfl
    · have ea : flc a = flp a := by unfold flc; rw [if_neg h1]
      have eb : flc b = flp b := by unfold flc; rw [if_neg h2]
      rw [ea, eb]
      by_cases h5 : kd a = 3 ∧ kd b = 3 ∧ a ≠ b
      · have h6 : flp a ≠ flp b := fun x => h5.2.2 (flp_inj ha hb x)
        rw [if_pos (.inr (.inr ⟨h5.1, h5.2.1, h6⟩)), if_pos (.inr (.inr h5)), flc_nan]; exact .inl rfl
      · have h7 : ¬ (kd a = 4 ∨ kd b = 4 ∨ (kd a = 3 ∧ kd b = 3 ∧ flp a ≠ flp b)) := by
          rintro (x | x | ⟨x, y, z⟩)
          · exact h1 x
          · exact h2 x
          · exact h5 ⟨x, y, fun q => z (by rw [q])⟩
        have h8 : ¬ (kd a = 4 ∨ kd b = 4 ∨ (kd a = 3 ∧ kd b = 3 ∧ a ≠ b)) := by
          rintro (x | x | x)
          · exact h1 x
          · exact h2 x
          · exact h5 x
        rw [if_neg h7, if_neg h8]
        by_cases h3 : kd a = 3
        · rw [if_pos h3, if_pos h3, ea]; exact .inl rfl
        · by_cases h4 : kd b = 3
          · rw [if_neg h3, if_pos h4, if_neg h3, if_pos h4, eb]; exact .inl rfl
          · rw [if_neg h3, if_neg h4, if_neg h3, if_neg h4]
            exact fsumF_opp ha hb
theorem sg_lt' {s : Bool} {M : Nat} (h : M ≤ INF) : sg s M < 18446744073709551616 := sg_lt h
theorem fsumF_lt (a b : Nat) : fsumF a b < 18446744073709551616 := by
  unfold fsumF
  split
  · exact sg_lt (mag_le _ _)
  · split
    · omega
    · split
      · exact sg_lt (mag_le _ _)
      · exact sg_lt (mag_le _ _)
theorem fadd_lt {a b : Nat} (ha : a < 18446744073709551616) (hb : b < 18446744073709551616) : fadd a b < 18446744073709551616 := by
  have := fsumF_lt a b
  unfold fadd NAN
  split
  · omega
  · split
    · omega
    · split <;> omega

set_option maxHeartbeats 1000000 in
theorem same11 (w : World) : Calls Try.prog 14 #[] w fun e w' => e = .returned (.bool true) ∧ Below w.heap.size w w' := by
  have A1 := fun w1 => fs_add (a := 4607182418800017408) (b := 4368491638549381120) (by omega) (by omega) w1
  have A2 := fun w1 => fs_sub (a := 4607182418800017408) (b := 4607182418800017408) (by omega) (by omega) w1
  have A3 := fun w1 => fs_sub (a := 9218868437227405312) (b := 9218868437227405312) (by omega) (by omega) w1
  rw [show fadd 4607182418800017408 4368491638549381120 = 4607182418800017408 by decide +kernel] at A1
  rw [show fsub 4607182418800017408 4607182418800017408 = 0 by decide +kernel] at A2
  rw [show fsub 9218868437227405312 9218868437227405312 = 9221120237041090560 by decide +kernel] at A3
  have H1 := Lib.hid A1
  have H2 := Lib.hid A2
  have H3 := Lib.hid A3
  clear A1 A2 A3
  go_enter Try.func14, Try.ntmps14
  go_wp2_with fail
  refine (H1.out _).mono ?_
  rintro _ w1 ⟨rfl, b1⟩
  go_wp2_with fail
  refine (H2.out _).mono ?_
  rintro _ w2 ⟨rfl, b2⟩
  go_wp2_with fail
  refine (H3.out _).mono ?_
  rintro _ w3 ⟨rfl, b3⟩
  go_wp2_with fail
  go_ret
  exact ⟨rfl, bbw b1 (bbw b2 b3)⟩

set_option maxHeartbeats 2000000 in
theorem fsumTells_walk (a b : Int) (w0 : (Lit.int .u64 a).wf = true) (w1 : (Lit.int .u64 b).wf = true) (w : World) :
    Calls Try.prog 3 #[.int .u64 a, .int .u64 b] w fun e w' => e = .returned (.bool true) ∧ Below w.heap.size w w' := by
  obtain ⟨a, rfl, ha⟩ := u64_wf w0
  obtain ⟨b, rfl, hb⟩ := u64_wf w1
  clear w0 w1
  have H1 := Lib.hid (fun w1 => fs_add ha hb w1)
  have H2 := Lib.hid (fun w1 => rf_add ha hb w1)
  have H3 := Lib.hid (fun w1 => fs_sub ha hb w1)
  have H4 := Lib.hid (fun w1 => rf_sub ha hb w1)
  generalize fadd a b = F at *
  generalize fsub a b = G at *
  go_enter Try.func3, Try.ntmps3
  go_wp2_with fail
  with_reducible refine (H1.out _).mono ?_
  rintro _ w1 ⟨rfl, b1⟩
  go_wp2_with fail
  with_reducible refine (H2.out _).mono ?_
  rintro _ w2 ⟨rfl, b2⟩
  go_wp2_with fail
  with_reducible refine (H3.out _).mono ?_
  rintro _ w3 ⟨rfl, b3⟩
  go_wp2_with fail
  with_reducible refine (H4.out _).mono ?_
  rintro _ w4 ⟨rfl, b4⟩
  go_wp2_with fail
  with_reducible refine (same11 _).mono ?_
  rintro _ w5 ⟨rfl, b5⟩
  go_wp2_with fail
  go_ret
  exact ⟨rfl, bbw b1 (bbw b2 (bbw b3 (bbw b4 b5)))⟩

set_option maxHeartbeats 2000000 in
theorem fsumTurns_walk (a b : Int) (w0 : (Lit.int .u64 a).wf = true) (w1 : (Lit.int .u64 b).wf = true) (w : World) :
    Calls Try.prog 4 #[.int .u64 a, .int .u64 b] w fun e w' => e = .returned (.bool true) ∧ Below w.heap.size w w' := by
  obtain ⟨a, rfl, ha⟩ := u64_wf w0
  obtain ⟨b, rfl, hb⟩ := u64_wf w1
  clear w0 w1
  have A1 := fun w1 => fs_add ha hb w1
  have A2 := fun w1 => fs_add hb ha w1
  rw [fadd_comm b a] at A2
  have F1 := fun w1 => rf_flip ha w1
  have F2 := fun w1 => rf_flip hb w1
  have A3 := fun w1 => fs_add (flc_lt a) (flc_lt b) w1
  have hl := fadd_lt ha hb
  have hl2 := fadd_lt (flc_lt a) (flc_lt b)
  have F3 := fun w1 => rf_flip hl w1
  have hor := fadd_opp ha hb
  have H1 := Lib.hid A1
  have H2 := Lib.hid A2
  have H3 := Lib.hid A3
  have G1 := Lib.hid F1
  have G2 := Lib.hid F2
  have G3 := Lib.hid F3
  clear A1 A2 A3 F1 F2 F3
  rcases hor with h | ⟨h1, h2⟩
  · generalize flc (fadd a b) = fF at *
    generalize fadd a b = F at *
    generalize fadd (flc a) (flc b) = T at *
    generalize flc a = fa at *
    generalize flc b = fb at *
    subst h
    go_enter Try.func4, Try.ntmps4
    go_wp2_with fail
    with_reducible refine (H1.out _).mono ?_
    rintro _ w1 ⟨rfl, b1⟩
    go_wp2_with fail
    with_reducible refine (H2.out _).mono ?_
    rintro _ w2 ⟨rfl, b2⟩
    go_wp2_with fail
    with_reducible refine (G1.out _).mono ?_
    rintro _ _ ⟨rfl, rfl⟩
    go_wp2_with fail
    with_reducible refine (G2.out _).mono ?_
    rintro _ _ ⟨rfl, rfl⟩
    go_wp2_with fail
    with_reducible refine (H3.out _).mono ?_
    rintro _ w3 ⟨rfl, b3⟩
    go_wp2_with fail
    with_reducible refine (G3.out _).mono ?_
    rintro _ _ ⟨rfl, rfl⟩
    go_wp2_with fail
    with_reducible refine (same11 _).mono ?_
    rintro _ w5 ⟨rfl, b5⟩
    go_wp2_with fail
    go_ret
    exact ⟨rfl, bbw b1 (bbw b2 (bbw b3 b5))⟩
  · rw [h1] at H1 H2 G3
    rw [h2] at H3
    rw [show flc 0 = 9223372036854775808 by decide +kernel] at G3
    have K := fun w1 => rf_kind (b := 0) (by omega) w1
    rw [show kd 0 = 0 by decide +kernel] at K
    have HK := Lib.hid K
    clear h1 h2 hl hl2 K
    generalize flc a = fa at *
    generalize flc b = fb at *
    go_enter Try.func4, Try.ntmps4
    go_wp2_with fail
    with_reducible refine (H1.out _).mono ?_
    rintro _ w1 ⟨rfl, b1⟩
    go_wp2_with fail
    with_reducible refine (H2.out _).mono ?_
    rintro _ w2 ⟨rfl, b2⟩
    go_wp2_with fail
    with_reducible refine (G1.out _).mono ?_
    rintro _ _ ⟨rfl, rfl⟩
    go_wp2_with fail
    with_reducible refine (G2.out _).mono ?_
    rintro _ _ ⟨rfl, rfl⟩
    go_wp2_with fail
    with_reducible refine (H3.out _).mono ?_
    rintro _ w3 ⟨rfl, b3⟩
    go_wp2_with fail
    refine (G3.out _).mono ?_
    rintro _ _ ⟨rfl, rfl⟩
    go_wp2_with fail
    refine (HK.out _).mono ?_
    rintro _ _ ⟨rfl, rfl⟩
    go_wp2_with fail
    refine (HK.out _).mono ?_
    rintro _ _ ⟨rfl, rfl⟩
    go_wp2_with fail
    with_reducible refine (same11 _).mono ?_
    rintro _ w5 ⟨rfl, b5⟩
    go_wp2_with fail
    go_ret
    exact ⟨rfl, bbw b1 (bbw b2 (bbw b3 b5))⟩

end Go.Proofs.Ytidjacgifdpcmaa
