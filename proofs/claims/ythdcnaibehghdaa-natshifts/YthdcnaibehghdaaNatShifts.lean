/-
  The walk of the law NatShifts: it returns true for any number and any two shifts. Conditions: the slice reads as a list of words; the integers fit their kind.
-/
import Derived.Test.YthdcnaibehghdaaNatLaws
namespace Go.Proofs.Ythdcnaibehghdaa
open Go.RowKit
set_option linter.unusedVariables false
set_option linter.unusedSimpArgs false

set_option maxHeartbeats 4000000 in
theorem natShifts_walk (a0 : Option Addr) (len0 cap0 : Nat) (z0 : List Int) (m : Int) (n : Int) (w : World) (w0 : IsRow .u64 w a0 len0 cap0 z0) (w1 : (Lit.int .i64 m).wf = true) (w2 : (Lit.int .i64 n).wf = true) :
    Calls Try.prog 9 #[.slice a0 len0 cap0, .int .i64 m, .int .i64 n] w fun e w' => e = .returned (.bool true) ∧ Below w.heap.size w w' := by
  obtain ⟨s0, _⟩ := w0.sl
  clear w0 w1 w2
  have HS := Lib.hid (fun w => same02 w)
  by_cases h0 : 60 < len0
  · go_enter Try.func9, Try.ntmps9
    go_wp2_with fail
    refine (HS.out _).mono ?_
    rintro e w' ⟨rfl, hb⟩
    go_wp2_with fail
    go_ret
    exact ⟨rfl, hb⟩
  by_cases h1 : m < 0
  · go_enter Try.func9, Try.ntmps9
    go_wp2_with fail
    refine (HS.out _).mono ?_
    rintro e w' ⟨rfl, hb⟩
    go_wp2_with fail
    go_ret
    exact ⟨rfl, hb⟩
  by_cases h2 : 2000 < m
  · go_enter Try.func9, Try.ntmps9
    go_wp2_with fail
    refine (HS.out _).mono ?_
    rintro e w' ⟨rfl, hb⟩
    go_wp2_with fail
    go_ret
    exact ⟨rfl, hb⟩
  by_cases h3 : n < 0
  · go_enter Try.func9, Try.ntmps9
    go_wp2_with fail
    refine (HS.out _).mono ?_
    rintro e w' ⟨rfl, hb⟩
    go_wp2_with fail
    go_ret
    exact ⟨rfl, hb⟩
  by_cases h4 : 2000 < n
  · go_enter Try.func9, Try.ntmps9
    go_wp2_with fail
    refine (HS.out _).mono ?_
    rintro e w' ⟨rfl, hb⟩
    go_wp2_with fail
    go_ret
    exact ⟨rfl, hb⟩
  obtain ⟨p, rfl⟩ := Int.eq_ofNat_of_zero_le (show 0 ≤ m by omega)
  obtain ⟨q, rfl⟩ := Int.eq_ofNat_of_zero_le (show 0 ≤ n by omega)
  have hp : p ≤ 2000 := by omega
  have hq : q ≤ 2000 := by omega
  clear h1 h2 h3 h4
  generalize z0.take len0 = xs at s0
  have va : val xs < W ^ 60 := val_lt_pow s0.us (by have := s0.len; omega)
  have cp : clampS (p : Int) = p := by rw [clampS_mid (by omega) (by omega), Int.toNat_natCast]
  have cq : clampS (q : Int) = q := by rw [clampS_mid (by omega) (by omega), Int.toNat_natCast]
  have cpq : clampS ((p : Int) + q) = p + q := by rw [clampS_mid (by omega) (by omega)]; omega
  generalize ea : val xs = a at va
  have S1 := nat_shl s0 (by omega) (p : Int)
  rw [ea, cp] at S1
  have EA := Lib.hid ea
  have VA := Lib.hid va
  have CQ := Lib.hid cq
  have CPQ := Lib.hid cpq
  have HS1 := Lib.hid S1
  clear ea va cp cq cpq S1
  have q1 : (60 : Int) ≥ len0 := by omega
  have q2 : (p : Int) ≤ 2000 := by omega
  have q3 : (q : Int) ≤ 2000 := by omega
  go_enter Try.func9, Try.ntmps9
  go_wp2_with fail
  refine HS1.out.mono ?_
  rintro e w1 ⟨A1, n1, c1, rfl, t1, b1⟩
  have l1 : n1 ≤ 92 := t1.small (mul_lt_pow (k := 60) (l := 32) VA.out (by omega))
  have S2 := nat_shl t1 (by omega) (q : Int)
  rw [val_words, CQ.out, Nat.mul_assoc, ← Nat.pow_add] at S2
  have HS2 := Lib.hid S2
  clear S2 HS1
  go_wp2_with fail
  refine HS2.out.mono ?_
  rintro e w2 ⟨A2, n2, c2, rfl, t2, b2⟩
  have b2' : Below w.heap.size w w2 := b1.trans (b2.mono b1.size)
  have t1' := t1.below b2
  have l2 : n2 ≤ 123 := t2.small (mul_lt_pow (k := 60) (l := 63) VA.out (by omega))
  have S3 := nat_shl (s0.below b2') (by omega) ((p : Int) + q)
  rw [EA.out, CPQ.out] at S3
  have HS3 := Lib.hid S3
  clear S3 HS2 b1 b2 t1
  go_wp2_with fail
  refine HS3.out.mono ?_
  rintro e w3 ⟨A3, n3, c3, rfl, t3, b3⟩
  have b3' : Below w.heap.size w w3 := b2'.trans (b3.mono b2'.size)
  have t1 := t1'.below b3
  have t2' := t2.below b3
  have l3 : n3 ≤ 123 := t3.small (mul_lt_pow (k := 60) (l := 63) VA.out (by omega))
  have S4 := plain_words t2' t3 (by omega) (by omega)
  rw [decide_eq_true rfl] at S4
  have HS4 := Lib.hid S4
  clear S4 HS3 b2' b3 t1' t2
  go_wp2_with fail
  refine HS4.out.mono ?_
  rintro e w4 ⟨rfl, k4, rfl⟩
  have b4' : Below w.heap.size w (w3.drewN k4) := Below.drewN' b3' k4
  have t4 : Sl (w3.drewN k4) A1 n1 c1 (words (a * 2 ^ p)) := t1
  generalize w3.drewN k4 = w4 at b4' t4 ⊢
  clear t1 t2' t3 b3' HS4
  have S5 := nat_shr t4 (by omega) (p : Int) (by omega)
  rw [val_words, Int.toNat_natCast, Nat.mul_div_cancel _ (Nat.two_pow_pos p)] at S5
  have HS5 := Lib.hid S5
  clear S5
  go_wp2_with fail
  refine HS5.out.mono ?_
  rintro e w5 ⟨A5, n5, c5, rfl, t5, b5⟩
  have b5' : Below w.heap.size w w5 := b4'.trans (b5.mono b4'.size)
  have t1 := t4.below b5
  have l5 : n5 ≤ 60 := t5.small VA.out
  have S6 := nat_trim (s0.below b5') (by omega)
  rw [EA.out] at S6
  have HS6 := Lib.hid S6
  clear S6 HS5 b4' b5 t4
  go_wp2_with fail
  refine HS6.out.mono ?_
  rintro e w6 ⟨A6, n6, c6, rfl, t6, b6⟩
  have b6' : Below w.heap.size w w6 := b5'.trans (b6.mono b5'.size)
  have t1' := t1.below b6
  have t5' := t5.below b6
  have l6 : n6 ≤ 60 := t6.small VA.out
  have S7 := plain_words t5' t6 (by omega) (by omega)
  rw [decide_eq_true rfl] at S7
  have HS7 := Lib.hid S7
  clear S7 HS6 b5' b6 t1 t5
  go_wp2_with fail
  refine HS7.out.mono ?_
  rintro e w7 ⟨rfl, k7, rfl⟩
  have b7' : Below w.heap.size w (w6.drewN k7) := Below.drewN' b6' k7
  have t7 : Sl (w6.drewN k7) A1 n1 c1 (words (a * 2 ^ p)) := t1'
  generalize w6.drewN k7 = w7 at b7' t7 ⊢
  clear t1' t5' t6 b6' HS7
  rcases Nat.eq_zero_or_pos a with ha | ha
  · have hn : n1 = 0 := by rw [t7.len, ha, Nat.zero_mul]; rfl
    subst hn
    clear t7 ha
    go_wp2_with fail
    refine (HS.out _).mono ?_
    rintro e w10 ⟨rfl, hb⟩
    go_wp2_with fail
    go_ret
    exact ⟨rfl, b7'.trans (hb.mono b7'.size)⟩
  · have hn : n1 ≠ 0 := by
      intro h9
      have h8 := t7.len
      rw [h9] at h8
      have h7 : words (a * 2 ^ p) = [] := List.eq_nil_of_length_eq_zero h8.symm
      have h6 := val_words (a * 2 ^ p)
      rw [h7] at h6
      have h5 : 0 < a * 2 ^ p := Nat.mul_pos ha (Nat.two_pow_pos p)
      have h4 : val [] = 0 := rfl
      omega
    have hn' : ((n1 : Int) == 0) = false := by simp; omega
    have S8 := nat_bits t7 (by omega)
    have S9 := nat_bits (s0.below b7') (by omega)
    have S10 := nat_even t7 (by omega)
    have S11 := nat_even (s0.below b7') (by omega)
    have hbl : blen a ≤ 3840 := by
      have := blen_val_le s0
      rw [EA.out] at this
      omega
    have htz : tz a < blen a := bit_lt_blen (tz_spec ha).2
    rw [val_words, blen_mul_pow ha] at S8
    rw [EA.out] at S9 S11
    rw [val_words, tz_mul_pow ha] at S10
    generalize blen a = q4 at *
    generalize tz a = q5 at *
    rw [show ((q4 + p : Nat) : Int) = (q4 : Int) + p by omega] at S8
    rw [show ((q5 + p : Nat) : Int) = (q5 : Int) + p by omega] at S10
    have HS8 := Lib.hid S8
    have HS9 := Lib.hid S9
    have HS10 := Lib.hid S10
    have HS11 := Lib.hid S11
    clear S8 S9 S10 S11 t7 ha hn
    go_wp2_with fail
    refine HS8.out.mono ?_
    rintro e w' ⟨rfl, rfl⟩
    go_wp2_with fail
    refine HS9.out.mono ?_
    rintro e w' ⟨rfl, rfl⟩
    go_wp2_with fail
    refine HS10.out.mono ?_
    rintro e w' ⟨rfl, rfl⟩
    go_wp2_with fail
    refine HS11.out.mono ?_
    rintro e w' ⟨rfl, rfl⟩
    go_wp2_with fail
    refine (HS.out _).mono ?_
    rintro e w10 ⟨rfl, hb⟩
    go_wp2_with fail
    go_ret
    exact ⟨rfl, b7'.trans (hb.mono b7'.size)⟩

end Go.Proofs.Ythdcnaibehghdaa
