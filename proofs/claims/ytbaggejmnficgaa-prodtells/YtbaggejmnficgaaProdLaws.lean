/-
  The walks of the laws of layer 3: each returns true for any numbers. Conditions: the slices read as lists of words; the integers fit their kind.
-/
import Derived.Test.YtbaggejmnficgaaRefProd
namespace Go.Proofs.Ytbaggejmnficgaa
open Go.RowKit
set_option linter.unusedVariables false
set_option linter.unusedSimpArgs false

theorem words_square : words (val [18446744073709551615] * val [18446744073709551615]) = [1, 18446744073709551614] := by
  have e : val [18446744073709551615] * val [18446744073709551615] = val [1, 18446744073709551614] := by decide
  rw [e, words_val (by intro x hx; simp at hx; rcases hx with rfl | rfl <;> (unfold W; omega))]
  decide
theorem words_81 : words (val [3] ^ clampP 4) = [81] := by
  have e : val [3] ^ clampP 4 = val [81] := by decide
  rw [e, words_val (by intro x hx; simp at hx; subst hx; unfold W; omega)]
  decide

set_option maxHeartbeats 1000000 in
theorem same03 (w : World) : Calls Try.prog 11 #[] w fun e w' => e = .returned (.bool true) ∧ Below w.heap.size w w' := by
  have s1 := sl_lit w 18446744073709551615 (by unfold U; omega)
  have s2 := sl_lit (w.alloc (.cells #[.int .u64 18446744073709551615] 23)) 18446744073709551615 (by unfold U; omega)
  have s1' := s1.below (below_alloc _ (.cells #[.int .u64 18446744073709551615] 23))
  have hb0 : Below w.heap.size w ((w.alloc (.cells #[.int .u64 18446744073709551615] 23)).alloc (.cells #[.int .u64 18446744073709551615] 23)) := (below_alloc w _).alloc (by simp) _
  rw [show (w.alloc (.cells #[.int .u64 18446744073709551615] 23)).heap.size = w.heap.size + 1 from by simp] at s2
  have C := prod_mul s1' s2 (by omega)
  rw [words_square] at C
  have HC := Lib.hid C
  have HB0 := Lib.hid hb0
  clear C s1 s2 s1' hb0
  go_enter Try.func11, Try.ntmps11
  go_wp2_with fail
  refine HC.out.mono ?_
  rintro e w1 ⟨A1, n1, c1, rfl, s1, b1⟩
  have hb1 := HB0.out.trans (b1.mono HB0.out.size)
  have hn1 : n1 = 2 := s1.len
  subst hn1
  have s3 := sl_lit w1 3 (by unfold U; omega)
  have b3 := below_alloc w1 (.cells #[.int .u64 3] 23)
  have P := prod_pow s3 (by omega) 4
  rw [words_81] at P
  have HP := Lib.hid P
  have hb3 := hb1.trans (b3.mono hb1.size)
  have s1' := s1.below b3
  clear P s3 b1 s1 hb1 HC HB0 b3
  go_wp2_with fail
  refine HP.out.mono ?_
  rintro e w2 ⟨A2, n2, c2, rfl, s2, b2⟩
  have hn2 : n2 = 1 := s2.len
  subst hn2
  have s1 := s1'.below b2
  obtain ⟨b, off, rfl, hlt, hc⟩ := s1.at_ (k := 0) (by omega)
  have hc0 : w2.cell? ⟨b, off, none⟩ = some (.int .u64 1) := hc 0 (by omega)
  have hc1 : w2.cell? ⟨b, off + 1, none⟩ = some (.int .u64 18446744073709551614) := hc 1 (by omega)
  obtain ⟨b', off', rfl, hlt', hc'⟩ := s2.at_ (k := 0) (by omega)
  have hc2 : w2.cell? ⟨b', off', none⟩ = some (.int .u64 81) := hc' 0 (by omega)
  have hb2 := hb3.trans (b2.mono hb3.size)
  clear hc hc' s1 s2 b2 HP s1' hlt hlt'
  go_wp2_with fail
  go_ret
  exact ⟨rfl, hb2⟩

set_option maxHeartbeats 1000000 in
theorem prodPowers_walk (a0 : Option Addr) (len0 cap0 : Nat) (z0 : List Int) (i : Int) (w : World) (w0 : IsRow .u64 w a0 len0 cap0 z0) (w1 : (Lit.int .i64 i).wf = true) :
    Calls Try.prog 4 #[.slice a0 len0 cap0, .int .i64 i] w fun e w' => e = .returned (.bool true) ∧ Below w.heap.size w w' := by
  obtain ⟨s0, _⟩ := w0.sl
  clear w0 w1
  have HS := Lib.hid (fun w => same03 w)
  by_cases h0 : 3 < len0
  · go_enter Try.func4, Try.ntmps4
    go_wp2_with fail
    refine (HS.out _).mono ?_
    rintro e w' ⟨rfl, hb⟩
    go_wp2_with fail
    go_ret
    exact ⟨rfl, hb⟩
  generalize z0.take len0 = xs at s0
  have va : val xs < W ^ 3 := val_lt_pow s0.us (by have := s0.len; omega)
  have VA := Lib.hid va
  have hcl := clampP_le i
  have R1 := prod_pow s0 (by omega) i
  have R2 := fun w1 (hb : Below w.heap.size w w1) => ref_npow (s0.below hb) (by omega) i
  generalize clampP i = m at *
  have H1 := Lib.hid R1
  have H2 := Lib.hid R2
  clear va R1 R2
  go_enter Try.func4, Try.ntmps4
  go_wp2_with fail
  refine H1.out.mono ?_
  rintro e w1 ⟨A1, n1, c1, rfl, t1, b1⟩
  go_wp2_with fail
  refine (H2.out _ b1).mono ?_
  rintro e w2 ⟨A2, n2, c2, rfl, t2, b2⟩
  have hb2 := b1.trans (b2.mono b1.size)
  have l1 := t1.powSmall VA.out (by omega) (by omega)
  have l2 := t2.powSmall VA.out (by omega) (by omega)
  have S := plain_words (t1.below b2) t2 (by omega) (by omega)
  rw [decide_eq_true rfl] at S
  have H3 := Lib.hid S
  clear S b1 b2 t1 t2 H1 H2
  go_wp2_with fail
  refine H3.out.mono ?_
  rintro e w3 ⟨rfl, k3, rfl⟩
  have hb3 : Below w.heap.size w (w2.drewN k3) := Below.drewN' hb2 k3
  generalize w2.drewN k3 = w3 at hb3 ⊢
  clear hb2 H3
  go_wp2_with fail
  refine (HS.out _).mono ?_
  rintro e w4 ⟨rfl, hb⟩
  go_wp2_with fail
  go_ret
  exact ⟨rfl, hb3.trans (hb.mono hb3.size)⟩

set_option maxHeartbeats 1000000 in
theorem prodAdds_walk (a0 : Option Addr) (len0 cap0 : Nat) (z0 : List Int) (m : Int) (n : Int) (w : World) (w0 : IsRow .u64 w a0 len0 cap0 z0) (w1 : (Lit.int .i64 m).wf = true) (w2 : (Lit.int .i64 n).wf = true) :
    Calls Try.prog 7 #[.slice a0 len0 cap0, .int .i64 m, .int .i64 n] w fun e w' => e = .returned (.bool true) ∧ Below w.heap.size w w' := by
  obtain ⟨s0, _⟩ := w0.sl
  clear w0 w1 w2
  have HS := Lib.hid (fun w => same03 w)
  by_cases h0 : 3 < len0
  · go_enter Try.func7, Try.ntmps7
    go_wp2_with fail
    refine (HS.out _).mono ?_
    rintro e w' ⟨rfl, hb⟩
    go_wp2_with fail
    go_ret
    exact ⟨rfl, hb⟩
  by_cases h1 : m < 0
  · go_enter Try.func7, Try.ntmps7
    go_wp2_with fail
    refine (HS.out _).mono ?_
    rintro e w' ⟨rfl, hb⟩
    go_wp2_with fail
    go_ret
    exact ⟨rfl, hb⟩
  by_cases h2 : 20 < m
  · go_enter Try.func7, Try.ntmps7
    go_wp2_with fail
    refine (HS.out _).mono ?_
    rintro e w' ⟨rfl, hb⟩
    go_wp2_with fail
    go_ret
    exact ⟨rfl, hb⟩
  by_cases h3 : n < 0
  · go_enter Try.func7, Try.ntmps7
    go_wp2_with fail
    refine (HS.out _).mono ?_
    rintro e w' ⟨rfl, hb⟩
    go_wp2_with fail
    go_ret
    exact ⟨rfl, hb⟩
  by_cases h4 : 20 < n
  · go_enter Try.func7, Try.ntmps7
    go_wp2_with fail
    refine (HS.out _).mono ?_
    rintro e w' ⟨rfl, hb⟩
    go_wp2_with fail
    go_ret
    exact ⟨rfl, hb⟩
  generalize z0.take len0 = xs at s0
  have va : val xs < W ^ 3 := val_lt_pow s0.us (by have := s0.len; omega)
  have VA := Lib.hid va
  have c1 := clampP_mid (n := m) (by omega) (by omega)
  have c2 := clampP_mid (n := n) (by omega) (by omega)
  have c3 := clampP_mid (n := m + n) (by omega) (by omega)
  have R1 := prod_pow s0 (by omega) m
  have R2 := fun w1 (hb : Below w.heap.size w w1) => prod_pow (s0.below hb) (by omega) n
  have R3 := fun w1 (hb : Below w.heap.size w w1) => prod_pow (s0.below hb) (by omega) (m + n)
  rw [c1] at R1
  rw [c2] at R2
  rw [c3, show (m + n).toNat = m.toNat + n.toNat by omega] at R3
  have q1 : m.toNat ≤ 20 := by omega
  have q2 : n.toNat ≤ 20 := by omega
  generalize m.toNat = p at *
  generalize n.toNat = q at *
  have H1 := Lib.hid R1
  have H2 := Lib.hid R2
  have H3 := Lib.hid R3
  clear va R1 R2 R3 c1 c2 c3
  go_enter Try.func7, Try.ntmps7
  go_wp2_with fail
  refine H1.out.mono ?_
  rintro e w1 ⟨A1, n1, c1, rfl, t1, b1⟩
  go_wp2_with fail
  refine (H2.out _ b1).mono ?_
  rintro e w2 ⟨A2, n2, c2, rfl, t2, b2⟩
  have hb2 := b1.trans (b2.mono b1.size)
  have l1 := t1.powSmall VA.out (by omega) (by omega)
  have l2 := t2.powSmall VA.out (by omega) (by omega)
  have M := prod_mul (t1.below b2) t2 (by omega)
  rw [val_words, val_words, ← Nat.pow_add] at M
  have HM := Lib.hid M
  clear M b1 b2 t1 t2 H1 H2
  go_wp2_with fail
  refine HM.out.mono ?_
  rintro e w3 ⟨A3, n3, c3, rfl, t3, b3⟩
  have hb3 := hb2.trans (b3.mono hb2.size)
  clear hb2 b3 HM
  go_wp2_with fail
  refine (H3.out _ hb3).mono ?_
  rintro e w4 ⟨A4, n4, c4, rfl, t4, b4⟩
  have hb4 := hb3.trans (b4.mono hb3.size)
  have l3 := t3.powSmall VA.out (by omega) (by omega)
  have l4 := t4.powSmall VA.out (by omega) (by omega)
  have S := plain_words (t3.below b4) t4 (by omega) (by omega)
  rw [decide_eq_true rfl] at S
  have H4 := Lib.hid S
  clear S b4 t3 t4 H3 hb3
  go_wp2_with fail
  refine H4.out.mono ?_
  rintro e w5 ⟨rfl, k5, rfl⟩
  have hb5 : Below w.heap.size w (w4.drewN k5) := Below.drewN' hb4 k5
  generalize w4.drewN k5 = w5 at hb5 ⊢
  clear hb4 H4
  go_wp2_with fail
  refine (HS.out _).mono ?_
  rintro e w6 ⟨rfl, hb⟩
  go_wp2_with fail
  go_ret
  exact ⟨rfl, hb5.trans (hb.mono hb5.size)⟩

set_option maxHeartbeats 2000000 in
theorem prodRing_walk (a0 : Option Addr) (len0 cap0 : Nat) (z0 : List Int) (a1 : Option Addr) (len1 cap1 : Nat) (z1 : List Int) (a2 : Option Addr) (len2 cap2 : Nat) (z2 : List Int) (w : World) (w0 : IsRow .u64 w a0 len0 cap0 z0) (w1 : IsRow .u64 w a1 len1 cap1 z1) (w2 : IsRow .u64 w a2 len2 cap2 z2) :
    Calls Try.prog 5 #[.slice a0 len0 cap0, .slice a1 len1 cap1, .slice a2 len2 cap2] w fun e w' => e = .returned (.bool true) ∧ Below w.heap.size w w' := by
  obtain ⟨s0, _⟩ := w0.sl
  obtain ⟨s1, _⟩ := w1.sl
  obtain ⟨s2, _⟩ := w2.sl
  clear w0 w1 w2
  have HS := Lib.hid (fun w => same03 w)
  by_cases h0 : 24 < len0
  · go_enter Try.func5, Try.ntmps5
    go_wp2_with fail
    refine (HS.out _).mono ?_
    rintro e w' ⟨rfl, hb⟩
    go_wp2_with fail
    go_ret
    exact ⟨rfl, hb⟩
  by_cases h1 : 24 < len1
  · go_enter Try.func5, Try.ntmps5
    go_wp2_with fail
    refine (HS.out _).mono ?_
    rintro e w' ⟨rfl, hb⟩
    go_wp2_with fail
    go_ret
    exact ⟨rfl, hb⟩
  by_cases h2 : 24 < len2
  · go_enter Try.func5, Try.ntmps5
    go_wp2_with fail
    refine (HS.out _).mono ?_
    rintro e w' ⟨rfl, hb⟩
    go_wp2_with fail
    go_ret
    exact ⟨rfl, hb⟩
  generalize z0.take len0 = xs at s0
  generalize z1.take len1 = ys at s1
  generalize z2.take len2 = zs at s2
  have va : val xs < W ^ 24 := val_lt_pow s0.us (by have := s0.len; omega)
  have vb : val ys < W ^ 24 := val_lt_pow s1.us (by have := s1.len; omega)
  have vc : val zs < W ^ 24 := val_lt_pow s2.us (by have := s2.len; omega)
  generalize ea : val xs = a at va
  generalize eb : val ys = b at vb
  generalize ec : val zs = c at vc
  have EA := Lib.hid ea
  have EB := Lib.hid eb
  have EC := Lib.hid ec
  have VA := Lib.hid va
  have VB := Lib.hid vb
  have VC := Lib.hid vc
  clear ea eb ec va vb vc
  go_enter Try.func5, Try.ntmps5
  go_wp2_with fail
  refine (prod_mul s0 s1 (by omega)).mono ?_
  rintro e w1 ⟨A1, n1, c1, rfl, t1, b1⟩
  rw [EA.out, EB.out] at t1
  have l1 : n1 ≤ 48 := t1.small (mul_lt_powW VA.out VB.out)
  have S1 := prod_mul t1 (s2.below b1) (by omega)
  rw [val_words, EC.out] at S1
  have H1 := Lib.hid S1
  clear S1 t1
  go_wp2_with fail
  refine H1.out.mono ?_
  rintro e w2 ⟨A2, n2, c2, rfl, t2, b2⟩
  have hb2 := b1.trans (b2.mono b1.size)
  have l2 : n2 ≤ 72 := t2.small (mul_lt_powW (mul_lt_powW VA.out VB.out) VC.out)
  have S2 := prod_mul (s2.below hb2) (s1.below hb2) (by omega)
  rw [EC.out, EB.out] at S2
  have H2 := Lib.hid S2
  clear S2 b1 b2 H1
  go_wp2_with fail
  refine H2.out.mono ?_
  rintro e w3 ⟨A3, n3, c3, rfl, t3, b3⟩
  have hb3 := hb2.trans (b3.mono hb2.size)
  have t2' := t2.below b3
  have l3 : n3 ≤ 48 := t3.small (mul_lt_powW VC.out VB.out)
  have S3 := prod_mul (s0.below hb3) t3 (by omega)
  rw [val_words, EA.out] at S3
  have H3 := Lib.hid S3
  clear S3 hb2 b3 H2 t2 t3
  go_wp2_with fail
  refine H3.out.mono ?_
  rintro e w4 ⟨A4, n4, c4, rfl, t4, b4⟩
  have hb4 := hb3.trans (b4.mono hb3.size)
  have t2 := t2'.below b4
  have l4 : n4 ≤ 72 := t4.small (mul_lt_powW VA.out (mul_lt_powW VC.out VB.out))
  have S4 := nat_add (s1.below hb4) (s2.below hb4) (by omega) (by omega)
  rw [EB.out, EC.out] at S4
  have H4 := Lib.hid S4
  clear S4 hb3 b4 H3 t2'
  go_wp2_with fail
  refine H4.out.mono ?_
  rintro e w5 ⟨A5, n5, c5, rfl, t5, b5⟩
  have hb5 := hb4.trans (b5.mono hb4.size)
  have t2' := t2.below b5
  have t4' := t4.below b5
  have l5 : n5 ≤ 25 := t5.small (add_lt_pow VB.out VC.out)
  have S5 := prod_mul (s0.below hb5) t5 (by omega)
  rw [val_words, EA.out] at S5
  have H5 := Lib.hid S5
  clear S5 hb4 b5 H4 t2 t4 t5
  go_wp2_with fail
  refine H5.out.mono ?_
  rintro e w6 ⟨A6, n6, c6, rfl, t6, b6⟩
  have hb6 := hb5.trans (b6.mono hb5.size)
  have t2 := t2'.below b6
  have t4 := t4'.below b6
  have l6 : n6 ≤ 49 := t6.small (mul_lt_powW VA.out (add_lt_pow VB.out VC.out))
  have S6 := plain_words t2 t4 (by omega) (by omega)
  rw [decide_eq_true (show words (a * b * c) = words (a * (c * b)) by rw [Nat.mul_assoc, Nat.mul_comm b c])] at S6
  have H6 := Lib.hid S6
  clear S6 hb5 b6 H5 t2' t4'
  go_wp2_with fail
  refine H6.out.mono ?_
  rintro e w7 ⟨rfl, k7, rfl⟩
  have hb7 : Below w.heap.size w (w6.drewN k7) := Below.drewN' hb6 k7
  have t7 : Sl (w6.drewN k7) A6 n6 c6 (words (a * (b + c))) := t6
  generalize w6.drewN k7 = w7 at hb7 t7 ⊢
  have S7 := prod_mul (s0.below hb7) (s1.below hb7) (by omega)
  rw [EA.out, EB.out] at S7
  have H7 := Lib.hid S7
  clear S7 hb6 t2 t4 t6 H6
  go_wp2_with fail
  refine H7.out.mono ?_
  rintro e w8 ⟨A8, n8, c8, rfl, t8, b8⟩
  have hb8 := hb7.trans (b8.mono hb7.size)
  have t7' := t7.below b8
  have l8 : n8 ≤ 48 := t8.small (mul_lt_powW VA.out VB.out)
  have S8 := prod_mul (s0.below hb8) (s2.below hb8) (by omega)
  rw [EA.out, EC.out] at S8
  have H8 := Lib.hid S8
  clear S8 hb7 t7 b8 H7
  go_wp2_with fail
  refine H8.out.mono ?_
  rintro e w9 ⟨A9, n9, c9, rfl, t9, b9⟩
  have hb9 := hb8.trans (b9.mono hb8.size)
  have t7 := t7'.below b9
  have l9 : n9 ≤ 48 := t9.small (mul_lt_powW VA.out VC.out)
  have S9 := nat_add (t8.below b9) t9 (by omega) (by omega)
  rw [val_words, val_words] at S9
  have H9 := Lib.hid S9
  clear S9 hb8 t7' b9 H8 t8 t9
  go_wp2_with fail
  refine H9.out.mono ?_
  rintro e w10 ⟨A10, n10, c10, rfl, t10, b10⟩
  have hb10 := hb9.trans (b10.mono hb9.size)
  have l10 : n10 ≤ 49 := t10.small (add_lt_pow (mul_lt_powW VA.out VB.out) (mul_lt_powW VA.out VC.out))
  have S10 := plain_words (t7.below b10) t10 (by omega) (by omega)
  rw [decide_eq_true (show words (a * (b + c)) = words (a * b + a * c) by rw [Nat.mul_add])] at S10
  have H10 := Lib.hid S10
  clear S10 hb9 t7 b10 H9 t10
  go_wp2_with fail
  refine H10.out.mono ?_
  rintro e w11 ⟨rfl, k11, rfl⟩
  have hb11 : Below w.heap.size w (w10.drewN k11) := Below.drewN' hb10 k11
  generalize w10.drewN k11 = w11 at hb11 ⊢
  clear hb10 H10
  go_wp2_with fail
  refine (HS.out _).mono ?_
  rintro e w12 ⟨rfl, hb⟩
  go_wp2_with fail
  go_ret
  exact ⟨rfl, hb11.trans (hb.mono hb11.size)⟩

/-- a product of nonzero numbers has as many bits as both, or one fewer -/
theorem blen_mul {a b : Nat} (ha : 0 < a) (hb : 0 < b) : blen (a * b) = blen a + blen b ∨ blen (a * b) = blen a + blen b - 1 := by
  have h1 := blen_lt a
  have h2 := blen_lt b
  have h3 := blen_self ha
  have h4 := blen_self hb
  have p1 := blen_pos ha
  have p2 := blen_pos hb
  have u : a * b < 2 ^ (blen a + blen b) := by
    rw [Nat.pow_add]
    exact Nat.mul_lt_mul_of_lt_of_le h1 (Nat.le_of_lt h2) (Nat.two_pow_pos _)
  have l : 2 ^ (blen a - 1 + (blen b - 1)) ≤ a * b := by rw [Nat.pow_add]; exact Nat.mul_le_mul h3 h4
  have := blen_le u
  have := blen_ge l
  omega

end Go.Proofs.Ytbaggejmnficgaa
