/-
  The walks of the laws GcdGreatest and GcdProduct. Conditions: the slices read as lists of words.
-/
import Derived.Test.YtolibnnmojinkaaGcdLaws
namespace Go.Proofs.Ytolibnnmojinkaa
open Go.RowKit
set_option linter.unusedVariables false
set_option linter.unusedSimpArgs false

set_option maxRecDepth 100000 in
set_option maxHeartbeats 4000000 in
theorem gcdGreatest_walk (a0 : Option Addr) (len0 cap0 : Nat) (z0 : List Int) (a1 : Option Addr) (len1 cap1 : Nat) (z1 : List Int) (a2 : Option Addr) (len2 cap2 : Nat) (z2 : List Int) (w : World) (w0 : IsRow .u64 w a0 len0 cap0 z0) (w1 : IsRow .u64 w a1 len1 cap1 z1) (w2 : IsRow .u64 w a2 len2 cap2 z2) :
    Calls Try.prog 4 #[.slice a0 len0 cap0, .slice a1 len1 cap1, .slice a2 len2 cap2] w fun e w' => e = .returned (.bool true) ∧ Below w.heap.size w w' := by
  obtain ⟨s0, _⟩ := w0.sl
  obtain ⟨s1, _⟩ := w1.sl
  obtain ⟨s2, _⟩ := w2.sl
  clear w0 w1 w2
  have HS := Lib.hid (fun w => same05 w)
  by_cases h0 : 5 < len0
  · go_enter Try.func4, Try.ntmps4
    go_wp2_with fail
    refine (HS.out _).mono ?_
    rintro e w' ⟨rfl, hb⟩
    go_wp2_with fail
    go_ret
    exact ⟨rfl, hb⟩
  by_cases h1 : 5 < len1
  · go_enter Try.func4, Try.ntmps4
    go_wp2_with fail
    refine (HS.out _).mono ?_
    rintro e w' ⟨rfl, hb⟩
    go_wp2_with fail
    go_ret
    exact ⟨rfl, hb⟩
  by_cases h2 : 3 < len2
  · go_enter Try.func4, Try.ntmps4
    go_wp2_with fail
    refine (HS.out _).mono ?_
    rintro e w' ⟨rfl, hb⟩
    go_wp2_with fail
    go_ret
    exact ⟨rfl, hb⟩
  generalize z0.take len0 = xs at s0
  generalize z1.take len1 = ys at s1
  generalize z2.take len2 = zs at s2
  have va : val xs < W ^ 5 := val_lt_pow s0.us (by have := s0.len; omega)
  have vb : val ys < W ^ 5 := val_lt_pow s1.us (by have := s1.len; omega)
  have vc : val zs < W ^ 3 := val_lt_pow s2.us (by have := s2.len; omega)
  have vg := gcd_lt va vb
  have GG := gcd_gcd (N := 5) s0 s1 (by omega) (by omega) (by omega)
  have D1 := fun w1 (hb : Below w.heap.size w w1) (B : Option Addr) (nb cb X : Nat) (s : Sl w1 B nb cb (words X)) (hnb : nb ≤ 5) => law_divides s (s0.below hb) (by omega) (by omega)
  have D2 := fun w1 (hb : Below w.heap.size w w1) (B : Option Addr) (nb cb X : Nat) (s : Sl w1 B nb cb (words X)) (hnb : nb ≤ 5) => law_divides s (s1.below hb) (by omega) (by omega)
  have D3 := fun w1 (hb : Below w.heap.size w w1) => law_divides (s2.below hb) (s0.below hb) (by omega) (by omega)
  have D4 := fun w1 (hb : Below w.heap.size w w1) => law_divides (s2.below hb) (s1.below hb) (by omega) (by omega)
  have D5 := fun w1 (hb : Below w.heap.size w w1) (B : Option Addr) (nb cb X : Nat) (s : Sl w1 B nb cb (words X)) (hnb : nb ≤ 5) => law_divides (s2.below hb) s (by omega) (by omega)
  have M1 := fun w1 (hb : Below w.heap.size w w1) => ref_nmul (s0.below hb) (s2.below hb) (by omega) (by omega)
  have M2 := fun w1 (hb : Below w.heap.size w w1) => ref_nmul (s1.below hb) (s2.below hb) (by omega) (by omega)
  have M3 := fun w1 (hb : Below w.heap.size w w1) (B : Option Addr) (nb cb X : Nat) (s : Sl w1 B nb cb (words X)) (hnb : nb ≤ 5) => ref_nmul s (s2.below hb) (by omega) (by omega)
  have v1 := mul_lt_powW va vc
  have v2 := mul_lt_powW vb vc
  have v3 := mul_lt_powW vg vc
  have eg := Nat.gcd_mul_right (val xs) (val zs) (val ys)
  have da := Nat.gcd_dvd_left (val xs) (val ys)
  have db := Nat.gcd_dvd_right (val xs) (val ys)
  have dg := fun (h1 : val zs ∣ val xs) (h2 : val zs ∣ val ys) => Nat.dvd_gcd h1 h2
  generalize Nat.gcd (val xs) (val ys) = G at *
  simp only [val_words] at D1 D2 D5 M3
  have HG := Lib.hid GG
  have HD1 := Lib.hid D1
  have HD2 := Lib.hid D2
  have HD3 := Lib.hid D3
  have HD4 := Lib.hid D4
  have HD5 := Lib.hid D5
  have HM1 := Lib.hid M1
  have HM2 := Lib.hid M2
  have HM3 := Lib.hid M3
  have HV := Lib.hid vg
  have HV1 := Lib.hid v1
  have HV2 := Lib.hid v2
  have HV3 := Lib.hid v3
  have HEG := Lib.hid eg
  have HDA := Lib.hid da
  have HDB := Lib.hid db
  clear GG D1 D2 D3 D4 D5 M1 M2 M3 vg va vb vc v1 v2 v3 eg da db s0 s1 s2
  by_cases hca : val zs ∣ val xs
  · by_cases hcb : val zs ∣ val ys
    · have hcg := dg hca hcb
      clear dg
      go_enter Try.func4, Try.ntmps4
      go_wp2_with fail
      refine HG.out.mono ?_
      rintro e w1 ⟨A1, n1, c1, rfl, t1, b1⟩
      have l1 : n1 ≤ 5 := t1.small HV.out
      go_wp2_with fail
      refine (HD1.out _ b1 _ _ _ _ t1 l1).mono ?_
      rintro e w3 ⟨rfl, b3⟩
      rw [decide_eq_true HDA.out]
      have hb3 := b1.trans (b3.mono b1.size)
      have t3 := t1.below b3
      clear t1 b1 b3 HG
      go_wp2_with fail
      refine (HD2.out _ hb3 _ _ _ _ t3 l1).mono ?_
      rintro e w4 ⟨rfl, b4⟩
      rw [decide_eq_true HDB.out]
      have hb4 := hb3.trans (b4.mono hb3.size)
      have t4 := t3.below b4
      clear t3 hb3 b4 HD1 HD2
      go_wp2_with fail
      refine (HD3.out _ hb4).mono ?_
      rintro e w5 ⟨rfl, b5⟩
      rw [decide_eq_true hca]
      have hb5 := hb4.trans (b5.mono hb4.size)
      have t5 := t4.below b5
      clear hb4 b5 t4
      go_wp2_with fail
      refine (HD4.out _ hb5).mono ?_
      rintro e w6 ⟨rfl, b6⟩
      rw [decide_eq_true hcb]
      have hb6 := hb5.trans (b6.mono hb5.size)
      have t6 := t5.below b6
      clear hb5 b6 t5
      go_wp2_with fail
      refine (HD5.out _ hb6 _ _ _ _ t6 l1).mono ?_
      rintro e w7 ⟨rfl, b7⟩
      rw [decide_eq_true hcg]
      have hb7 := hb6.trans (b7.mono hb6.size)
      have t7 := t6.below b7
      clear hb6 b7 t6
      clear HD3 HD4 HD5
      go_wp2_with fail
      refine (HM1.out _ hb7).mono ?_
      rintro e w8 ⟨A8, n8, c8, rfl, t8, b8⟩
      have l8 : n8 ≤ 8 := t8.small HV1.out
      have hb8 := hb7.trans (b8.mono hb7.size)
      have t18 := t7.below b8
      clear t7 hb7 b8 HM1
      go_wp2_with fail
      refine (HM2.out _ hb8).mono ?_
      rintro e w9 ⟨A9, n9, c9, rfl, t9, b9⟩
      have l9 : n9 ≤ 8 := t9.small HV2.out
      have hb9 := hb8.trans (b9.mono hb8.size)
      have t19 := t18.below b9
      have S9 := gcd_gcd (N := 8) (t8.below b9) t9 (by omega) (by omega) (by omega)
      rw [val_words, val_words, HEG.out] at S9
      have H9 := Lib.hid S9
      clear S9 t18 t8 t9 hb8 b9 HM2
      go_wp2_with fail
      refine H9.out.mono ?_
      rintro e w10 ⟨A10, n10, c10, rfl, t10, b10⟩
      have l10 : n10 ≤ 8 := t10.small HV3.out
      have hb10 := hb9.trans (b10.mono hb9.size)
      have t110 := t19.below b10
      clear t19 hb9 b10 H9
      go_wp2_with fail
      refine (HM3.out _ hb10 _ _ _ _ t110 l1).mono ?_
      rintro e w11 ⟨A11, n11, c11, rfl, t11, b11⟩
      have l11 : n11 ≤ 8 := t11.small HV3.out
      have hb11 := hb10.trans (b11.mono hb10.size)
      have S12 := plain_words (t10.below b11) t11 (by omega) (by omega)
      rw [decide_eq_true rfl] at S12
      have H12 := Lib.hid S12
      clear S12 t10 t11 t110 hb10 b11 HM3
      go_wp2_with fail
      refine H12.out.mono ?_
      rintro e w12 ⟨rfl, k12, rfl⟩
      have hb12 : Below w.heap.size w (w11.drewN k12) := Below.drewN' hb11 k12
      generalize w11.drewN k12 = w12 at hb12 ⊢
      clear hb11 H12
      go_wp2_with fail
      refine (HS.out _).mono ?_
      rintro e w13 ⟨rfl, hb⟩
      go_wp2_with fail
      go_ret
      exact ⟨rfl, hb12.trans (hb.mono hb12.size)⟩
    · clear dg
      go_enter Try.func4, Try.ntmps4
      go_wp2_with fail
      refine HG.out.mono ?_
      rintro e w1 ⟨A1, n1, c1, rfl, t1, b1⟩
      have l1 : n1 ≤ 5 := t1.small HV.out
      go_wp2_with fail
      refine (HD1.out _ b1 _ _ _ _ t1 l1).mono ?_
      rintro e w3 ⟨rfl, b3⟩
      rw [decide_eq_true HDA.out]
      have hb3 := b1.trans (b3.mono b1.size)
      have t3 := t1.below b3
      clear t1 b1 b3 HG
      go_wp2_with fail
      refine (HD2.out _ hb3 _ _ _ _ t3 l1).mono ?_
      rintro e w4 ⟨rfl, b4⟩
      rw [decide_eq_true HDB.out]
      have hb4 := hb3.trans (b4.mono hb3.size)
      have t4 := t3.below b4
      clear t3 hb3 b4 HD1 HD2
      go_wp2_with fail
      refine (HD3.out _ hb4).mono ?_
      rintro e w5 ⟨rfl, b5⟩
      rw [decide_eq_true hca]
      have hb5 := hb4.trans (b5.mono hb4.size)
      have t5 := t4.below b5
      clear hb4 b5 t4
      go_wp2_with fail
      refine (HD4.out _ hb5).mono ?_
      rintro e w7 ⟨rfl, b6⟩
      rw [decide_eq_false hcb]
      have hb7 := hb5.trans (b6.mono hb5.size)
      have t7 := t5.below b6
      clear hb5 b6 t5
      clear HD3 HD4 HD5
      go_wp2_with fail
      refine (HM1.out _ hb7).mono ?_
      rintro e w8 ⟨A8, n8, c8, rfl, t8, b8⟩
      have l8 : n8 ≤ 8 := t8.small HV1.out
      have hb8 := hb7.trans (b8.mono hb7.size)
      have t18 := t7.below b8
      clear t7 hb7 b8 HM1
      go_wp2_with fail
      refine (HM2.out _ hb8).mono ?_
      rintro e w9 ⟨A9, n9, c9, rfl, t9, b9⟩
      have l9 : n9 ≤ 8 := t9.small HV2.out
      have hb9 := hb8.trans (b9.mono hb8.size)
      have t19 := t18.below b9
      have S9 := gcd_gcd (N := 8) (t8.below b9) t9 (by omega) (by omega) (by omega)
      rw [val_words, val_words, HEG.out] at S9
      have H9 := Lib.hid S9
      clear S9 t18 t8 t9 hb8 b9 HM2
      go_wp2_with fail
      refine H9.out.mono ?_
      rintro e w10 ⟨A10, n10, c10, rfl, t10, b10⟩
      have l10 : n10 ≤ 8 := t10.small HV3.out
      have hb10 := hb9.trans (b10.mono hb9.size)
      have t110 := t19.below b10
      clear t19 hb9 b10 H9
      go_wp2_with fail
      refine (HM3.out _ hb10 _ _ _ _ t110 l1).mono ?_
      rintro e w11 ⟨A11, n11, c11, rfl, t11, b11⟩
      have l11 : n11 ≤ 8 := t11.small HV3.out
      have hb11 := hb10.trans (b11.mono hb10.size)
      have S12 := plain_words (t10.below b11) t11 (by omega) (by omega)
      rw [decide_eq_true rfl] at S12
      have H12 := Lib.hid S12
      clear S12 t10 t11 t110 hb10 b11 HM3
      go_wp2_with fail
      refine H12.out.mono ?_
      rintro e w12 ⟨rfl, k12, rfl⟩
      have hb12 : Below w.heap.size w (w11.drewN k12) := Below.drewN' hb11 k12
      generalize w11.drewN k12 = w12 at hb12 ⊢
      clear hb11 H12
      go_wp2_with fail
      refine (HS.out _).mono ?_
      rintro e w13 ⟨rfl, hb⟩
      go_wp2_with fail
      go_ret
      exact ⟨rfl, hb12.trans (hb.mono hb12.size)⟩
  · skip
    · clear dg
      go_enter Try.func4, Try.ntmps4
      go_wp2_with fail
      refine HG.out.mono ?_
      rintro e w1 ⟨A1, n1, c1, rfl, t1, b1⟩
      have l1 : n1 ≤ 5 := t1.small HV.out
      go_wp2_with fail
      refine (HD1.out _ b1 _ _ _ _ t1 l1).mono ?_
      rintro e w3 ⟨rfl, b3⟩
      rw [decide_eq_true HDA.out]
      have hb3 := b1.trans (b3.mono b1.size)
      have t3 := t1.below b3
      clear t1 b1 b3 HG
      go_wp2_with fail
      refine (HD2.out _ hb3 _ _ _ _ t3 l1).mono ?_
      rintro e w4 ⟨rfl, b4⟩
      rw [decide_eq_true HDB.out]
      have hb4 := hb3.trans (b4.mono hb3.size)
      have t4 := t3.below b4
      clear t3 hb3 b4 HD1 HD2
      go_wp2_with fail
      refine (HD3.out _ hb4).mono ?_
      rintro e w7 ⟨rfl, b5⟩
      rw [decide_eq_false hca]
      have hb7 := hb4.trans (b5.mono hb4.size)
      have t7 := t4.below b5
      clear hb4 b5 t4
      clear HD3 HD4 HD5
      go_wp2_with fail
      refine (HM1.out _ hb7).mono ?_
      rintro e w8 ⟨A8, n8, c8, rfl, t8, b8⟩
      have l8 : n8 ≤ 8 := t8.small HV1.out
      have hb8 := hb7.trans (b8.mono hb7.size)
      have t18 := t7.below b8
      clear t7 hb7 b8 HM1
      go_wp2_with fail
      refine (HM2.out _ hb8).mono ?_
      rintro e w9 ⟨A9, n9, c9, rfl, t9, b9⟩
      have l9 : n9 ≤ 8 := t9.small HV2.out
      have hb9 := hb8.trans (b9.mono hb8.size)
      have t19 := t18.below b9
      have S9 := gcd_gcd (N := 8) (t8.below b9) t9 (by omega) (by omega) (by omega)
      rw [val_words, val_words, HEG.out] at S9
      have H9 := Lib.hid S9
      clear S9 t18 t8 t9 hb8 b9 HM2
      go_wp2_with fail
      refine H9.out.mono ?_
      rintro e w10 ⟨A10, n10, c10, rfl, t10, b10⟩
      have l10 : n10 ≤ 8 := t10.small HV3.out
      have hb10 := hb9.trans (b10.mono hb9.size)
      have t110 := t19.below b10
      clear t19 hb9 b10 H9
      go_wp2_with fail
      refine (HM3.out _ hb10 _ _ _ _ t110 l1).mono ?_
      rintro e w11 ⟨A11, n11, c11, rfl, t11, b11⟩
      have l11 : n11 ≤ 8 := t11.small HV3.out
      have hb11 := hb10.trans (b11.mono hb10.size)
      have S12 := plain_words (t10.below b11) t11 (by omega) (by omega)
      rw [decide_eq_true rfl] at S12
      have H12 := Lib.hid S12
      clear S12 t10 t11 t110 hb10 b11 HM3
      go_wp2_with fail
      refine H12.out.mono ?_
      rintro e w12 ⟨rfl, k12, rfl⟩
      have hb12 : Below w.heap.size w (w11.drewN k12) := Below.drewN' hb11 k12
      generalize w11.drewN k12 = w12 at hb12 ⊢
      clear hb11 H12
      go_wp2_with fail
      refine (HS.out _).mono ?_
      rintro e w13 ⟨rfl, hb⟩
      go_wp2_with fail
      go_ret
      exact ⟨rfl, hb12.trans (hb.mono hb12.size)⟩

set_option maxRecDepth 100000 in
set_option maxHeartbeats 4000000 in
theorem gcdProduct_walk (a0 : Option Addr) (len0 cap0 : Nat) (z0 : List Int) (a1 : Option Addr) (len1 cap1 : Nat) (z1 : List Int) (w : World) (w0 : IsRow .u64 w a0 len0 cap0 z0) (w1 : IsRow .u64 w a1 len1 cap1 z1) :
    Calls Try.prog 5 #[.slice a0 len0 cap0, .slice a1 len1 cap1] w fun e w' => e = .returned (.bool true) ∧ Below w.heap.size w w' := by
  obtain ⟨s0, _⟩ := w0.sl
  obtain ⟨s1, _⟩ := w1.sl
  clear w0 w1
  have HS := Lib.hid (fun w => same05 w)
  by_cases h0 : 8 < len0
  · go_enter Try.func5, Try.ntmps5
    go_wp2_with fail
    refine (HS.out _).mono ?_
    rintro e w' ⟨rfl, hb⟩
    go_wp2_with fail
    go_ret
    exact ⟨rfl, hb⟩
  by_cases h1 : 8 < len1
  · go_enter Try.func5, Try.ntmps5
    go_wp2_with fail
    refine (HS.out _).mono ?_
    rintro e w' ⟨rfl, hb⟩
    go_wp2_with fail
    go_ret
    exact ⟨rfl, hb⟩
  generalize z0.take len0 = xs at s0
  generalize z1.take len1 = ys at s1
  have va : val xs < W ^ 8 := val_lt_pow s0.us (by have := s0.len; omega)
  have vb : val ys < W ^ 8 := val_lt_pow s1.us (by have := s1.len; omega)
  have za : val xs = 0 ↔ sz xs = 0 := valB_zero_iff W_pos (Dg_U s0.us)
  have zb : val ys = 0 ↔ sz ys = 0 := valB_zero_iff W_pos (Dg_U s1.us)
  have pa : sz xs ≤ 8 := Nat.le_trans (sz_le xs) (by have := s0.len; omega)
  have pb : sz ys ≤ 8 := Nat.le_trans (sz_le ys) (by have := s1.len; omega)
  have vg := gcd_lt va vb
  have RD := gcd_reduce (N := 8) s0 s1 (by omega) (by omega) (by omega)
  have ZA := fun w1 (hb : Below w.heap.size w w1) => ref_size (s0.below hb) (by omega)
  have ZB := fun w1 (hb : Below w.heap.size w w1) => ref_size (s1.below hb) (by omega)
  have GG := fun w1 (hb : Below w.heap.size w w1) => gcd_gcd (N := 8) (s0.below hb) (s1.below hb) (by omega) (by omega) (by omega)
  have LC := fun w1 (hb : Below w.heap.size w w1) => gcd_lcm (N := 8) (s0.below hb) (s1.below hb) (by omega) (by omega) (by omega)
  have MM := fun w1 (hb : Below w.heap.size w w1) => ref_nmul (s0.below hb) (s1.below hb) (by omega) (by omega)
  have eT := gcd_times_lcm (val xs) (val ys)
  have eP := gcd_parts (val xs) (val ys)
  have va' := Nat.lt_of_le_of_lt (Nat.div_le_self (val xs) (Nat.gcd (val xs) (val ys))) va
  have vb' := Nat.lt_of_le_of_lt (Nat.div_le_self (val ys) (Nat.gcd (val xs) (val ys))) vb
  have vl := mul_lt_powW va' vb
  have vm := mul_lt_powW va vb
  generalize val xs / Nat.gcd (val xs) (val ys) * val ys = L at *
  generalize val xs / Nat.gcd (val xs) (val ys) = X at *
  generalize val ys / Nat.gcd (val xs) (val ys) = Y at *
  generalize Nat.gcd (val xs) (val ys) = G at *
  have hsome : Nat.gcd X Y = 1 ↔ 0 < sz xs + sz ys := by rw [eP]; omega
  generalize val xs * val ys = M at *
  generalize sz xs = p at *
  generalize sz ys = q at *
  have HRD := Lib.hid RD
  have HZA := Lib.hid ZA
  have HZB := Lib.hid ZB
  have HGG := Lib.hid GG
  have HLC := Lib.hid LC
  have HMM := Lib.hid MM
  have HET := Lib.hid eT
  have HVG := Lib.hid vg
  have HVA := Lib.hid va'
  have HVB := Lib.hid vb'
  have HVL := Lib.hid vl
  have HVM := Lib.hid vm
  have HSO := Lib.hid hsome
  clear RD ZA ZB GG LC MM eT eP va vb va' vb' vg vl vm za zb s0 s1 hsome
  go_enter Try.func5, Try.ntmps5
  go_wp2_with fail
  refine HRD.out.mono ?_
  rintro e w1 ⟨A1, n1, c1, A2, n2, c2, rfl, t1, t2, hb1⟩
  have l1 : n1 ≤ 8 := t1.small HVA.out
  have l2 : n2 ≤ 8 := t2.small HVB.out
  clear HRD
  go_wp2_with fail
  refine (HZA.out _ hb1).mono ?_
  rintro e w' ⟨rfl, rfl⟩
  go_wp2_with fail
  refine (HZB.out _ hb1).mono ?_
  rintro e w' ⟨rfl, rfl⟩
  clear HZA HZB
  go_wp2_with fail
  refine (HGG.out _ hb1).mono ?_
  rintro e w3 ⟨A3, n3, c3, rfl, t3, b3⟩
  have l3 : n3 ≤ 8 := t3.small HVG.out
  have hb3 := hb1.trans (b3.mono hb1.size)
  have t13 := t1.below b3
  have t23 := t2.below b3
  clear t1 t2 hb1 b3 HGG
  go_wp2_with fail
  refine (HLC.out _ hb3).mono ?_
  rintro e w4 ⟨A4, n4, c4, rfl, t4, b4⟩
  have l4 : n4 ≤ 16 := t4.small HVL.out
  have hb4 := hb3.trans (b4.mono hb3.size)
  have t14 := t13.below b4
  have t24 := t23.below b4
  have S4 := ref_nmul (t3.below b4) t4 (by omega) (by omega)
  rw [val_words, val_words, HET.out] at S4
  have H4 := Lib.hid S4
  clear S4 t3 t4 t13 t23 hb3 b4 HLC
  go_wp2_with fail
  refine H4.out.mono ?_
  rintro e w5 ⟨A5, n5, c5, rfl, t5, b5⟩
  have l5 : n5 ≤ 16 := t5.small HVM.out
  have hb5 := hb4.trans (b5.mono hb4.size)
  have t15 := t14.below b5
  have t25 := t24.below b5
  clear t14 t24 hb4 b5 H4
  go_wp2_with fail
  refine (HMM.out _ hb5).mono ?_
  rintro e w6 ⟨A6, n6, c6, rfl, t6, b6⟩
  have l6 : n6 ≤ 16 := t6.small HVM.out
  have hb6 := hb5.trans (b6.mono hb5.size)
  have t16 := t15.below b6
  have t26 := t25.below b6
  have S7 := plain_words (t5.below b6) t6 (by omega) (by omega)
  rw [decide_eq_true rfl] at S7
  have H7 := Lib.hid S7
  clear S7 t15 t25 t5 t6 hb5 b6 HMM
  go_wp2_with fail
  refine H7.out.mono ?_
  rintro e w7 ⟨rfl, k7, rfl⟩
  have hb7 : Below w.heap.size w (w6.drewN k7) := Below.drewN' hb6 k7
  have t17 : Sl (w6.drewN k7) A1 n1 c1 (words X) := t16
  have t27 : Sl (w6.drewN k7) A2 n2 c2 (words Y) := t26
  clear t16 t26 hb6 H7
  generalize w6.drewN k7 = w7 at hb7 t17 t27 ⊢
  have S8 := gcd_coprime (N := 8) t17 t27 (by omega) (by omega) (by omega)
  simp only [val_words] at S8
  by_cases hs : 0 < p + q
  · rw [decide_eq_true (HSO.out.2 hs)] at S8
    have H8 := Lib.hid S8
    clear S8 t17 t27
    go_wp2_with fail
    refine H8.out.mono ?_
    rintro e w8 ⟨rfl, b8⟩
    have hb8 := hb7.trans (b8.mono hb7.size)
    go_wp2_with fail
    refine (HS.out _).mono ?_
    rintro e w9 ⟨rfl, hb⟩
    go_wp2_with fail
    go_ret
    exact ⟨rfl, hb8.trans (hb.mono hb8.size)⟩
  · rw [decide_eq_false (fun h => hs (HSO.out.1 h))] at S8
    obtain rfl : p = 0 := by omega
    obtain rfl : q = 0 := by omega
    have H8 := Lib.hid S8
    clear S8 t17 t27
    go_wp2_with fail
    refine H8.out.mono ?_
    rintro e w8 ⟨rfl, b8⟩
    have hb8 := hb7.trans (b8.mono hb7.size)
    go_wp2_with fail
    refine (HS.out _).mono ?_
    rintro e w9 ⟨rfl, hb⟩
    go_wp2_with fail
    go_ret
    exact ⟨rfl, hb8.trans (hb.mono hb8.size)⟩

end Go.Proofs.Ytolibnnmojinkaa
