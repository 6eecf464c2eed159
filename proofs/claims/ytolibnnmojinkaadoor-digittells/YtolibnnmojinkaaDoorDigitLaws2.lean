/-
  The walks of DigitTells, DigitBack and DigitOrder: each returns true for any numbers and texts. Conditions: the slices read as lists of words; a text is no longer than a string can be.
-/
import Derived.Test.YtolibnnmojinkaaDoorDigitLaws
namespace Go.Proofs.YtolibnnmojinkaaDoor
open Go.RowKit
set_option linter.unusedVariables false
set_option linter.unusedSimpArgs false

theorem txt_lenW {n N : Nat} (h : n < W ^ N) (hN : 0 < N) : (txt n).length ≤ 20 * N := by
  refine txt_len ?_ (by omega)
  have := Nat.pow_le_pow_left W_le_ten N
  rw [← Nat.pow_mul] at this
  omega
theorem rdv_small (l : List UInt8) : ∃ K, K ≤ 400 ∧ rdv l < W ^ K := by
  by_cases h : l.length ≤ 400 ∧ IsNum l
  · refine ⟨l.length, h.1, ?_⟩
    rw [(rd_good h.1 h.2).1]
    have h2 := rd_take_lt h.2 l.length (Nat.le_refl _)
    rwa [List.take_length] at h2
  · refine ⟨1, by omega, ?_⟩
    have h0 : rdv l = 0 := by
      by_cases h1 : l.length ≤ 400
      · exact (rd_form h1 (fun hn => h ⟨h1, hn⟩)).1
      · exact (rd_long (by omega)).1
    rw [h0]
    exact Nat.pow_pos W_pos

set_option maxRecDepth 100000 in
set_option maxHeartbeats 2000000 in
theorem digitTells_walk (a0 : Option Addr) (len0 cap0 : Nat) (z0 : List Int) (a1 : ByteArray) (w : World) (w0 : IsRow .u64 w a0 len0 cap0 z0) (w1 : a1.size ≤ maxLen) :
    Calls Tryd.prog 3 #[.slice a0 len0 cap0, .string a1] w fun e w' => e = .returned (.bool true) ∧ Below w.heap.size w w' := by
  obtain ⟨s0, _⟩ := w0.sl
  unfold maxLen at w1
  clear w0
  have HS := Lib.hid (fun w => same06 w)
  by_cases h0 : 20 < len0
  · go_enter Tryd.func3, Tryd.ntmps3
    go_wp2_with fail
    refine (HS.out _).mono ?_
    rintro e w' ⟨rfl, hb⟩
    go_wp2_with fail
    go_ret
    exact ⟨rfl, hb⟩
  by_cases h1 : 1000 < a1.size
  · go_enter Tryd.func3, Tryd.ntmps3
    go_wp2_with fail
    refine (HS.out _).mono ?_
    rintro e w' ⟨rfl, hb⟩
    go_wp2_with fail
    go_ret
    exact ⟨rfl, hb⟩
  generalize z0.take len0 = xs at s0
  obtain ⟨K, hK, hvl⟩ := rdv_small (by_ a1)
  have RD : ∀ w, Calls Tryd.prog 7 #[.string a1] w (RetLI (words (rdv (by_ a1))) (rde (by_ a1)) w) := fun w => (digit_read a1 (by omega) w).mono fun _ _ h => h
  have RR : ∀ w, Calls Tryd.prog 8 #[.string a1] w (RetLI (words (rdv (by_ a1))) (rde (by_ a1)) w) := fun w => (ref_read a1 (by omega) w).mono fun _ _ h => h
  have SH := fun w1 (hb : Below w.heap.size w w1) => digit_show (N := 20) (s0.below hb) (by omega) (by omega)
  have SR := fun w1 (hb : Below w.heap.size w w1) => ref_show (N := 20) (s0.below hb) (by omega) (by omega)
  generalize rdv (by_ a1) = v at *
  generalize rde (by_ a1) = ee at *
  generalize txt (val xs) = tx at *
  have HRD := Lib.hid RD
  have HRR := Lib.hid RR
  have HSH := Lib.hid SH
  have HSR := Lib.hid SR
  have HVL := Lib.hid hvl
  clear RD RR SH SR hvl s0
  go_enter Tryd.func3, Tryd.ntmps3
  go_wp2_with fail
  refine (HRD.out _).mono ?_
  rintro e w1 ⟨A1, n1, c1, rfl, t1, b1⟩
  have l1 : n1 ≤ K := t1.small HVL.out
  go_wp2_with fail
  refine (HRR.out _).mono ?_
  rintro e w2 ⟨A2, n2, c2, rfl, t2, b2⟩
  have l2 : n2 ≤ K := t2.small HVL.out
  have hb2 := b1.trans (b2.mono b1.size)
  have t12 := t1.below b2
  clear t1 b1 b2 HRD HRR
  go_wp2_with fail
  refine (HSH.out _ hb2).mono ?_
  rintro e w3 ⟨s3, rfl, hs3, b3⟩
  obtain rfl : s3 = str tx := str_of hs3
  have hb3 := hb2.trans (b3.mono hb2.size)
  have t13 := t12.below b3
  have t23 := t2.below b3
  clear hs3 t12 t2 hb2 b3 HSH
  go_wp2_with fail
  refine (HSR.out _ hb3).mono ?_
  rintro e w4 ⟨s4, rfl, hs4, b4⟩
  obtain rfl : s4 = str tx := str_of hs4
  have hb4 := hb3.trans (b4.mono hb3.size)
  have S5 := plain_words (t13.below b4) (t23.below b4) (by omega) (by omega)
  rw [decide_eq_true rfl] at S5
  have H5 := Lib.hid S5
  clear hs4 t13 t23 hb3 b4 HSR S5
  generalize str tx = sx
  go_wp2_with fail
  refine H5.out.mono ?_
  rintro e w5 ⟨rfl, k5, rfl⟩
  have hb5 : Below w.heap.size w (w4.drewN k5) := Below.drewN' hb4 k5
  generalize w4.drewN k5 = w5 at hb5 ⊢
  clear hb4 H5
  go_wp2_with fail
  refine (HS.out _).mono ?_
  rintro e w9 ⟨rfl, hb⟩
  go_wp2_with fail
  go_ret
  exact ⟨rfl, hb5.trans (hb.mono hb5.size)⟩

set_option maxRecDepth 100000 in
set_option maxHeartbeats 2000000 in
theorem digitBack_walk (a0 : Option Addr) (len0 cap0 : Nat) (z0 : List Int) (a1 : ByteArray) (w : World) (w0 : IsRow .u64 w a0 len0 cap0 z0) (w1 : a1.size ≤ maxLen) :
    Calls Tryd.prog 4 #[.slice a0 len0 cap0, .string a1] w fun e w' => e = .returned (.bool true) ∧ Below w.heap.size w w' := by
  obtain ⟨s0, _⟩ := w0.sl
  unfold maxLen at w1
  clear w0
  have HS := Lib.hid (fun w => same06 w)
  by_cases h0 : 20 < len0
  · go_enter Tryd.func4, Tryd.ntmps4
    go_wp2_with fail
    refine (HS.out _).mono ?_
    rintro e w' ⟨rfl, hb⟩
    go_wp2_with fail
    go_ret
    exact ⟨rfl, hb⟩
  by_cases h1 : 400 < a1.size
  · go_enter Tryd.func4, Tryd.ntmps4
    go_wp2_with fail
    refine (HS.out _).mono ?_
    rintro e w' ⟨rfl, hb⟩
    go_wp2_with fail
    go_ret
    exact ⟨rfl, hb⟩
  generalize z0.take len0 = xs at s0
  have va : val xs < W ^ 20 := val_lt_pow s0.us (by have := s0.len; omega)
  have htl : (txt (val xs)).length ≤ 400 := by have := txt_lenW va (by omega); omega
  obtain ⟨hg1, hg2⟩ := rd_good htl (txt_isNum (val xs))
  rw [rd_txt] at hg1
  have hsz : (str (txt (val xs))).size ≤ 9223372036854775807 := by rw [str_size]; omega
  have R1 : ∀ w, Calls Tryd.prog 7 #[.string (str (txt (val xs)))] w (RetLI (words (val xs)) 0 w) := fun w => (digit_read (str (txt (val xs))) hsz w).mono fun e w' ⟨A, n, c, he, hs, hb⟩ => by
    rw [by_str, hg2] at he
    rw [by_str, hg1] at hs
    exact ⟨A, n, c, he, hs, hb⟩
  have SH := digit_show (N := 20) s0 (by omega) (by omega)
  have TR := fun w1 (hb : Below w.heap.size w w1) => ref_trim (s0.below hb) (by omega)
  generalize txt (val xs) = tx at *
  generalize val xs = v at *
  obtain ⟨K, hK, hvl⟩ := rdv_small (by_ a1)
  have hbl := by_length a1
  have RD : ∀ w, Calls Tryd.prog 7 #[.string a1] w (RetLI (words (rdv (by_ a1))) (rde (by_ a1)) w) := fun w => (digit_read a1 (by omega) w).mono fun _ _ h => h
  have HR1 := Lib.hid R1
  have HSH := Lib.hid SH
  have HTR := Lib.hid TR
  have HVA := Lib.hid va
  clear R1 SH TR va htl hg1 hg2 hsz s0
  by_cases hn : IsNum (by_ a1)
  · obtain ⟨q1, q2⟩ := rd_good (l := by_ a1) (by omega) hn
    have htx := txt_rd hn
    rw [q1, q2] at RD
    rw [q1] at hvl
    generalize rd (by_ a1) = y at *
    have HRD := Lib.hid RD
    have HTX := Lib.hid htx
    have HVL := Lib.hid hvl
    clear RD htx hvl q1 q2 hn hbl
    go_enter Tryd.func4, Tryd.ntmps4
    go_wp2_with fail
    refine HSH.out.mono ?_
    rintro e w1 ⟨s1, rfl, hs1, b1⟩
    obtain rfl : s1 = str tx := str_of hs1
    clear hs1 HSH
    go_wp2_with fail
    refine (HR1.out _).mono ?_
    rintro e w2 ⟨A2, n2, c2, rfl, t2, b2⟩
    have l2 : n2 ≤ 20 := t2.small HVA.out
    have hb2 := b1.trans (b2.mono b1.size)
    clear b1 b2 HR1
    go_wp2_with fail
    refine (HRD.out _).mono ?_
    rintro e w3 ⟨A3, n3, c3, rfl, t3, b3⟩
    have l3 : n3 ≤ K := t3.small HVL.out
    have hb3 := hb2.trans (b3.mono hb2.size)
    have t23 := t2.below b3
    clear t2 hb2 b3 HRD
    go_wp2_with fail
    refine (HTR.out _ hb3).mono ?_
    rintro e w4 ⟨A4, n4, c4, rfl, t4, b4⟩
    have l4 : n4 ≤ 20 := t4.small HVA.out
    have hb4 := hb3.trans (b4.mono hb3.size)
    have t34 := t3.below b4
    have S5 := plain_words (t23.below b4) t4 (by omega) (by omega)
    rw [decide_eq_true rfl] at S5
    have H5 := Lib.hid S5
    clear S5 t23 t3 t4 hb3 b4 HTR
    go_wp2_with fail
    refine H5.out.mono ?_
    rintro e w5 ⟨rfl, k5, rfl⟩
    have hb6 : Below w.heap.size w (w4.drewN k5) := Below.drewN' hb4 k5
    have t6 : Sl (w4.drewN k5) A3 n3 c3 (words y) := t34
    generalize w4.drewN k5 = w6 at hb6 t6 ⊢
    clear hb4 H5 t34
    have S6 := digit_show (N := 400) t6 (by omega) (by omega)
    rw [val_words, HTX.out] at S6
    have H6 := Lib.hid S6
    clear S6 t6
    go_wp2_with fail
    refine H6.out.mono ?_
    rintro e w7 ⟨s7, rfl, hs7, b7⟩
    obtain rfl : s7 = a1 := by rw [str_of hs7, str_by]
    have hb7 := hb6.trans (b7.mono hb6.size)
    clear hs7 hb6 b7 H6
    go_wp2_with fail
    refine (HS.out _).mono ?_
    rintro e w9 ⟨rfl, hb⟩
    go_wp2_with fail
    go_ret
    exact ⟨rfl, hb7.trans (hb.mono hb7.size)⟩
  · obtain ⟨q1, q2⟩ := rd_form (l := by_ a1) (by omega) hn
    rw [q1, q2] at RD
    rw [q1] at hvl
    obtain ⟨y, ey⟩ : ∃ y, 0 = y := ⟨_, rfl⟩
    rw [ey] at RD hvl
    have HRD := Lib.hid RD
    have HVL := Lib.hid hvl
    clear RD hvl q1 q2 hn hbl ey
    go_enter Tryd.func4, Tryd.ntmps4
    go_wp2_with fail
    refine HSH.out.mono ?_
    rintro e w1 ⟨s1, rfl, hs1, b1⟩
    obtain rfl : s1 = str tx := str_of hs1
    clear hs1 HSH
    go_wp2_with fail
    refine (HR1.out _).mono ?_
    rintro e w2 ⟨A2, n2, c2, rfl, t2, b2⟩
    have l2 : n2 ≤ 20 := t2.small HVA.out
    have hb2 := b1.trans (b2.mono b1.size)
    clear b1 b2 HR1
    go_wp2_with fail
    refine (HRD.out _).mono ?_
    rintro e w3 ⟨A3, n3, c3, rfl, t3, b3⟩
    have l3 : n3 ≤ K := t3.small HVL.out
    have hb3 := hb2.trans (b3.mono hb2.size)
    have t23 := t2.below b3
    clear t2 hb2 b3 HRD
    go_wp2_with fail
    refine (HTR.out _ hb3).mono ?_
    rintro e w4 ⟨A4, n4, c4, rfl, t4, b4⟩
    have l4 : n4 ≤ 20 := t4.small HVA.out
    have hb4 := hb3.trans (b4.mono hb3.size)
    have t34 := t3.below b4
    have S5 := plain_words (t23.below b4) t4 (by omega) (by omega)
    rw [decide_eq_true rfl] at S5
    have H5 := Lib.hid S5
    clear S5 t23 t3 t4 hb3 b4 HTR
    go_wp2_with fail
    refine H5.out.mono ?_
    rintro e w5 ⟨rfl, k5, rfl⟩
    have hb6 : Below w.heap.size w (w4.drewN k5) := Below.drewN' hb4 k5
    have t6 : Sl (w4.drewN k5) A3 n3 c3 (words y) := t34
    generalize w4.drewN k5 = w6 at hb6 t6 ⊢
    clear hb4 H5 t34
    clear t6
    go_wp2_with fail
    refine (HS.out _).mono ?_
    rintro e w9 ⟨rfl, hb⟩
    go_wp2_with fail
    go_ret
    exact ⟨rfl, hb6.trans (hb.mono hb6.size)⟩

set_option maxRecDepth 100000 in
set_option maxHeartbeats 2000000 in
theorem digitOrder_walk (a0 : Option Addr) (len0 cap0 : Nat) (z0 : List Int) (a1 : Option Addr) (len1 cap1 : Nat) (z1 : List Int) (w : World) (w0 : IsRow .u64 w a0 len0 cap0 z0) (w1 : IsRow .u64 w a1 len1 cap1 z1) :
    Calls Tryd.prog 5 #[.slice a0 len0 cap0, .slice a1 len1 cap1] w fun e w' => e = .returned (.bool true) ∧ Below w.heap.size w w' := by
  obtain ⟨s0, _⟩ := w0.sl
  obtain ⟨s1, _⟩ := w1.sl
  clear w0 w1
  have HS := Lib.hid (fun w => same06 w)
  by_cases h0 : 20 < len0
  · go_enter Tryd.func5, Tryd.ntmps5
    go_wp2_with fail
    refine (HS.out _).mono ?_
    rintro e w' ⟨rfl, hb⟩
    go_wp2_with fail
    go_ret
    exact ⟨rfl, hb⟩
  by_cases h1 : 20 < len1
  · go_enter Tryd.func5, Tryd.ntmps5
    go_wp2_with fail
    refine (HS.out _).mono ?_
    rintro e w' ⟨rfl, hb⟩
    go_wp2_with fail
    go_ret
    exact ⟨rfl, hb⟩
  generalize z0.take len0 = xs at s0
  generalize z1.take len1 = ys at s1
  have SA := digit_show (N := 20) s0 (by omega) (by omega)
  have SB := fun w1 (hb : Below w.heap.size w w1) => digit_show (N := 20) (s1.below hb) (by omega) (by omega)
  have CM := fun w1 (hb : Below w.heap.size w w1) => ref_cmp (s0.below hb) (s1.below hb) (by omega) (by omega)
  have hls := txt_less (val xs) (val ys)
  have hcn := cmpN_neg (val xs) (val ys)
  generalize cmpN (val xs) (val ys) = cm at *
  generalize txt (val xs) = ta at *
  generalize txt (val ys) = tb at *
  have hcm : decide (cm < 0) = (decide (ta.length < tb.length) || (decide (ta.length = tb.length) && Op.bytesLess ta tb)) := by rw [hls, decide_eq_decide]; exact hcn
  have HSA := Lib.hid SA
  have HSB := Lib.hid SB
  have HCM := Lib.hid CM
  have HC := Lib.hid hcm
  clear SA SB CM hls hcn hcm s0 s1
  go_enter Tryd.func5, Tryd.ntmps5
  go_wp2_with fail
  refine HSA.out.mono ?_
  rintro e w1 ⟨sa, rfl, hsa, b1⟩
  go_wp2_with fail
  refine (HSB.out _ b1).mono ?_
  rintro e w2 ⟨sb, rfl, hsb, b2⟩
  have hb2 := b1.trans (b2.mono b1.size)
  have hc := HC.out
  rw [← hsa, ← hsb, by_length, by_length, ← toList_by, ← toList_by] at hc
  clear hsa hsb b1 b2 HSA HSB HC
  rcases Nat.lt_trichotomy sa.size sb.size with hlt | heq | hgt
  · rw [decide_eq_true hlt, Bool.true_or] at hc
    have hc0 : cm < 0 := of_decide_eq_true hc
    clear hc
    go_wp2_with fail
    refine (HCM.out _ hb2).mono ?_
    rintro e w' ⟨rfl, rfl⟩
    go_wp2_with fail
    refine (HS.out _).mono ?_
    rintro e w9 ⟨rfl, hb⟩
    go_wp2_with fail
    go_ret
    exact ⟨rfl, hb2.trans (hb.mono hb2.size)⟩
  · rw [decide_eq_false (show ¬ sa.size < sb.size by omega), decide_eq_true heq, Bool.false_or, Bool.true_and] at hc
    cases hbl : Op.bytesLess sa.toList sb.toList with
    | true =>
      rw [hbl] at hc
      have hc0 : cm < 0 := of_decide_eq_true hc
      clear hc
      go_wp2_with fail
      refine (HCM.out _ hb2).mono ?_
      rintro e w' ⟨rfl, rfl⟩
      go_wp2_with fail
      refine (HS.out _).mono ?_
      rintro e w9 ⟨rfl, hb⟩
      go_wp2_with fail
      go_ret
      exact ⟨rfl, hb2.trans (hb.mono hb2.size)⟩
    | false =>
      rw [hbl] at hc
      have hc0 : ¬ cm < 0 := of_decide_eq_false hc
      have hc2 : 0 ≤ cm := by omega
      have hc3 : decide (cm < 0) = false := decide_eq_false hc0
      clear hc
      go_wp2_with fail
      refine (HCM.out _ hb2).mono ?_
      rintro e w' ⟨rfl, rfl⟩
      go_wp2_with fail
      refine (HS.out _).mono ?_
      rintro e w9 ⟨rfl, hb⟩
      go_wp2_with fail
      go_ret
      exact ⟨rfl, hb2.trans (hb.mono hb2.size)⟩
  · rw [decide_eq_false (show ¬ sa.size < sb.size by omega), decide_eq_false (show ¬ sa.size = sb.size by omega), Bool.false_or, Bool.false_and] at hc
    have hc0 : ¬ cm < 0 := of_decide_eq_false hc
    have hc2 : 0 ≤ cm := by omega
    have hc3 : decide (cm < 0) = false := decide_eq_false hc0
    have hn1 : ¬ sa.size < sb.size := by omega
    have hn2 : ¬ sa.size = sb.size := by omega
    have hn3 : ((sa.size : Int) == (sb.size : Int)) = false := by rw [beq_eq_false_iff_ne]; omega
    clear hc
    go_wp2_with fail
    refine (HCM.out _ hb2).mono ?_
    rintro e w' ⟨rfl, rfl⟩
    go_wp2_with fail
    refine (HS.out _).mono ?_
    rintro e w9 ⟨rfl, hb⟩
    go_wp2_with fail
    go_ret
    exact ⟨rfl, hb2.trans (hb.mono hb2.size)⟩

end Go.Proofs.YtolibnnmojinkaaDoor
