/-
  The walk of the law NatTells: it returns true for any numbers. Conditions: the slices read as lists of words; the integer fits its kind.
-/
import Derived.Test.YthdcnaibehghdaaNatLaws
namespace Go.Proofs.Ythdcnaibehghdaa
open Go.RowKit
set_option linter.unusedVariables false
set_option linter.unusedSimpArgs false

theorem val_single (x : Int) : val [x] = x.toNat := by simp [val, valB]
theorem i64_bound {a : Int} (h : (Lit.int .i64 a).wf = true) : a ≤ 9223372036854775807 := by
  have := bounds_i64 h; omega

set_option maxHeartbeats 4000000 in
theorem natTells_walk (a0 : Option Addr) (len0 cap0 : Nat) (z0 : List Int) (a1 : Option Addr) (len1 cap1 : Nat) (z1 : List Int) (i : Int) (w : World) (w0 : IsRow .u64 w a0 len0 cap0 z0) (w1 : IsRow .u64 w a1 len1 cap1 z1) (w2 : (Lit.int .i64 i).wf = true) :
    Calls Try.prog 6 #[.slice a0 len0 cap0, .slice a1 len1 cap1, .int .i64 i] w fun e w' => e = .returned (.bool true) ∧ Below w.heap.size w w' := by
  obtain ⟨s0, _⟩ := w0.sl
  obtain ⟨s1, _⟩ := w1.sl
  have HI := Lib.hid (i64_bound w2)
  clear w0 w1 w2
  have HS := Lib.hid (fun w => same02 w)
  by_cases h0 : 60 < len0
  · go_enter Try.func6, Try.ntmps6
    go_wp2_with fail
    refine (HS.out _).mono ?_
    rintro e w' ⟨rfl, hb⟩
    go_wp2_with fail
    go_ret
    exact ⟨rfl, hb⟩
  by_cases h1 : 60 < len1
  · go_enter Try.func6, Try.ntmps6
    go_wp2_with fail
    refine (HS.out _).mono ?_
    rintro e w' ⟨rfl, hb⟩
    go_wp2_with fail
    go_ret
    exact ⟨rfl, hb⟩
  generalize z0.take len0 = xs at s0
  generalize z1.take len1 = ys at s1
  have hsz : sz xs ≤ 60 := by have := sz_le xs; have := s0.len; omega
  have ew : words (val xs) = xs.take (sz xs) := words_val (Dg_U s0.us)
  have W1 := nat_word s0 (by omega)
  have T1 := ref_trim s0 (by omega)
  rcases (show sz xs = 0 ∨ sz xs = 1 ∨ 2 ≤ sz xs by omega) with hp | hp | hp
  · have e1 : word1 xs = 0 := by unfold word1; rw [if_neg (by omega)]; exact sz_past xs (by omega)
    rw [e1, decide_eq_true (show sz xs ≤ 1 by omega)] at W1
    have hx : U (0 : Int) := U_0
    have EP := Lib.hid hp
    clear e1 hp
    have EW := Lib.hid ew
    have HW1 := Lib.hid W1
    have HT1 := Lib.hid T1
    clear ew W1 T1
    go_enter Try.func6, Try.ntmps6
    go_wp2_with fail
    refine HW1.out.mono ?_
    rintro e w' ⟨rfl, rfl⟩
    go_wp2_with fail
    refine HT1.out.mono ?_
    rintro e w1 ⟨A1, n1, c1, rfl, t1, b1⟩
    have hn1 : n1 = sz xs := by rw [t1.len, EW.out, List.length_take]; have := sz_le xs; omega
    obtain rfl : n1 = 0 := by rw [hn1, EP.out]
    clear hn1
    have S2 := nat_of 0 hx w1
    have HS2 := Lib.hid S2
    clear S2 HW1 HT1
    go_wp2_with fail
    refine HS2.out.mono ?_
    rintro e w2 ⟨A2, n2, c2, rfl, t2, b2⟩
    have b2' : Below w.heap.size w w2 := b1.trans (b2.mono b1.size)
    have t1' := t1.below b2
    have l2 : n2 ≤ 1 := t2.small (by have := hx.2; rw [Nat.pow_one]; unfold W; omega)
    have b3' : Below w.heap.size w (w2.alloc (.cells #[.int .u64 0] 22)) := b2'.alloc b2'.size _
    have t2' := t2.below (below_alloc w2 (.cells #[.int .u64 0] 22))
    have t1 := t1'.below (below_alloc w2 (.cells #[.int .u64 0] 22))
    have S3 := ref_trim (sl_lit w2 0 hx) (by omega)
    rw [val_single] at S3
    have HS3 := Lib.hid S3
    have B3 := Lib.hid b3'
    have T1' := Lib.hid t1
    have T2' := Lib.hid t2'
    clear S3 b3' t1 t2' t1' t2 b2' b2 HS2 b1
    go_wp2_with fail
    refine HS3.out.mono ?_
    rintro e w3 ⟨A3, n3, c3, rfl, t3, b3⟩
    have b3' : Below w.heap.size w w3 := B3.out.trans (b3.mono B3.out.size)
    have t1 := T1'.out.below b3
    have t2 := T2'.out.below b3
    have l3 : n3 ≤ 1 := t3.small (by have := hx.2; rw [Nat.pow_one]; unfold W; omega)
    have S4 := plain_words t2 t3 (by omega) (by omega)
    rw [decide_eq_true rfl] at S4
    have HS4 := Lib.hid S4
    clear S4 HS3 T1' T2' B3 b3
    go_wp2_with fail
    refine HS4.out.mono ?_
    rintro e w4 ⟨rfl, k4, rfl⟩
    have b4' : Below w.heap.size w (w3.drewN k4) := Below.drewN' b3' k4
    have t4 : Sl (w3.drewN k4) A1 0 c1 (words (val xs)) := t1
    generalize w3.drewN k4 = w4 at b4' t4 ⊢
    clear t1 t2 t3 b3' HS4
    have S5 := nat_right (s0.below b4') (by omega)
    have S6 := ref_right (s0.below b4') (by omega)
    have S7 := nat_trim (s0.below b4') (by omega)
    obtain ⟨rb, hrb⟩ : ∃ rb, decide (sz xs = len0) = rb := ⟨_, rfl⟩
    rw [hrb] at S5 S6
    have HS5 := Lib.hid S5
    have HS6 := Lib.hid S6
    have HS7 := Lib.hid S7
    clear S5 S6 S7 hrb
    go_wp2_with fail
    refine HS5.out.mono ?_
    rintro e w' ⟨rfl, rfl⟩
    go_wp2_with fail
    refine HS6.out.mono ?_
    rintro e w' ⟨rfl, rfl⟩
    go_wp2_with fail
    refine HS7.out.mono ?_
    rintro e w5 ⟨A5, n5, c5, rfl, t5, b5⟩
    have b5' : Below w.heap.size w w5 := b4'.trans (b5.mono b4'.size)
    have t6 := t4.below b5
    have l5 : n5 ≤ 60 := by rw [t5.len, EW.out, List.length_take]; omega
    have S8 := plain_words t5 t6 (by omega) (by omega)
    rw [decide_eq_true rfl] at S8
    have HS8 := Lib.hid S8
    clear S8 HS5 HS6 HS7 b4' t4 b5
    go_wp2_with fail
    refine HS8.out.mono ?_
    rintro e w6 ⟨rfl, k6, rfl⟩
    have b6' : Below w.heap.size w (w5.drewN k6) := Below.drewN' b5' k6
    generalize w5.drewN k6 = w6 at b6' ⊢
    clear t5 t6 b5' HS8
    have S9 := nat_cmp (s0.below b6') (s1.below b6') (by omega) (by omega)
    have S10 := ref_cmp (s0.below b6') (s1.below b6') (by omega) (by omega)
    have S11 := nat_bits (s0.below b6') (by omega)
    have S12 := ref_bits (s0.below b6') (by omega)
    have S13 := nat_bit (s0.below b6') (by omega) i HI.out
    have S14 := ref_bit (s0.below b6') (by omega) i HI.out
    have S15 := nat_even (s0.below b6') (by omega)
    have S16 := ref_even (s0.below b6') (by omega)
    generalize cmpN (val xs) (val ys) = q1 at S9 S10
    generalize blen (val xs) = q2 at S11 S12
    generalize bitN (val xs) i = q3 at S13 S14
    generalize tz (val xs) = q4 at S15 S16
    have HS9 := Lib.hid S9
    have HS10 := Lib.hid S10
    have HS11 := Lib.hid S11
    have HS12 := Lib.hid S12
    have HS13 := Lib.hid S13
    have HS14 := Lib.hid S14
    have HS15 := Lib.hid S15
    have HS16 := Lib.hid S16
    clear S9 S10 S11 S12 S13 S14 S15 S16
    go_wp2_with fail
    refine HS9.out.mono ?_
    rintro e w' ⟨rfl, rfl⟩
    go_wp2_with fail
    refine HS10.out.mono ?_
    rintro e w' ⟨rfl, rfl⟩
    go_wp2_with fail
    refine HS11.out.mono ?_
    rintro e w' ⟨rfl, rfl⟩
    go_wp2_with fail
    refine HS12.out.mono ?_
    rintro e w' ⟨rfl, rfl⟩
    go_wp2_with fail
    refine HS13.out.mono ?_
    rintro e w' ⟨rfl, rfl⟩
    go_wp2_with fail
    refine HS14.out.mono ?_
    rintro e w' ⟨rfl, rfl⟩
    go_wp2_with fail
    refine HS15.out.mono ?_
    rintro e w' ⟨rfl, rfl⟩
    go_wp2_with fail
    refine HS16.out.mono ?_
    rintro e w' ⟨rfl, rfl⟩
    go_wp2_with fail
    refine (HS.out _).mono ?_
    rintro e w10 ⟨rfl, hb⟩
    go_wp2_with fail
    go_ret
    exact ⟨rfl, b6'.trans (hb.mono b6'.size)⟩
  · have e1 : word1 xs = xs.getD 0 0 := by unfold word1; rw [if_neg (by omega)]
    rw [e1, decide_eq_true (show sz xs ≤ 1 by omega)] at W1
    obtain ⟨x, hx0⟩ : ∃ x : Int, xs.getD 0 0 = x := ⟨_, rfl⟩
    have hx : U x := by rw [← hx0]; exact s0.u 0
    have ht0 : (words (val xs)).getD 0 0 = x := by
      rw [ew, List.getD_eq_getElem?_getD, List.getElem?_take, if_pos (by omega), ← List.getD_eq_getElem?_getD]; exact hx0
    rw [hx0] at W1
    have HX0 := Lib.hid hx0
    have HT0 := Lib.hid ht0
    have EP := Lib.hid hp
    clear e1 hx0 ht0 hp
    have EW := Lib.hid ew
    have HW1 := Lib.hid W1
    have HT1 := Lib.hid T1
    clear ew W1 T1
    go_enter Try.func6, Try.ntmps6
    go_wp2_with fail
    refine HW1.out.mono ?_
    rintro e w' ⟨rfl, rfl⟩
    go_wp2_with fail
    refine HT1.out.mono ?_
    rintro e w1 ⟨A1, n1, c1, rfl, t1, b1⟩
    have hn1 : n1 = sz xs := by rw [t1.len, EW.out, List.length_take]; have := sz_le xs; omega
    obtain rfl : n1 = 1 := by rw [hn1, EP.out]
    clear hn1
    obtain ⟨bt, offt, rfl, hbt, hct⟩ := t1.at_ (k := 0) (by omega)
    have hct0 : w1.cell? ⟨bt, offt, none⟩ = some (.int .u64 x) := by have := hct 0 (by omega); rw [HT0.out] at this; exact this
    clear hct
    have S2 := nat_of x hx w1
    have HS2 := Lib.hid S2
    clear S2 HW1 HT1
    go_wp2_with fail
    refine HS2.out.mono ?_
    rintro e w2 ⟨A2, n2, c2, rfl, t2, b2⟩
    have b2' : Below w.heap.size w w2 := b1.trans (b2.mono b1.size)
    have t1' := t1.below b2
    have l2 : n2 ≤ 1 := t2.small (by have := hx.2; rw [Nat.pow_one]; unfold W; omega)
    have b3' : Below w.heap.size w (w2.alloc (.cells #[.int .u64 x] 22)) := b2'.alloc b2'.size _
    have t2' := t2.below (below_alloc w2 (.cells #[.int .u64 x] 22))
    have t1 := t1'.below (below_alloc w2 (.cells #[.int .u64 x] 22))
    have S3 := ref_trim (sl_lit w2 x hx) (by omega)
    rw [val_single] at S3
    have HS3 := Lib.hid S3
    have B3 := Lib.hid b3'
    have T1' := Lib.hid t1
    have T2' := Lib.hid t2'
    clear S3 b3' t1 t2' t1' t2 b2' b2 HS2 b1
    go_wp2_with fail
    refine HS3.out.mono ?_
    rintro e w3 ⟨A3, n3, c3, rfl, t3, b3⟩
    have b3' : Below w.heap.size w w3 := B3.out.trans (b3.mono B3.out.size)
    have t1 := T1'.out.below b3
    have t2 := T2'.out.below b3
    have l3 : n3 ≤ 1 := t3.small (by have := hx.2; rw [Nat.pow_one]; unfold W; omega)
    have S4 := plain_words t2 t3 (by omega) (by omega)
    rw [decide_eq_true rfl] at S4
    have HS4 := Lib.hid S4
    clear S4 HS3 T1' T2' B3 b3
    go_wp2_with fail
    refine HS4.out.mono ?_
    rintro e w4 ⟨rfl, k4, rfl⟩
    have b4' : Below w.heap.size w (w3.drewN k4) := Below.drewN' b3' k4
    have t4 : Sl (w3.drewN k4) (some ⟨bt, offt, none⟩) 1 c1 (words (val xs)) := t1
    generalize w3.drewN k4 = w4 at b4' t4 ⊢
    clear t1 t2 t3 b3' HS4
    have S5 := nat_right (s0.below b4') (by omega)
    have S6 := ref_right (s0.below b4') (by omega)
    have S7 := nat_trim (s0.below b4') (by omega)
    obtain ⟨rb, hrb⟩ : ∃ rb, decide (sz xs = len0) = rb := ⟨_, rfl⟩
    rw [hrb] at S5 S6
    have HS5 := Lib.hid S5
    have HS6 := Lib.hid S6
    have HS7 := Lib.hid S7
    clear S5 S6 S7 hrb
    go_wp2_with fail
    refine HS5.out.mono ?_
    rintro e w' ⟨rfl, rfl⟩
    go_wp2_with fail
    refine HS6.out.mono ?_
    rintro e w' ⟨rfl, rfl⟩
    go_wp2_with fail
    refine HS7.out.mono ?_
    rintro e w5 ⟨A5, n5, c5, rfl, t5, b5⟩
    have b5' : Below w.heap.size w w5 := b4'.trans (b5.mono b4'.size)
    have t6 := t4.below b5
    have l5 : n5 ≤ 60 := by rw [t5.len, EW.out, List.length_take]; omega
    have S8 := plain_words t5 t6 (by omega) (by omega)
    rw [decide_eq_true rfl] at S8
    have HS8 := Lib.hid S8
    clear S8 HS5 HS6 HS7 b4' t4 b5
    go_wp2_with fail
    refine HS8.out.mono ?_
    rintro e w6 ⟨rfl, k6, rfl⟩
    have b6' : Below w.heap.size w (w5.drewN k6) := Below.drewN' b5' k6
    generalize w5.drewN k6 = w6 at b6' ⊢
    clear t5 t6 b5' HS8
    have S9 := nat_cmp (s0.below b6') (s1.below b6') (by omega) (by omega)
    have S10 := ref_cmp (s0.below b6') (s1.below b6') (by omega) (by omega)
    have S11 := nat_bits (s0.below b6') (by omega)
    have S12 := ref_bits (s0.below b6') (by omega)
    have S13 := nat_bit (s0.below b6') (by omega) i HI.out
    have S14 := ref_bit (s0.below b6') (by omega) i HI.out
    have S15 := nat_even (s0.below b6') (by omega)
    have S16 := ref_even (s0.below b6') (by omega)
    generalize cmpN (val xs) (val ys) = q1 at S9 S10
    generalize blen (val xs) = q2 at S11 S12
    generalize bitN (val xs) i = q3 at S13 S14
    generalize tz (val xs) = q4 at S15 S16
    have HS9 := Lib.hid S9
    have HS10 := Lib.hid S10
    have HS11 := Lib.hid S11
    have HS12 := Lib.hid S12
    have HS13 := Lib.hid S13
    have HS14 := Lib.hid S14
    have HS15 := Lib.hid S15
    have HS16 := Lib.hid S16
    clear S9 S10 S11 S12 S13 S14 S15 S16
    go_wp2_with fail
    refine HS9.out.mono ?_
    rintro e w' ⟨rfl, rfl⟩
    go_wp2_with fail
    refine HS10.out.mono ?_
    rintro e w' ⟨rfl, rfl⟩
    go_wp2_with fail
    refine HS11.out.mono ?_
    rintro e w' ⟨rfl, rfl⟩
    go_wp2_with fail
    refine HS12.out.mono ?_
    rintro e w' ⟨rfl, rfl⟩
    go_wp2_with fail
    refine HS13.out.mono ?_
    rintro e w' ⟨rfl, rfl⟩
    go_wp2_with fail
    refine HS14.out.mono ?_
    rintro e w' ⟨rfl, rfl⟩
    go_wp2_with fail
    refine HS15.out.mono ?_
    rintro e w' ⟨rfl, rfl⟩
    go_wp2_with fail
    refine HS16.out.mono ?_
    rintro e w' ⟨rfl, rfl⟩
    go_wp2_with fail
    refine (HS.out _).mono ?_
    rintro e w10 ⟨rfl, hb⟩
    go_wp2_with fail
    go_ret
    exact ⟨rfl, b6'.trans (hb.mono b6'.size)⟩
  · have e1 : word1 xs = 0 := by unfold word1; rw [if_pos (by omega)]
    rw [e1, decide_eq_false (show ¬ sz xs ≤ 1 by omega)] at W1
    have hx : U (0 : Int) := U_0
    have EP := Lib.hid hp
    clear e1 hp
    have EW := Lib.hid ew
    have HW1 := Lib.hid W1
    have HT1 := Lib.hid T1
    clear ew W1 T1
    go_enter Try.func6, Try.ntmps6
    go_wp2_with fail
    refine HW1.out.mono ?_
    rintro e w' ⟨rfl, rfl⟩
    go_wp2_with fail
    refine HT1.out.mono ?_
    rintro e w1 ⟨A1, n1, c1, rfl, t1, b1⟩
    have hn1 : n1 = sz xs := by rw [t1.len, EW.out, List.length_take]; have := sz_le xs; omega
    have hn2 : 2 ≤ n1 := by rw [hn1]; exact EP.out
    have hn3 : ((n1 : Int) == 1) = false := by simp; omega
    have hn4 : decide ((n1 : Int) < 2) = false := by simp; omega
    clear hn1
    have S2 := nat_of 0 hx w1
    have HS2 := Lib.hid S2
    clear S2 HW1 HT1
    go_wp2_with fail
    refine HS2.out.mono ?_
    rintro e w2 ⟨A2, n2, c2, rfl, t2, b2⟩
    have b2' : Below w.heap.size w w2 := b1.trans (b2.mono b1.size)
    have t1' := t1.below b2
    have l2 : n2 ≤ 1 := t2.small (by have := hx.2; rw [Nat.pow_one]; unfold W; omega)
    have b3' : Below w.heap.size w (w2.alloc (.cells #[.int .u64 0] 22)) := b2'.alloc b2'.size _
    have t2' := t2.below (below_alloc w2 (.cells #[.int .u64 0] 22))
    have t1 := t1'.below (below_alloc w2 (.cells #[.int .u64 0] 22))
    have S3 := ref_trim (sl_lit w2 0 hx) (by omega)
    rw [val_single] at S3
    have HS3 := Lib.hid S3
    have B3 := Lib.hid b3'
    have T1' := Lib.hid t1
    have T2' := Lib.hid t2'
    clear S3 b3' t1 t2' t1' t2 b2' b2 HS2 b1
    go_wp2_with fail
    refine HS3.out.mono ?_
    rintro e w3 ⟨A3, n3, c3, rfl, t3, b3⟩
    have b3' : Below w.heap.size w w3 := B3.out.trans (b3.mono B3.out.size)
    have t1 := T1'.out.below b3
    have t2 := T2'.out.below b3
    have l3 : n3 ≤ 1 := t3.small (by have := hx.2; rw [Nat.pow_one]; unfold W; omega)
    have S4 := plain_words t2 t3 (by omega) (by omega)
    rw [decide_eq_true rfl] at S4
    have HS4 := Lib.hid S4
    clear S4 HS3 T1' T2' B3 b3
    go_wp2_with fail
    refine HS4.out.mono ?_
    rintro e w4 ⟨rfl, k4, rfl⟩
    have b4' : Below w.heap.size w (w3.drewN k4) := Below.drewN' b3' k4
    have t4 : Sl (w3.drewN k4) A1 n1 c1 (words (val xs)) := t1
    generalize w3.drewN k4 = w4 at b4' t4 ⊢
    clear t1 t2 t3 b3' HS4
    have S5 := nat_right (s0.below b4') (by omega)
    have S6 := ref_right (s0.below b4') (by omega)
    have S7 := nat_trim (s0.below b4') (by omega)
    obtain ⟨rb, hrb⟩ : ∃ rb, decide (sz xs = len0) = rb := ⟨_, rfl⟩
    rw [hrb] at S5 S6
    have HS5 := Lib.hid S5
    have HS6 := Lib.hid S6
    have HS7 := Lib.hid S7
    clear S5 S6 S7 hrb
    go_wp2_with fail
    refine HS5.out.mono ?_
    rintro e w' ⟨rfl, rfl⟩
    go_wp2_with fail
    refine HS6.out.mono ?_
    rintro e w' ⟨rfl, rfl⟩
    go_wp2_with fail
    refine HS7.out.mono ?_
    rintro e w5 ⟨A5, n5, c5, rfl, t5, b5⟩
    have b5' : Below w.heap.size w w5 := b4'.trans (b5.mono b4'.size)
    have t6 := t4.below b5
    have l5 : n5 ≤ 60 := by rw [t5.len, EW.out, List.length_take]; omega
    have l6 : n1 ≤ 60 := by rw [t6.len, EW.out, List.length_take]; omega
    have S8 := plain_words t5 t6 (by omega) (by omega)
    rw [decide_eq_true rfl] at S8
    have HS8 := Lib.hid S8
    clear S8 HS5 HS6 HS7 b4' t4 b5
    go_wp2_with fail
    refine HS8.out.mono ?_
    rintro e w6 ⟨rfl, k6, rfl⟩
    have b6' : Below w.heap.size w (w5.drewN k6) := Below.drewN' b5' k6
    generalize w5.drewN k6 = w6 at b6' ⊢
    clear t5 t6 b5' HS8
    have S9 := nat_cmp (s0.below b6') (s1.below b6') (by omega) (by omega)
    have S10 := ref_cmp (s0.below b6') (s1.below b6') (by omega) (by omega)
    have S11 := nat_bits (s0.below b6') (by omega)
    have S12 := ref_bits (s0.below b6') (by omega)
    have S13 := nat_bit (s0.below b6') (by omega) i HI.out
    have S14 := ref_bit (s0.below b6') (by omega) i HI.out
    have S15 := nat_even (s0.below b6') (by omega)
    have S16 := ref_even (s0.below b6') (by omega)
    generalize cmpN (val xs) (val ys) = q1 at S9 S10
    generalize blen (val xs) = q2 at S11 S12
    generalize bitN (val xs) i = q3 at S13 S14
    generalize tz (val xs) = q4 at S15 S16
    have HS9 := Lib.hid S9
    have HS10 := Lib.hid S10
    have HS11 := Lib.hid S11
    have HS12 := Lib.hid S12
    have HS13 := Lib.hid S13
    have HS14 := Lib.hid S14
    have HS15 := Lib.hid S15
    have HS16 := Lib.hid S16
    clear S9 S10 S11 S12 S13 S14 S15 S16
    go_wp2_with fail
    refine HS9.out.mono ?_
    rintro e w' ⟨rfl, rfl⟩
    go_wp2_with fail
    refine HS10.out.mono ?_
    rintro e w' ⟨rfl, rfl⟩
    go_wp2_with fail
    refine HS11.out.mono ?_
    rintro e w' ⟨rfl, rfl⟩
    go_wp2_with fail
    refine HS12.out.mono ?_
    rintro e w' ⟨rfl, rfl⟩
    go_wp2_with fail
    refine HS13.out.mono ?_
    rintro e w' ⟨rfl, rfl⟩
    go_wp2_with fail
    refine HS14.out.mono ?_
    rintro e w' ⟨rfl, rfl⟩
    go_wp2_with fail
    refine HS15.out.mono ?_
    rintro e w' ⟨rfl, rfl⟩
    go_wp2_with fail
    refine HS16.out.mono ?_
    rintro e w' ⟨rfl, rfl⟩
    go_wp2_with fail
    refine (HS.out _).mono ?_
    rintro e w10 ⟨rfl, hb⟩
    go_wp2_with fail
    go_ret
    exact ⟨rfl, b6'.trans (hb.mono b6'.size)⟩

end Go.Proofs.Ythdcnaibehghdaa
