/-
  The walk of the law NatSums: it returns true for any numbers and any shift. Conditions: the slices read as lists of words; the integer fits its kind.
-/
import Derived.Test.YthdcnaibehghdaaNatLaws
import Derived.Test.YthdcnaibehghdaaRefShift
namespace Go.Proofs.Ythdcnaibehghdaa
open Go.RowKit
set_option linter.unusedVariables false
set_option linter.unusedSimpArgs false

theorem i64_most {a : Int} (h : (Lit.int .i64 a).wf = true) : a ≤ 9223372036854775807 := by
  have := bounds_i64 h; omega

theorem Sl.small_mul {w : World} {A : Option Addr} {n c a m k l : Nat} (h : Sl w A n c (words (a * 2 ^ m))) (ha : a < W ^ k) (hm : m ≤ 64 * l) : n ≤ k + l := h.small (mul_lt_pow ha hm)

set_option maxHeartbeats 4000000 in
theorem natSums_walk (a0 : Option Addr) (len0 cap0 : Nat) (z0 : List Int) (a1 : Option Addr) (len1 cap1 : Nat) (z1 : List Int) (i : Int) (w : World) (w0 : IsRow .u64 w a0 len0 cap0 z0) (w1 : IsRow .u64 w a1 len1 cap1 z1) (w2 : (Lit.int .i64 i).wf = true) :
    Calls Try.prog 7 #[.slice a0 len0 cap0, .slice a1 len1 cap1, .int .i64 i] w fun e w' => e = .returned (.bool true) ∧ Below w.heap.size w w' := by
  obtain ⟨s0, _⟩ := w0.sl
  obtain ⟨s1, _⟩ := w1.sl
  have HI := Lib.hid (i64_most w2)
  clear w0 w1 w2
  have HS := Lib.hid (fun w => same02 w)
  by_cases h0 : 60 < len0
  · go_enter Try.func7, Try.ntmps7
    go_wp2_with fail
    refine (HS.out _).mono ?_
    rintro e w' ⟨rfl, hb⟩
    go_wp2_with fail
    go_ret
    exact ⟨rfl, hb⟩
  by_cases h1 : 60 < len1
  · go_enter Try.func7, Try.ntmps7
    go_wp2_with fail
    refine (HS.out _).mono ?_
    rintro e w' ⟨rfl, hb⟩
    go_wp2_with fail
    go_ret
    exact ⟨rfl, hb⟩
  generalize z0.take len0 = xs at s0
  generalize z1.take len1 = ys at s1
  have va : val xs < W ^ 60 := val_lt_pow s0.us (by have := s0.len; omega)
  have vb : val ys < W ^ 60 := val_lt_pow s1.us (by have := s1.len; omega)
  generalize ea : val xs = a at va
  generalize eb : val ys = b at vb
  have EA := Lib.hid ea
  have EB := Lib.hid eb
  have VA := Lib.hid va
  have VB := Lib.hid vb
  clear ea eb va vb
  rcases Nat.lt_or_ge a b with hlt | hle
  · have S1 := nat_sub_no s0 s1 (by omega) (by omega) (by rw [EA.out, EB.out]; exact hlt)
    have HS1 := Lib.hid S1
    have HLT := Lib.hid hlt
    clear S1 hlt
    go_enter Try.func7, Try.ntmps7
    go_wp2_with fail
    refine HS1.out.mono ?_
    rintro e w1 ⟨A1, n1, c1, rfl, t1, b1⟩
    have hn1 : n1 = 0 := t1.len
    subst hn1
    have S2 := ref_cmp (s0.below b1) (s1.below b1) (by omega) (by omega)
    rw [EA.out, EB.out, cmpN_lt HLT.out] at S2
    have HS2 := Lib.hid S2
    clear S2 HS1 t1
    go_wp2_with fail
    refine HS2.out.mono ?_
    rintro e w2 ⟨rfl, rfl⟩
    have b2' := b1
    have S3 := nat_add (s0.below b2') (s1.below b2') (by omega) (by omega)
    rw [EA.out, EB.out] at S3
    have HS3 := Lib.hid S3
    clear S3
    go_wp2_with fail
    refine HS3.out.mono ?_
    rintro e w3 ⟨A3, n3, c3, rfl, t3, b3⟩
    have b3' : Below w.heap.size w w3 := b2'.trans (b3.mono b2'.size)
    have l3 : n3 ≤ 61 := t3.small (add_lt_pow VA.out VB.out)
    have S4 := ref_nadd (s0.below b3') (s1.below b3') (by omega) (by omega)
    rw [EA.out, EB.out] at S4
    have HS4 := Lib.hid S4
    clear S4 HS3 b2' b3
    go_wp2_with fail
    refine HS4.out.mono ?_
    rintro e w4 ⟨A4, n4, c4, rfl, t4, b4⟩
    have b4' : Below w.heap.size w w4 := b3'.trans (b4.mono b3'.size)
    have t3' := t3.below b4
    have l4 : n4 ≤ 61 := t4.small (add_lt_pow VA.out VB.out)
    have S5 := plain_words t3' t4 (by omega) (by omega)
    rw [decide_eq_true rfl] at S5
    have HS5 := Lib.hid S5
    clear S5 HS4 b3' b4 t3
    go_wp2_with fail
    refine HS5.out.mono ?_
    rintro e w5 ⟨rfl, k5, rfl⟩
    have b5' : Below w.heap.size w (w4.drewN k5) := Below.drewN' b4' k5
    generalize w4.drewN k5 = w5 at b5' ⊢
    clear t3' t4 b4' HS5
    have S6 := nat_shl (s0.below b5') (by omega) i
    rw [EA.out] at S6
    have HS6 := Lib.hid S6
    clear S6
    go_wp2_with fail
    refine HS6.out.mono ?_
    rintro e w6 ⟨A6, n6, c6, rfl, t6, b6⟩
    have b6' : Below w.heap.size w w6 := b5'.trans (b6.mono b5'.size)
    have l6 : n6 ≤ 1084 := t6.small_mul (k := 60) (l := 1024) VA.out (by have := clampS_le i; omega)
    have S7 := ref_shl (s0.below b6') (by omega) i
    rw [EA.out] at S7
    have HS7 := Lib.hid S7
    clear S7 HS6 b5' b6
    go_wp2_with fail
    refine HS7.out.mono ?_
    rintro e w7 ⟨A7, n7, c7, rfl, t7, b7⟩
    have b7' : Below w.heap.size w w7 := b6'.trans (b7.mono b6'.size)
    have t6' := t6.below b7
    have l7 : n7 ≤ 1084 := t7.small_mul (k := 60) (l := 1024) VA.out (by have := clampS_le i; omega)
    have S8 := plain_words t6' t7 (by omega) (by omega)
    rw [decide_eq_true rfl] at S8
    have HS8 := Lib.hid S8
    clear S8 HS7 b6' b7 t6
    go_wp2_with fail
    refine HS8.out.mono ?_
    rintro e w8 ⟨rfl, k8, rfl⟩
    have b8' : Below w.heap.size w (w7.drewN k8) := Below.drewN' b7' k8
    generalize w7.drewN k8 = w8 at b8' ⊢
    clear t6' t7 b7' HS8
    have S9 := nat_shr (s0.below b8') (by omega) i HI.out
    rw [EA.out] at S9
    have HS9 := Lib.hid S9
    clear S9
    go_wp2_with fail
    refine HS9.out.mono ?_
    rintro e w9 ⟨A9, n9, c9, rfl, t9, b9⟩
    have b9' : Below w.heap.size w w9 := b8'.trans (b9.mono b8'.size)
    have l9 : n9 ≤ 60 := t9.small (Nat.lt_of_le_of_lt (Nat.div_le_self _ _) VA.out)
    have S10 := ref_shr (s0.below b9') (by omega) i HI.out
    rw [EA.out] at S10
    have HS10 := Lib.hid S10
    clear S10 HS9 b8' b9
    go_wp2_with fail
    refine HS10.out.mono ?_
    rintro e w10 ⟨A10, n10, c10, rfl, t10, b10⟩
    have b10' : Below w.heap.size w w10 := b9'.trans (b10.mono b9'.size)
    have t9' := t9.below b10
    have l10 : n10 ≤ 60 := t10.small (Nat.lt_of_le_of_lt (Nat.div_le_self _ _) VA.out)
    have S11 := plain_words t9' t10 (by omega) (by omega)
    rw [decide_eq_true rfl] at S11
    have HS11 := Lib.hid S11
    clear S11 HS10 b9' b10 t9
    go_wp2_with fail
    refine HS11.out.mono ?_
    rintro e w11 ⟨rfl, k11, rfl⟩
    have b11' : Below w.heap.size w (w10.drewN k11) := Below.drewN' b10' k11
    generalize w10.drewN k11 = w11 at b11' ⊢
    clear t9' t10 b10' HS11
    go_wp2_with fail
    refine (HS.out _).mono ?_
    rintro e w12 ⟨rfl, hb⟩
    go_wp2_with fail
    go_ret
    exact ⟨rfl, b11'.trans (hb.mono b11'.size)⟩
  · have S1 := nat_sub_yes s0 s1 (by omega) (by omega) (by rw [EA.out, EB.out]; exact hle)
    rw [EA.out, EB.out] at S1
    have HS1 := Lib.hid S1
    have HLE := Lib.hid hle
    clear S1 hle
    go_enter Try.func7, Try.ntmps7
    go_wp2_with fail
    refine HS1.out.mono ?_
    rintro e w1 ⟨A1, n1, c1, rfl, t1, b1⟩
    have l1 : n1 ≤ 60 := t1.small (Nat.lt_of_le_of_lt (Nat.sub_le _ _) VA.out)
    have S2 := ref_cmp (s0.below b1) (s1.below b1) (by omega) (by omega)
    rw [EA.out, EB.out] at S2
    have hcm : 0 ≤ cmpN a b := by have := cmpN_neg a b; have := HLE.out; omega
    generalize cmpN a b = cm at S2 hcm
    have hcd : decide (0 ≤ cm) = true := by simpa using hcm
    have HS2 := Lib.hid S2
    clear S2 HS1
    go_wp2_with fail
    refine HS2.out.mono ?_
    rintro e w1' ⟨rfl, rfl⟩
    have S2b := ref_nsub (s0.below b1) (s1.below b1) (by omega) (by omega) (by rw [EA.out, EB.out]; exact HLE.out)
    rw [EA.out, EB.out] at S2b
    have HS2b := Lib.hid S2b
    clear S2b HS2
    go_wp2_with fail
    refine HS2b.out.mono ?_
    rintro e w2 ⟨A2, n2, c2, rfl, t2, b2⟩
    have b2m : Below w.heap.size w w2 := b1.trans (b2.mono b1.size)
    have t1' := t1.below b2
    have l2 : n2 ≤ 60 := t2.small (Nat.lt_of_le_of_lt (Nat.sub_le _ _) VA.out)
    have S2c := plain_words t1' t2 (by omega) (by omega)
    rw [decide_eq_true rfl] at S2c
    have HS2c := Lib.hid S2c
    clear S2c HS2b b1 b2 t1
    go_wp2_with fail
    refine HS2c.out.mono ?_
    rintro e w2' ⟨rfl, k2, rfl⟩
    have b2' : Below w.heap.size w (w2.drewN k2) := Below.drewN' b2m k2
    generalize w2.drewN k2 = w2' at b2' ⊢
    clear t1' t2 b2m HS2c
    have S3 := nat_add (s0.below b2') (s1.below b2') (by omega) (by omega)
    rw [EA.out, EB.out] at S3
    have HS3 := Lib.hid S3
    clear S3
    go_wp2_with fail
    refine HS3.out.mono ?_
    rintro e w3 ⟨A3, n3, c3, rfl, t3, b3⟩
    have b3' : Below w.heap.size w w3 := b2'.trans (b3.mono b2'.size)
    have l3 : n3 ≤ 61 := t3.small (add_lt_pow VA.out VB.out)
    have S4 := ref_nadd (s0.below b3') (s1.below b3') (by omega) (by omega)
    rw [EA.out, EB.out] at S4
    have HS4 := Lib.hid S4
    clear S4 HS3 b2' b3
    go_wp2_with fail
    refine HS4.out.mono ?_
    rintro e w4 ⟨A4, n4, c4, rfl, t4, b4⟩
    have b4' : Below w.heap.size w w4 := b3'.trans (b4.mono b3'.size)
    have t3' := t3.below b4
    have l4 : n4 ≤ 61 := t4.small (add_lt_pow VA.out VB.out)
    have S5 := plain_words t3' t4 (by omega) (by omega)
    rw [decide_eq_true rfl] at S5
    have HS5 := Lib.hid S5
    clear S5 HS4 b3' b4 t3
    go_wp2_with fail
    refine HS5.out.mono ?_
    rintro e w5 ⟨rfl, k5, rfl⟩
    have b5' : Below w.heap.size w (w4.drewN k5) := Below.drewN' b4' k5
    generalize w4.drewN k5 = w5 at b5' ⊢
    clear t3' t4 b4' HS5
    have S6 := nat_shl (s0.below b5') (by omega) i
    rw [EA.out] at S6
    have HS6 := Lib.hid S6
    clear S6
    go_wp2_with fail
    refine HS6.out.mono ?_
    rintro e w6 ⟨A6, n6, c6, rfl, t6, b6⟩
    have b6' : Below w.heap.size w w6 := b5'.trans (b6.mono b5'.size)
    have l6 : n6 ≤ 1084 := t6.small_mul (k := 60) (l := 1024) VA.out (by have := clampS_le i; omega)
    have S7 := ref_shl (s0.below b6') (by omega) i
    rw [EA.out] at S7
    have HS7 := Lib.hid S7
    clear S7 HS6 b5' b6
    go_wp2_with fail
    refine HS7.out.mono ?_
    rintro e w7 ⟨A7, n7, c7, rfl, t7, b7⟩
    have b7' : Below w.heap.size w w7 := b6'.trans (b7.mono b6'.size)
    have t6' := t6.below b7
    have l7 : n7 ≤ 1084 := t7.small_mul (k := 60) (l := 1024) VA.out (by have := clampS_le i; omega)
    have S8 := plain_words t6' t7 (by omega) (by omega)
    rw [decide_eq_true rfl] at S8
    have HS8 := Lib.hid S8
    clear S8 HS7 b6' b7 t6
    go_wp2_with fail
    refine HS8.out.mono ?_
    rintro e w8 ⟨rfl, k8, rfl⟩
    have b8' : Below w.heap.size w (w7.drewN k8) := Below.drewN' b7' k8
    generalize w7.drewN k8 = w8 at b8' ⊢
    clear t6' t7 b7' HS8
    have S9 := nat_shr (s0.below b8') (by omega) i HI.out
    rw [EA.out] at S9
    have HS9 := Lib.hid S9
    clear S9
    go_wp2_with fail
    refine HS9.out.mono ?_
    rintro e w9 ⟨A9, n9, c9, rfl, t9, b9⟩
    have b9' : Below w.heap.size w w9 := b8'.trans (b9.mono b8'.size)
    have l9 : n9 ≤ 60 := t9.small (Nat.lt_of_le_of_lt (Nat.div_le_self _ _) VA.out)
    have S10 := ref_shr (s0.below b9') (by omega) i HI.out
    rw [EA.out] at S10
    have HS10 := Lib.hid S10
    clear S10 HS9 b8' b9
    go_wp2_with fail
    refine HS10.out.mono ?_
    rintro e w10 ⟨A10, n10, c10, rfl, t10, b10⟩
    have b10' : Below w.heap.size w w10 := b9'.trans (b10.mono b9'.size)
    have t9' := t9.below b10
    have l10 : n10 ≤ 60 := t10.small (Nat.lt_of_le_of_lt (Nat.div_le_self _ _) VA.out)
    have S11 := plain_words t9' t10 (by omega) (by omega)
    rw [decide_eq_true rfl] at S11
    have HS11 := Lib.hid S11
    clear S11 HS10 b9' b10 t9
    go_wp2_with fail
    refine HS11.out.mono ?_
    rintro e w11 ⟨rfl, k11, rfl⟩
    have b11' : Below w.heap.size w (w10.drewN k11) := Below.drewN' b10' k11
    generalize w10.drewN k11 = w11 at b11' ⊢
    clear t9' t10 b10' HS11
    go_wp2_with fail
    refine (HS.out _).mono ?_
    rintro e w12 ⟨rfl, hb⟩
    go_wp2_with fail
    go_ret
    exact ⟨rfl, b11'.trans (hb.mono b11'.size)⟩

end Go.Proofs.Ythdcnaibehghdaa
