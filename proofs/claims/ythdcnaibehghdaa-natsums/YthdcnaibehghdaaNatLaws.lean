/-
  The walks of the laws of layer 2: each returns true for any numbers. Conditions: the slices read as lists of words; the integers fit their kind.
-/
import Derived.Test.YthdcnaibehghdaaNatSub
import Derived.Test.YthdcnaibehghdaaNatTrim
import Derived.Test.YthdcnaibehghdaaNatShl
import Derived.Test.YthdcnaibehghdaaRefAdd
namespace Go.Proofs.Ythdcnaibehghdaa
open Go.RowKit
set_option linter.unusedVariables false
set_option linter.unusedSimpArgs false

theorem words_carry : words (val [18446744073709551615] + val [1]) = [0, 1] := by
  have e : val [18446744073709551615] + val [1] = val [0, 1] := by decide
  rw [e, words_val (by intro x hx; simp at hx; rcases hx with rfl | rfl <;> (unfold W; omega))]
  decide
theorem sl_lit (w : World) (x : Int) (hx : U x) : Sl (w.alloc (.cells #[.int .u64 x] 22)) (some ⟨w.heap.size, 0, none⟩) 1 1 [x] :=
  (Row.lit w 22 [x]).sl (by intro y hy; simp at hy; subst hy; exact hx) (by simp)
theorem below_alloc (w : World) (o : Obj) : Below w.heap.size w (w.alloc o) := (Below.refl _ _).alloc (Nat.le_refl _) _

theorem bits_carry : blen (val [0, 1]) = 65 := by decide
theorem even_twelve : tz (val [12]) = 2 := by decide

set_option maxHeartbeats 1000000 in
theorem same02 (w : World) : Calls Try.prog 21 #[] w fun e w' => e = .returned (.bool true) ∧ Below w.heap.size w w' := by
  have s1 := sl_lit w 18446744073709551615 (by unfold U; omega)
  have s2 := sl_lit (w.alloc (.cells #[.int .u64 18446744073709551615] 22)) 1 U_1
  have s1' := s1.below (below_alloc _ (.cells #[.int .u64 1] 22))
  have hb0 : Below w.heap.size w ((w.alloc (.cells #[.int .u64 18446744073709551615] 22)).alloc (.cells #[.int .u64 1] 22)) := (below_alloc w _).alloc (by simp) _
  rw [show (w.alloc (.cells #[.int .u64 18446744073709551615] 22)).heap.size = w.heap.size + 1 from by simp] at s2
  have C := nat_add s1' s2 (by omega) (by omega)
  rw [words_carry] at C
  have HC := Lib.hid C
  have HB0 := Lib.hid hb0
  clear C s1 s2 s1' hb0
  go_enter Try.func21, Try.ntmps21
  go_wp2_with fail
  refine HC.out.mono ?_
  rintro e w1 ⟨A1, n1, c1, rfl, s1, b1⟩
  have hb1 := HB0.out.trans (b1.mono HB0.out.size)
  have hn1 : n1 = 2 := s1.len
  subst hn1
  obtain ⟨b, off, rfl, hlt, hc⟩ := s1.at_ (k := 0) (by omega)
  have hc0 : w1.cell? ⟨b, off, none⟩ = some (.int .u64 0) := hc 0 (by omega)
  have hc1 : w1.cell? ⟨b, off + 1, none⟩ = some (.int .u64 1) := hc 1 (by omega)
  have B := nat_bits s1 (by omega)
  rw [bits_carry] at B
  have E := nat_even (sl_lit w1 12 (by unfold U; omega)) (by omega)
  rw [even_twelve] at E
  have HBt := Lib.hid B
  have HE := Lib.hid E
  clear B E hc s1 b1 HC HB0
  go_wp2_with fail
  refine HBt.out.mono ?_
  rintro e w' ⟨rfl, rfl⟩
  go_wp2_with fail
  refine HE.out.mono ?_
  rintro e w' ⟨rfl, rfl⟩
  go_wp2_with fail
  go_ret
  exact ⟨rfl, hb1.alloc hb1.size _⟩

theorem val_lt_pow {xs : List Int} (h : ∀ x ∈ xs, U x) {k : Nat} (hk : xs.length ≤ k) : val xs < W ^ k :=
  Nat.lt_of_lt_of_le (valB_lt (Dg_U h)) (Nat.pow_le_pow_right W_pos hk)
theorem add_lt_pow {a b k : Nat} (ha : a < W ^ k) (hb : b < W ^ k) : a + b < W ^ (k + 1) := by
  have : W ^ k * 2 ≤ W ^ k * W := Nat.mul_le_mul_left _ two_le_W
  rw [Nat.pow_succ]
  omega
theorem lt_pow_mono {a k l : Nat} (ha : a < W ^ k) (h : k ≤ l) : a < W ^ l := Nat.lt_of_lt_of_le ha (Nat.pow_le_pow_right W_pos h)
theorem Sl.small {w : World} {A : Option Addr} {n c v k : Nat} (h : Sl w A n c (words v)) (hv : v < W ^ k) : n ≤ k := by
  rw [h.len]; exact words_length v k hv

set_option maxHeartbeats 1000000 in
theorem natRing_walk (a0 : Option Addr) (len0 cap0 : Nat) (z0 : List Int) (a1 : Option Addr) (len1 cap1 : Nat) (z1 : List Int) (a2 : Option Addr) (len2 cap2 : Nat) (z2 : List Int) (w : World) (w0 : IsRow .u64 w a0 len0 cap0 z0) (w1 : IsRow .u64 w a1 len1 cap1 z1) (w2 : IsRow .u64 w a2 len2 cap2 z2) :
    Calls Try.prog 8 #[.slice a0 len0 cap0, .slice a1 len1 cap1, .slice a2 len2 cap2] w fun e w' => e = .returned (.bool true) ∧ Below w.heap.size w w' := by
  obtain ⟨s0, _⟩ := w0.sl
  obtain ⟨s1, _⟩ := w1.sl
  obtain ⟨s2, _⟩ := w2.sl
  clear w0 w1 w2
  have HS := Lib.hid (fun w => same02 w)
  by_cases h0 : 60 < len0
  · go_enter Try.func8, Try.ntmps8
    go_wp2_with fail
    refine (HS.out _).mono ?_
    rintro e w' ⟨rfl, hb⟩
    go_wp2_with fail
    go_ret
    exact ⟨rfl, hb⟩
  by_cases h1 : 60 < len1
  · go_enter Try.func8, Try.ntmps8
    go_wp2_with fail
    refine (HS.out _).mono ?_
    rintro e w' ⟨rfl, hb⟩
    go_wp2_with fail
    go_ret
    exact ⟨rfl, hb⟩
  by_cases h2 : 60 < len2
  · go_enter Try.func8, Try.ntmps8
    go_wp2_with fail
    refine (HS.out _).mono ?_
    rintro e w' ⟨rfl, hb⟩
    go_wp2_with fail
    go_ret
    exact ⟨rfl, hb⟩
  generalize z0.take len0 = xs at s0
  generalize z1.take len1 = ys at s1
  generalize z2.take len2 = zs at s2
  have va : val xs < W ^ 60 := val_lt_pow s0.us (by have := s0.len; omega)
  have vb : val ys < W ^ 60 := val_lt_pow s1.us (by have := s1.len; omega)
  have vc : val zs < W ^ 60 := val_lt_pow s2.us (by have := s2.len; omega)
  generalize ea : val xs = a at va
  generalize eb : val ys = b at vb
  generalize ec : val zs = c at vc
  have EA := Lib.hid ea
  have EB := Lib.hid eb
  have EC := Lib.hid ec
  have VA := Lib.hid va
  have VB := Lib.hid vb
  have VC := Lib.hid vc
  clear ea eb ec va vb vc
  go_enter Try.func8, Try.ntmps8
  go_wp2_with fail
  refine (nat_add s0 s1 (by omega) (by omega)).mono ?_
  rintro e w1 ⟨A1, n1, c1, rfl, t1, b1⟩
  rw [EA.out, EB.out] at t1
  have l1 : n1 ≤ 61 := t1.small (add_lt_pow VA.out VB.out)
  have S1 := nat_sub_yes t1 (s1.below b1) (by omega) (by omega) (by rw [val_words, EB.out]; omega)
  rw [val_words, EB.out, Nat.add_sub_cancel] at S1
  have HS1 := Lib.hid S1
  clear S1
  go_wp2_with fail
  refine HS1.out.mono ?_
  rintro e w2 ⟨A2, n2, c2, rfl, t2, b2⟩
  have b2' : Below w.heap.size w w2 := b1.trans (b2.mono b1.size)
  have l2 : n2 ≤ 60 := t2.small VA.out
  have S2 := nat_add (s0.below b2') (s1.below b2') (by omega) (by omega)
  rw [EA.out, EB.out] at S2
  have HS2 := Lib.hid S2
  clear S2 b1 b2 t1 HS1
  go_wp2_with fail
  refine HS2.out.mono ?_
  rintro e w3 ⟨A3, n3, c3, rfl, t3, b3⟩
  have b3' : Below w.heap.size w w3 := b2'.trans (b3.mono b2'.size)
  have t2' := t2.below b3
  have l3 : n3 ≤ 61 := t3.small (add_lt_pow VA.out VB.out)
  have S3 := nat_add t3 (s2.below b3') (by omega) (by omega)
  rw [val_words, EC.out] at S3
  have HS3 := Lib.hid S3
  clear S3 b2' b3 t2 HS2
  go_wp2_with fail
  refine HS3.out.mono ?_
  rintro e w4 ⟨A4, n4, c4, rfl, t4, b4⟩
  have b4' : Below w.heap.size w w4 := b3'.trans (b4.mono b3'.size)
  have t2 := t2'.below b4
  have l4 : n4 ≤ 62 := t4.small (add_lt_pow (add_lt_pow VA.out VB.out) (lt_pow_mono VC.out (by omega)))
  have S4 := nat_add (s2.below b4') (s1.below b4') (by omega) (by omega)
  rw [EB.out, EC.out] at S4
  have HS4 := Lib.hid S4
  clear S4 b3' b4 t2' t3 HS3
  go_wp2_with fail
  refine HS4.out.mono ?_
  rintro e w5 ⟨A5, n5, c5, rfl, t5, b5⟩
  have b5' : Below w.heap.size w w5 := b4'.trans (b5.mono b4'.size)
  have t2' := t2.below b5
  have t4' := t4.below b5
  have l5 : n5 ≤ 61 := t5.small (add_lt_pow VC.out VB.out)
  have S5 := nat_add (s0.below b5') t5 (by omega) (by omega)
  rw [val_words, EA.out] at S5
  have HS5 := Lib.hid S5
  clear S5 b4' b5 t2 t4 HS4
  go_wp2_with fail
  refine HS5.out.mono ?_
  rintro e w6 ⟨A6, n6, c6, rfl, t6, b6⟩
  have b6' : Below w.heap.size w w6 := b5'.trans (b6.mono b5'.size)
  have t2 := t2'.below b6
  have t4 := t4'.below b6
  have l6 : n6 ≤ 62 := t6.small (add_lt_pow (lt_pow_mono VA.out (by omega)) (add_lt_pow VC.out VB.out))
  have S6 := plain_words t4 t6 (by omega) (by omega)
  rw [decide_eq_true (show words (a + b + c) = words (a + (c + b)) by rw [Nat.add_assoc, Nat.add_comm b c])] at S6
  have HS6 := Lib.hid S6
  clear S6 b5' b6 t2' t4' t5 HS5
  go_wp2_with fail
  refine HS6.out.mono ?_
  rintro e w7 ⟨rfl, k7, rfl⟩
  have b7' : Below w.heap.size w (w6.drewN k7) := Below.drewN' b6' k7
  have t7 : Sl (w6.drewN k7) A2 n2 c2 (words a) := t2
  generalize w6.drewN k7 = w7 at b7' t7 ⊢
  have S7 := nat_trim (s0.below b7') (by omega)
  rw [EA.out] at S7
  have HS7 := Lib.hid S7
  clear S7 b6' t2 t4 t6 HS6
  go_wp2_with fail
  refine HS7.out.mono ?_
  rintro e w8 ⟨A8, n8, c8, rfl, t8, b8⟩
  have b8' : Below w.heap.size w w8 := b7'.trans (b8.mono b7'.size)
  have t9 := t7.below b8
  have l8 : n8 ≤ 60 := t8.small VA.out
  have S8 := plain_words t9 t8 (by omega) (by omega)
  rw [decide_eq_true rfl] at S8
  have HS8 := Lib.hid S8
  clear S8 b7' b8 t7 HS7
  go_wp2_with fail
  refine HS8.out.mono ?_
  rintro e w9 ⟨rfl, k9, rfl⟩
  have b9' : Below w.heap.size w (w8.drewN k9) := Below.drewN' b8' k9
  generalize w8.drewN k9 = w9 at b9' ⊢
  clear t8 t9 b8' HS8
  go_wp2_with fail
  refine (HS.out _).mono ?_
  rintro e w10 ⟨rfl, hb⟩
  go_wp2_with fail
  go_ret
  exact ⟨rfl, b9'.trans (hb.mono b9'.size)⟩

end Go.Proofs.Ythdcnaibehghdaa
