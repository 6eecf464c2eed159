/-
  What fround.ToRat and the document's ToRat of layer 10 return for any word: the exact value of the double, or an error. Conditions: the word is below 2^64; the document's: the double is finite.
-/
import Derived.Test.YtmoahgiklgicgaaFltRat
import Derived.Test.YtmoahgiklgicgaaFbLaws
import Derived.Test.YtmoahgiklgicgaaRatMulAll
import Derived.Test.YtmoahgiklgicgaaRefShift
namespace Go.Proofs.Ytmoahgiklgicgaa
set_option maxRecDepth 100000
open Go.RowKit
set_option linter.unusedVariables false
set_option linter.unusedSimpArgs false

theorem dq_parts {b : Nat} (h : fld b < 2047) : sig b * 2 ^ clampS (xpo b) < W ^ 18 ∧ 2 ^ clampS (-(xpo b)) < W ^ 18 ∧ 2 ^ clampS (-(xpo b)) ≠ 0 := by
  obtain ⟨h1, h2⟩ := xpo_range h
  have hs := sig_lt b
  refine ⟨?_, ?_, by have := Nat.two_pow_pos (clampS (-(xpo b))); omega⟩
  · have hc : clampS (xpo b) ≤ 64 * 17 := by
      rcases Int.lt_or_le (xpo b) 0 with hl | hl
      · rw [clampS_neg hl]; omega
      · rw [clampS_mid hl (by omega)]; omega
    exact mul_lt_pow (a := sig b) (k := 1) (l := 17) (by rw [Nat.pow_one]; unfold W; omega) hc
  · have hc : clampS (-(xpo b)) ≤ 64 * 17 := by
      rcases Int.lt_or_le (-(xpo b)) 0 with hl | hl
      · rw [clampS_neg hl]; omega
      · rw [clampS_mid hl (by omega)]; omega
    have := mul_lt_pow (a := 1) (k := 1) (l := 17) (by rw [Nat.pow_one]; unfold W; omega) hc
    rwa [Nat.one_mul] at this

set_option maxRecDepth 100000 in
set_option maxHeartbeats 4000000 in
theorem rf_torat {b : Nat} (hb : b < 18446744073709551616) (hf : fld b < 2047) (w : World) :
    Calls Try.prog 18 #[.int .u64 b] w (RetQ (dq b) w) := by
  obtain ⟨V, hW, Br, hb0⟩ := box0 36 w #[.bool false, .slice none 0 0, .slice none 0 0]
  obtain ⟨x1, x2⟩ := xpo_range hf
  obtain ⟨p1, p2, p3⟩ := dq_parts hf
  have hq := dq_eq hf
  have hs := sig_lt b
  have P := fun w1 => rf_parts hb w1
  have N := fun w1 => rf_neg hb w1
  have S1 := fun w1 => ref_shl (sl_lit w1 (sig b : Int) (by unfold U; omega)) (by omega) (xpo b)
  have S2 := fun w1 => ref_shl (sl_lit w1 1 U_1) (by omega) (-(xpo b))
  rw [val_one, Int.toNat_natCast] at S1
  rw [val_one, show (1 : Int).toNat = 1 from rfl, Nat.one_mul] at S2
  have MK := fun (w1 : World) (A A' : Option Addr) (n n' c c' : Nat) (t1 : Sl w1 A n c (words (sig b * 2 ^ clampS (xpo b)))) (t2 : Sl w1 A' n' c' (words (2 ^ clampS (-(xpo b))))) => ref_make (N := 18) (ng b) t1 t2 (t1.small p1) (t2.small p2) (by omega) (by rw [val_words]; exact p3)
  simp only [val_words] at MK
  rw [hq] at MK
  generalize sig b * 2 ^ clampS (xpo b) = X1 at *
  generalize 2 ^ clampS (-(xpo b)) = X2 at *
  generalize dq b = D at *
  generalize sig b = g at *
  generalize xpo b = x at *
  generalize ng b = s at *
  have HW := Lib.hid hW
  have HBr := Lib.hid Br
  have HP := Lib.hid P
  have HN := Lib.hid N
  have HS1 := Lib.hid S1
  have HS2 := Lib.hid S2
  have HMK := Lib.hid MK
  clear hW Br P N S1 S2 MK hq p1 p2 p3 hf
  go_enter Try.func18, Try.ntmps18
  go_wp2_with fail
  rw [HW.out]
  clear HW
  refine (HP.out _).mono ?_
  rintro _ _ ⟨rfl, rfl⟩
  go_wp2_with fail
  refine (HN.out _).mono ?_
  rintro _ _ ⟨rfl, rfl⟩
  go_wp2_with fail
  with_reducible refine (HS1.out _).mono ?_
  rintro _ w1 ⟨A1, n1, c1, rfl, t1, b1⟩
  have y1 := bb (below_alloc V _) b1
  go_wp2_with fail
  with_reducible refine (HS2.out _).mono ?_
  rintro _ w2 ⟨A2, n2, c2, rfl, t2, b2⟩
  have y2 := bb (below_alloc w1 _) b2
  go_wp2_with fail
  with_reducible refine (HMK.out _ _ _ _ _ _ _ (t1.below y2) t2).mono ?_
  rintro _ w3 ⟨s3, A3, n3, c3, A4, n4, c4, rfl, q3, b3⟩
  have x3 := bb y1 (bb y2 b3)
  have B3 := HBr.out.below' x3
  obtain ⟨⟨r0, r1, r2⟩, f0, f1, f2⟩ := B3.three
  go_wp2_with fail
  refine bodyPost_ret (v := .agg #[.bool s3, .slice A3 n3 c3, .slice A4 n4 c4]) (by simp [results, Try.results18, go_sem, r0, r1, r2]) rfl ?_
  exact ⟨_, _, _, _, _, _, _, rfl, q3.put3 ⟨_, _, _, _, _, _, _, B3⟩, below_put3 (bb hb0 x3) (by omega) (Nat.le_refl _) _ _ _⟩

end Go.Proofs.Ytmoahgiklgicgaa
