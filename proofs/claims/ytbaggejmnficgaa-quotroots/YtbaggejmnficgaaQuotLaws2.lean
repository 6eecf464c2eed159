/-
  The walk of the law on roots of layer 4: it returns true for any number. Conditions: the slice reads as a list of words.
-/
import Derived.Test.YtbaggejmnficgaaQuotLaws
namespace Go.Proofs.Ytbaggejmnficgaa
open Go.RowKit
set_option linter.unusedVariables false
set_option linter.unusedSimpArgs false

theorem rt_le (a : Nat) : rt a ≤ a := by
  have := (rt_spec a).1
  rcases Nat.eq_zero_or_pos (rt a) with e | e
  · omega
  · exact Nat.le_trans (Nat.le_mul_of_pos_right _ e) this

set_option maxHeartbeats 4000000 in
theorem quotRoots_walk (a0 : Option Addr) (len0 cap0 : Nat) (z0 : List Int) (w : World) (w0 : IsRow .u64 w a0 len0 cap0 z0) :
    Calls Try.prog 10 #[.slice a0 len0 cap0] w fun e w' => e = .returned (.bool true) ∧ Below w.heap.size w w' := by
  obtain ⟨s0, _⟩ := w0.sl
  clear w0
  have HS := Lib.hid (fun w => same04 w)
  by_cases h0 : 16 < len0
  · go_enter Try.func10, Try.ntmps10
    go_wp2_with fail
    refine (HS.out _).mono ?_
    rintro e w' ⟨rfl, hb⟩
    go_wp2_with fail
    go_ret
    exact ⟨rfl, hb⟩
  generalize z0.take len0 = xs at s0
  have va : val xs < W ^ 16 := val_lt_pow s0.us (by have := s0.len; omega)
  have RT := quot_root s0 (by omega)
  have CM := fun w1 (hb : Below w.heap.size w w1) (B : Option Addr) (nb cb X : Nat) (s : Sl w1 B nb cb (words X)) (hnb : nb ≤ 100) => nat_cmp s (s0.below hb) (by omega) (by omega)
  have SQ := fun w1 (hb : Below w.heap.size w w1) => quot_square (s0.below hb) (by omega)
  have RR := fun w1 (hb : Below w.heap.size w w1) => ref_root (s0.below hb) (by omega)
  have MU := fun w1 (hb : Below w.heap.size w w1) => prod_mul (s0.below hb) (s0.below hb) (by omega)
  obtain ⟨g1, g2⟩ := rt_spec (val xs)
  have hrl := rt_le (val xs)
  have hsq := rt_sq (val xs)
  generalize val xs = a at *
  have hrw : rt a < W ^ 16 := Nat.lt_of_le_of_lt hrl va
  generalize rt a = r at *
  have c2 : cmpN ((r + 1) * (r + 1)) a = 1 := cmpN_gt g2
  have hone : (1 : Nat) < W ^ 16 := Nat.lt_of_lt_of_le (show 1 < W ^ 1 by rw [Nat.pow_one]; exact two_le_W) (Nat.pow_le_pow_right W_pos (by omega))
  have HRT := Lib.hid RT
  have HCM := Lib.hid CM
  have HSQ := Lib.hid SQ
  have HRR := Lib.hid RR
  have HMU := Lib.hid MU
  have HVA := Lib.hid va
  have HRW := Lib.hid hrw
  have HSR := Lib.hid hsq
  have HC2 := Lib.hid c2
  have HON := Lib.hid hone
  obtain ⟨cm, ecm⟩ : ∃ cm, cmpN (r * r) a = cm := ⟨_, rfl⟩
  obtain ⟨bq, ebq⟩ : ∃ bq, decide (r * r = a) = bq := ⟨_, rfl⟩
  have hcm0 : cm ≤ 0 := by rw [← ecm]; unfold cmpN; split <;> (try split) <;> omega
  have hcb : (cm == 0) = bq := by
    rw [← ecm, ← ebq]
    unfold cmpN
    by_cases e1 : r * r < a
    · rw [if_pos e1, decide_eq_false (by omega)]; rfl
    · rw [if_neg e1, if_neg (by omega), decide_eq_true (by omega)]; rfl
  have ECM := Lib.hid ecm
  have EBQ := Lib.hid ebq
  clear RT CM SQ RR MU va hrw hsq g1 g2 hrl c2 hone ecm ebq
  go_enter Try.func10, Try.ntmps10
  go_wp2_with fail
  refine HRT.out.mono ?_
  rintro e w1 ⟨A1, n1, c1, rfl, t1, b1⟩
  have l1 : n1 ≤ 16 := t1.small HRW.out
  have ba := below_alloc w1 (.cells #[.int .u64 1] 23)
  have hba := b1.trans (ba.mono b1.size)
  have t1a := t1.below ba
  have AD := nat_add t1a (sl_lit w1 1 U_1) (by omega) (by omega)
  rw [val_words, val_one, show (1 : Int).toNat = 1 from rfl] at AD
  have HAD := Lib.hid AD
  clear AD t1 b1 ba HRT
  go_wp2_with fail
  refine HAD.out.mono ?_
  rintro e w2 ⟨A2, n2, c2, rfl, t2, b2⟩
  have hb2 := hba.trans (b2.mono hba.size)
  have l2 : n2 ≤ 17 := t2.small (add_lt_pow HRW.out HON.out)
  have t1 := t1a.below b2
  have M1 := prod_mul t1 t1 (by omega)
  rw [val_words] at M1
  have HM1 := Lib.hid M1
  clear M1 b2 t1a hba HAD
  go_wp2_with fail
  refine HM1.out.mono ?_
  rintro e w3 ⟨A3, n3, c3, rfl, t3, b3⟩
  have hb3 := hb2.trans (b3.mono hb2.size)
  have l3 : n3 ≤ 32 := t3.small (mul_lt_powW HRW.out HRW.out)
  have t1' := t1.below b3
  have t2' := t2.below b3
  have C1 := HCM.out _ hb3 _ _ _ _ t3 (by omega)
  rw [val_words, ECM.out] at C1
  have M2 := prod_mul t2' t2' (by omega)
  rw [val_words] at M2
  have HC1 := Lib.hid C1
  have HM2 := Lib.hid M2
  clear C1 M2 b3 t1 t2 hb2 HM1
  go_wp2_with fail
  refine HC1.out.mono ?_
  rintro e w' ⟨rfl, rfl⟩
  go_wp2_with fail
  refine HM2.out.mono ?_
  rintro e w4 ⟨A4, n4, c4, rfl, t4, b4⟩
  have hb4 := hb3.trans (b4.mono hb3.size)
  have l4 : n4 ≤ 34 := t4.small (mul_lt_powW (add_lt_pow HRW.out HON.out) (add_lt_pow HRW.out HON.out))
  have t1 := t1'.below b4
  have t3' := t3.below b4
  have C4 := HCM.out _ hb4 _ _ _ _ t4 (by omega)
  rw [val_words, HC2.out] at C4
  have HC4 := Lib.hid C4
  have S4 := HSQ.out _ hb4
  rw [EBQ.out] at S4
  have HS4 := Lib.hid S4
  clear C4 S4 b4 t1' t2' t3 hb3 HC1 HM2
  go_wp2_with fail
  refine HC4.out.mono ?_
  rintro e w' ⟨rfl, rfl⟩
  go_wp2_with fail
  refine HS4.out.mono ?_
  rintro e w5 ⟨rfl, b5⟩
  have hb5 := hb4.trans (b5.mono hb4.size)
  have t1' := t1.below b5
  have C5 := HCM.out _ hb5 _ _ _ _ (t3'.below b5) (by omega)
  rw [val_words, ECM.out] at C5
  have HC5 := Lib.hid C5
  clear C5 b5 t1 t3' t4 hb4 HC4 HS4
  go_wp2_with fail
  refine HC5.out.mono ?_
  rintro e w' ⟨rfl, rfl⟩
  have hne : (bq != bq) = false := by cases bq <;> rfl
  go_wp2_with fail
  refine (HRR.out _ hb5).mono ?_
  rintro e w6 ⟨A6, n6, c6, rfl, t6, b6⟩
  have hb6 := hb5.trans (b6.mono hb5.size)
  have l6 : n6 ≤ 16 := t6.small HRW.out
  have W6 := plain_words (t1'.below b6) t6 (by omega) (by omega)
  rw [decide_eq_true rfl] at W6
  have HW6 := Lib.hid W6
  clear W6 b6 t1' t6 hb5 HC5
  go_wp2_with fail
  refine HW6.out.mono ?_
  rintro e w7 ⟨rfl, k7, rfl⟩
  have hb7 : Below w.heap.size w (w6.drewN k7) := Below.drewN' hb6 k7
  generalize w6.drewN k7 = w7 at hb7 ⊢
  clear hb6 HW6
  go_wp2_with fail
  refine (HMU.out _ hb7).mono ?_
  rintro e w8 ⟨A8, n8, c8, rfl, t8, b8⟩
  have hb8 := hb7.trans (b8.mono hb7.size)
  have l8 : n8 ≤ 32 := t8.small (mul_lt_powW HVA.out HVA.out)
  have S8 := quot_square t8 (by omega)
  rw [val_words, HSR.out, decide_eq_true rfl] at S8
  have HS8 := Lib.hid S8
  clear S8 b8 t8 hb7
  go_wp2_with fail
  refine HS8.out.mono ?_
  rintro e w9 ⟨rfl, b9⟩
  have hb9 := hb8.trans (b9.mono hb8.size)
  clear b9 hb8 HS8
  go_wp2_with fail
  refine (HS.out _).mono ?_
  rintro e w10 ⟨rfl, hb⟩
  go_wp2_with fail
  go_ret
  exact ⟨rfl, hb9.trans (hb.mono hb9.size)⟩

end Go.Proofs.Ytbaggejmnficgaa
