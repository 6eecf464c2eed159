/-
  The walks of the three laws of layer 1: each returns true for any three words. Conditions: the arguments are 64-bit words.
-/
import Derived.Test.YthdcnaibehghdaaLimbDiv
namespace Go.Proofs.Ythdcnaibehghdaa
open Go.RowKit
set_option linter.unusedVariables false
set_option linter.unusedSimpArgs false

theorem grown_drewN (w : World) (n : Nat) : Grown w (w.drewN n) := by
  induction n with
  | zero => exact Grown.refl _
  | succ n ih => exact ih.drew

theorem same_add (w : World) : Calls Try.prog 10 #[.int .u64 18446744073709551615, .int .u64 1, .int .u64 0] w fun e w' => e = .returned (.tuple #[.int .u64 0, .int .u64 1]) ∧ w = w' :=
  limb_add 18446744073709551615 1 0 (by unfold U; omega) U_1 U_0 w
theorem same_div (w : World) : Calls Try.prog 17 #[.int .u64 1, .int .u64 1, .int .u64 2] w fun e w' => e = .returned (.tuple #[.int .u64 9223372036854775808, .int .u64 1, .bool true]) ∧ ∃ n, w' = w.drewN n :=
  limb_div_yes 1 1 2 U_1 U_1 (by unfold U; omega) (by omega) w
theorem same_len (w : World) : Calls Try.prog 19 #[.int .u64 5] w fun e w' => e = .returned (.int .i64 3) ∧ w = w' :=
  limb_len 5 (by unfold U; omega) w

set_option maxHeartbeats 400000 in
theorem same01 (w : World) : Calls Try.prog 14 #[] w fun e w' => e = .returned (.bool true) ∧ ∃ n, w' = w.drewN n := by
  go_enter Try.func14, Try.ntmps14
  go_wp2_with fail
  refine (same_add _).mono ?_
  rintro e w' ⟨rfl, rfl⟩
  go_wp2_with fail
  refine (same_div _).mono ?_
  rintro e w' ⟨rfl, n, rfl⟩
  go_wp2_with fail
  refine (same_len _).mono ?_
  rintro e w' ⟨rfl, rfl⟩
  go_wp2_with fail
  go_ret
  exact ⟨rfl, n, rfl⟩

set_option maxHeartbeats 400000 in
theorem limbAdds_walk (a b c : Int) (w0 : (Lit.int .u64 a).wf = true) (w1 : (Lit.int .u64 b).wf = true) (w2 : (Lit.int .u64 c).wf = true) (w : World) :
    Calls Try.prog 3 #[.int .u64 a, .int .u64 b, .int .u64 c] w fun e w' => e = .returned (.bool true) ∧ Grown w w' := by
  have ha := U_of_wf w0
  have hb := U_of_wf w1
  have hc := U_of_wf w2
  clear w0 w1 w2
  go_enter Try.func3, Try.ntmps3
  go_wp2_with fail
  refine (limb_add _ _ _ ha hb hc _).mono ?_
  rintro e w' ⟨rfl, rfl⟩
  go_wp2_with fail
  refine (ref_add _ _ _ ha hb hc _).mono ?_
  rintro e w' ⟨rfl, rfl⟩
  go_wp2_with fail
  refine (limb_sub _ _ _ ha hb hc _).mono ?_
  rintro e w' ⟨rfl, rfl⟩
  go_wp2_with fail
  refine (ref_sub _ _ _ ha hb hc _).mono ?_
  rintro e w' ⟨rfl, rfl⟩
  go_wp2_with fail
  refine (same01 _).mono ?_
  rintro e w' ⟨rfl, n, rfl⟩
  go_wp2_with fail
  go_ret
  exact ⟨rfl, grown_drewN _ _⟩

/-- a quotient of two words by one, or nothing -/
def dq (h l d : Int) : Int := if h < d then (h * 18446744073709551616 + l) / d else 0
def dr (h l d : Int) : Int := if h < d then (h * 18446744073709551616 + l) % d else 0
def dk (h d : Int) : Bool := decide (h < d)
theorem limb_div (h l d : Int) (hh : U h) (hl : U l) (hd : U d) (w : World) :
    Calls Try.prog 17 #[.int .u64 h, .int .u64 l, .int .u64 d] w fun e w' => e = .returned (.tuple #[.int .u64 (dq h l d), .int .u64 (dr h l d), .bool (dk h d)]) ∧ ∃ n, w' = w.drewN n := by
  by_cases c : h < d
  · refine (limb_div_yes h l d hh hl hd c w).mono fun e w' ⟨he, hw⟩ => ⟨?_, hw⟩
    rw [he]; exact ret3 (by simp [dq, c]) (by simp [dr, c]) (by simp [dk, c])
  · refine (limb_div_no h l d (by omega) w).mono fun e w' ⟨he, hw⟩ => ⟨?_, 0, hw.symm⟩
    rw [he]; exact ret3 (by simp [dq, c]) (by simp [dr, c]) (by simp [dk, c])
theorem ref_div (h l d : Int) (hh : U h) (hl : U l) (hd : U d) (w : World) :
    Calls Try.prog 18 #[.int .u64 h, .int .u64 l, .int .u64 d] w fun e w' => e = .returned (.tuple #[.int .u64 (dq h l d), .int .u64 (dr h l d), .bool (dk h d)]) ∧ w = w' := by
  by_cases c : h < d
  · refine (ref_div_yes h l d hh hl hd c w).mono fun e w' ⟨he, hw⟩ => ⟨?_, hw⟩
    rw [he]; exact ret3 (by simp [dq, c]) (by simp [dr, c]) (by simp [dk, c])
  · refine (ref_div_no h l d (by omega) w).mono fun e w' ⟨he, hw⟩ => ⟨?_, hw⟩
    rw [he]; exact ret3 (by simp [dq, c]) (by simp [dr, c]) (by simp [dk, c])

set_option maxHeartbeats 400000 in
theorem limbProducts_walk (a b d : Int) (w0 : (Lit.int .u64 a).wf = true) (w1 : (Lit.int .u64 b).wf = true) (w2 : (Lit.int .u64 d).wf = true) (w : World) :
    Calls Try.prog 4 #[.int .u64 a, .int .u64 b, .int .u64 d] w fun e w' => e = .returned (.bool true) ∧ Grown w w' := by
  have ha := U_of_wf w0
  have hb := U_of_wf w1
  have hd := U_of_wf w2
  clear w0 w1 w2
  go_enter Try.func4, Try.ntmps4
  go_wp2_with fail
  refine (limb_mul _ _ ha hb _).mono ?_
  rintro e w' ⟨rfl, rfl⟩
  go_wp2_with fail
  refine (ref_mul _ _ ha hb _).mono ?_
  rintro e w' ⟨rfl, rfl⟩
  go_wp2_with fail
  refine (limb_div _ _ _ ha hb hd _).mono ?_
  rintro e w' ⟨rfl, n, rfl⟩
  go_wp2_with fail
  refine (ref_div _ _ _ ha hb hd _).mono ?_
  rintro e w' ⟨rfl, rfl⟩
  go_wp2_with fail
  refine (limb_len _ ha _).mono ?_
  rintro e w' ⟨rfl, rfl⟩
  go_wp2_with fail
  refine (ref_len _ ha _).mono ?_
  rintro e w' ⟨rfl, rfl⟩
  go_wp2_with fail
  refine (same01 _).mono ?_
  rintro e w' ⟨rfl, n2, rfl⟩
  go_wp2_with fail
  go_ret
  exact ⟨rfl, grown_drewN _ _⟩

set_option maxHeartbeats 400000 in
theorem limbBack_walk (q d r : Int) (w0 : (Lit.int .u64 q).wf = true) (w1 : (Lit.int .u64 d).wf = true) (w2 : (Lit.int .u64 r).wf = true) (w : World) :
    Calls Try.prog 5 #[.int .u64 q, .int .u64 d, .int .u64 r] w fun e w' => e = .returned (.bool true) ∧ Grown w w' := by
  have hq := U_of_wf w0
  have hd := U_of_wf w1
  have hr := U_of_wf w2
  clear w0 w1 w2
  have e1 : lo64 (lo64 (q + d + r) - d - r) = q := back_lo hq
  have e2 : bor (lo64 (q + d + r) - d - r) = hi64 (q + d + r) := back_hi hq
  by_cases c : d ≤ r
  · go_enter Try.func5, Try.ntmps5
    go_wp2_with fail
    refine (limb_add _ _ _ hq hd hr _).mono ?_
    rintro e w' ⟨rfl, rfl⟩
    go_wp2_with fail
    refine (limb_sub _ _ _ (U_lo _) hd hr _).mono ?_
    rintro e w' ⟨rfl, rfl⟩
    go_wp2_with fail
    refine (same01 _).mono ?_
    rintro e w' ⟨rfl, n, rfl⟩
    go_wp2_with fail
    go_ret
    exact ⟨rfl, grown_drewN _ _⟩
  · obtain ⟨b1, b2, b3, b0⟩ := back_div hq hd hr (by omega)
    have b4 : IntKind.u64.wrap (hi64 (q * d + r)) = hi64 (q * d + r) := by rw [wrapU_lo, lo_U]; unfold U at hd ⊢; omega
    obtain ⟨b5, b6⟩ := back_quot hd hr (show r < d by omega) (q := q)
    have b7 : dq (hi64 (q * d + r)) (lo64 (q * d + r)) d = q := by unfold dq; rw [if_pos b3]; exact b5
    have b8 : dr (hi64 (q * d + r)) (lo64 (q * d + r)) d = r := by unfold dr; rw [if_pos b3]; exact b6
    have b9 : dk (hi64 (q * d + r)) d = true := by unfold dk; simp [b3]
    clear b5 b6
    go_enter Try.func5, Try.ntmps5
    go_wp2_with fail
    refine (limb_add _ _ _ hq hd hr _).mono ?_
    rintro e w' ⟨rfl, rfl⟩
    go_wp2_with fail
    refine (limb_sub _ _ _ (U_lo _) hd hr _).mono ?_
    rintro e w' ⟨rfl, rfl⟩
    go_wp2_with fail
    refine (limb_mul _ _ hq hd _).mono ?_
    rintro e w' ⟨rfl, rfl⟩
    go_wp2_with fail
    refine (limb_add _ _ _ (U_lo _) hr U_0 _).mono ?_
    rintro e w' ⟨rfl, rfl⟩
    go_wp2_with fail
    refine (limb_div _ _ _ (by unfold U at hd ⊢; omega) (U_lo _) hd _).mono ?_
    rintro e w' ⟨rfl, n1, rfl⟩
    go_wp2_with fail
    refine (same01 _).mono ?_
    rintro e w' ⟨rfl, n, rfl⟩
    go_wp2_with fail
    go_ret
    exact ⟨rfl, grown_drewN _ _⟩

end Go.Proofs.Ythdcnaibehghdaa
