/-
  Words that the laws of powers use: gradinelaw08.same and right; a power whatever the exponent.
-/
import Derived.Test.YtnheefhbchkbdaaDoorPowBits
import Derived.Test.YtnheefhbchkbdaaDoorPowFloor
import Derived.Test.YtnheefhbchkbdaaDoorPowPow2
import Derived.Test.YtnheefhbchkbdaaDoorPowShow
import Derived.Test.YtnheefhbchkbdaaDoorPowRead2
namespace Go.Proofs.YtnheefhbchkbdaaDoor
set_option maxRecDepth 100000
open Go.RowKit
set_option linter.unusedVariables false
set_option linter.unusedSimpArgs false

theorem str_eq {s : ByteArray} {l : List UInt8} (h : by_ s = l) : s = str l := by rw [← h, str_by]
theorem inv_pow_ (X : Rat) (k : Nat) : X⁻¹ ^ k = (X ^ k)⁻¹ := by
  induction k with
  | zero => rw [Rat.pow_zero, Rat.pow_zero]; exact (Rat.inv_eq_of_mul_eq_one (Rat.one_mul 1)).symm
  | succ k ih => rw [Rat.pow_succ, Rat.pow_succ, ih, Rat.inv_mul_rev, Rat.mul_comm]
theorem zpow_nat (X : Rat) (k : Nat) : X ^ (k : Int) = X ^ k := Rat.zpow_natCast X k
theorem zpow_negNat (X : Rat) (k : Nat) : X ^ (-(k : Int)) = X⁻¹ ^ k := by rw [Rat.zpow_neg, zpow_nat, inv_pow_]
theorem pow_add_ (X : Rat) (m n : Nat) : X ^ m * X ^ n = X ^ (m + n) := by
  induction n with
  | zero => rw [Rat.pow_zero, Rat.mul_one, Nat.add_zero]
  | succ n ih => rw [Rat.pow_succ, ← Rat.mul_assoc, ih, ← Nat.add_assoc, Rat.pow_succ]
theorem zpow_add_ (X : Rat) (m n : Int) (h : X ≠ 0 ∨ (0 ≤ m ∧ 0 ≤ n)) : X ^ m * X ^ n = X ^ (m + n) := by
  by_cases h0 : X = 0
  · obtain ⟨h1, h2⟩ := h.resolve_left (fun e => e h0)
    obtain ⟨a, rfl⟩ := Int.eq_ofNat_of_zero_le h1
    obtain ⟨b, rfl⟩ := Int.eq_ofNat_of_zero_le h2
    rw [zpow_nat, zpow_nat, ← Int.natCast_add, zpow_nat, pow_add_]
  · exact (Rat.zpow_add h0 m n).symm
theorem Sz.zpow {X : Rat} {N : Nat} (h : Sz X N) (i : Int) : Sz (X ^ i) (N * i.natAbs + 1) := by
  rcases Int.le_total 0 i with h0 | h0
  · obtain ⟨k, rfl⟩ := Int.eq_ofNat_of_zero_le h0
    rw [zpow_nat, Int.natAbs_natCast]; exact h.pow
  · obtain ⟨k, hk⟩ := Int.eq_ofNat_of_zero_le (show 0 ≤ -i by omega)
    obtain rfl : i = -(k : Int) := by omega
    rw [zpow_negNat, Int.natAbs_neg, Int.natAbs_natCast]
    exact h.inv.pow
/-- a power, whatever the exponent from -64 to 64 -/
theorem pw_pow_any {w : World} {s : Bool} {A A' : Option Addr} {n n' c c' N : Nat} {X : Rat} (h : Q w s A n c A' n' c' X) (hX : Sz X N) (hN : N ≤ 100) (i : Int) (h1 : -64 ≤ i) (h2 : i ≤ 64) (h0 : X ≠ 0 ∨ 0 ≤ i) :
    Calls Tryd.prog 8 #[.agg #[.bool s, .slice A n c, .slice A' n' c'], .int .i64 i] w (RetQE (X ^ i) 0 w) := by
  by_cases hi : 0 ≤ i
  · obtain ⟨k, rfl⟩ := Int.eq_ofNat_of_zero_le hi
    rw [zpow_nat]
    exact pw_pow_nat h hX hN k (by omega)
  · obtain ⟨k, hk⟩ := Int.eq_ofNat_of_zero_le (show 0 ≤ -i by omega)
    obtain rfl : i = -(k : Int) := by omega
    rw [zpow_negNat]
    exact pw_pow_neg h hX hN (h0.resolve_right hi) k (by omega) (by omega)

set_option maxHeartbeats 1000000 in
theorem right08 {w : World} {s : Bool} {A A' : Option Addr} {n n' c c' : Nat} {xs ys : List Int} (k : Nat) (hk : k ≤ 100) (h : Sl w A n c xs) (h' : Sl w A' n' c' ys) :
    Calls Tryd.prog 5 #[.agg #[.bool s, .slice A n c, .slice A' n' c'], .int .i64 (k : Int)] w (RetBl (decide (n ≤ k ∧ n' ≤ k) && rightB s xs ys) w) := by
  have L := fun w1 => plain_long (w := w1) (s := s) (A := A) (A' := A') (n := n) (n' := n') (c := c) (c' := c') (k : Int)
  obtain ⟨V, hV, B, hb0⟩ := box0 24 w #[.bool s, .slice A n c, .slice A' n' c']
  by_cases hl : n ≤ k ∧ n' ≤ k
  · rw [decide_eq_false (by omega)] at L
    have R := fun w1 (hb : Below w.heap.size w w1) => ref_ratRight (s := s) (N := k) (h.below hb) (h'.below hb) hl.1 hl.2 (by omega)
    rw [decide_eq_true hl, Bool.true_and]
    generalize rightB s xs ys = r at *
    have HL := Lib.hid L
    have HR := Lib.hid R
    have HV := Lib.hid hV
    clear L R hV hl
    go_enter Tryd.func5, Tryd.ntmps5
    go_wp2_with fail
    rw [HV.out]
    refine (HL.out _).mono ?_
    rintro _ w1 ⟨rfl, b1⟩
    obtain ⟨⟨k0, k1, k2⟩, _, _, _⟩ := (B.below' b1).three
    go_wp2_with fail
    refine (HR.out _ (bb hb0 b1)).mono ?_
    rintro _ w2 ⟨rfl, b2⟩
    go_wp2_with fail
    go_ret
    exact ⟨rfl, bb hb0 (bb b1 b2)⟩
  · rw [decide_eq_true (by omega)] at L
    rw [decide_eq_false hl, Bool.false_and]
    have HL := Lib.hid L
    have HV := Lib.hid hV
    clear L hV hl
    go_enter Tryd.func5, Tryd.ntmps5
    go_wp2_with fail
    rw [HV.out]
    refine (HL.out _).mono ?_
    rintro _ w1 ⟨rfl, b1⟩
    go_wp2_with fail
    go_ret
    exact ⟨rfl, bb hb0 b1⟩
theorem right08_Q {w : World} {s : Bool} {A A' : Option Addr} {n n' c c' k : Nat} {xs ys : List Int} (h : Sl w A n c xs) (h' : Sl w A' n' c' ys) (hr : (decide (n ≤ k ∧ n' ≤ k) && rightB s xs ys) = true) :
    ∃ X, Q w s A n c A' n' c' X ∧ Sz X k := by
  rw [Bool.and_eq_true, decide_eq_true_eq] at hr
  obtain ⟨X, h1, h2, _⟩ := right_Q h h' hr.1.1 hr.1.2 hr.2
  exact ⟨X, h1, h2⟩

/-- -2/3 and its power -/
def m23 : Rat := rq true 2 3
theorem m23_read : rqe [45, 50, 47, 51] = 0 ∧ rqv [45, 50, 47, 51] = m23 := by decide +kernel
theorem m23_txt : txtQ m23 = [45, 50, 47, 51] := by decide +kernel
theorem m23_pow : m23⁻¹ ^ 3 = rq true 27 8 := by decide +kernel
theorem m278_txt : txtQ (rq true 27 8) = [45, 50, 55, 47, 56] := by decide +kernel
theorem m278_bits : max (blen (rq true 27 8).num.natAbs : Int) (blen (rq true 27 8).den) = 5 := by decide +kernel
theorem m23_sz : Sz m23 1 := rq_sz (by decide) (by rw [Nat.pow_one]; decide) (by rw [Nat.pow_one]; decide)
theorem m278_sz : Sz (rq true 27 8) 1 := rq_sz (by decide) (by rw [Nat.pow_one]; decide) (by rw [Nat.pow_one]; decide)
theorem m23_ne : m23 ≠ 0 := by decide +kernel

set_option maxRecDepth 100000 in
set_option maxHeartbeats 4000000 in
theorem same08 (w : World) : Calls Tryd.prog 7 #[] w (RetBl true w) := by
  have RD := fun w1 => pw_read ⟨#[45, 50, 47, 51]⟩ (by decide) w1
  rw [show by_ ⟨#[45, 50, 47, 51]⟩ = [45, 50, 47, 51] from rfl, m23_read.1, m23_read.2] at RD
  have PW := fun (w1 : World) (s : Bool) (A A' : Option Addr) (n n' c c' : Nat) (h : Q w1 s A n c A' n' c' m23) => pw_pow_neg h m23_sz (by omega) m23_ne 3 (by omega) (by omega)
  rw [m23_pow] at PW
  simp only [show (-((3 : Nat) : Int)) = -3 from rfl] at PW
  have S1 := fun (w1 : World) (s : Bool) (A A' : Option Addr) (n n' c c' : Nat) (h : Q w1 s A n c A' n' c' m23) => pw_show h (m23_sz.mono (by omega))
  have S2 := fun (w1 : World) (s : Bool) (A A' : Option Addr) (n n' c c' : Nat) (h : Q w1 s A n c A' n' c' (rq true 27 8)) => pw_show h (m278_sz.mono (by omega))
  have BT := fun (w1 : World) (s : Bool) (A A' : Option Addr) (n n' c c' : Nat) (h : Q w1 s A n c A' n' c' (rq true 27 8)) => pw_bits h m278_sz (by omega)
  rw [m23_txt] at S1
  rw [m278_txt] at S2
  rw [m278_bits] at BT
  generalize rq true 27 8 = Y at *
  generalize m23 = X at *
  have HRD := Lib.hid RD
  have HPW := Lib.hid PW
  have HS1 := Lib.hid S1
  have HS2 := Lib.hid S2
  have HBT := Lib.hid BT
  clear RD PW S1 S2 BT
  go_enter Tryd.func7, Tryd.ntmps7
  go_wp2_with fail
  refine (HRD.out _).mono ?_
  rintro _ w1 (⟨_, s1, A1, n1, c1, D1, m1, d1, rfl, q1, b1⟩ | ⟨hne, _⟩)
  rotate_left
  · exact absurd rfl hne
  obtain ⟨w2, hV2, Bx2, b2⟩ := box0 24 w1 #[.bool s1, .slice A1 n1 c1, .slice D1 m1 d1]
  have HV2 := Lib.hid hV2
  clear hV2
  go_wp2_with fail
  rw [HV2.out]
  clear HV2
  refine (HPW.out _ _ _ _ _ _ _ _ (q1.below b2)).mono ?_
  rintro _ w3 ⟨s3, A3, n3, c3, D3, m3, d3, rfl, q3, b3⟩
  have Bx3 := Bx2.below' b3
  have hz3 := Bx3.lt
  obtain ⟨⟨k0, k1, k2⟩, _, _, _⟩ := Bx3.three
  obtain ⟨w4, hV4, Bx4, b4⟩ := box0 24 w3 #[.bool s3, .slice A3 n3 c3, .slice D3 m3 d3]
  have HV4 := Lib.hid hV4
  clear hV4
  go_wp2_with fail
  rw [HV4.out]
  clear HV4 k0 k1 k2 hz3
  refine (HS1.out _ _ _ _ _ _ _ _ (((q1.below b2).below b3).below b4)).mono ?_
  rintro _ w5 ⟨t5, rfl, e5, b5⟩
  obtain rfl : t5 = ⟨#[45, 50, 47, 51]⟩ := str_eq e5
  clear e5
  obtain ⟨⟨j0, j1, j2⟩, _, _, _⟩ := (Bx4.below' b5).three
  go_wp2_with fail
  refine (HS2.out _ _ _ _ _ _ _ _ ((q3.below b4).below b5)).mono ?_
  rintro _ w6 ⟨t6, rfl, e6, b6⟩
  obtain rfl : t6 = ⟨#[45, 50, 55, 47, 56]⟩ := str_eq e6
  clear e6 j0 j1 j2
  obtain ⟨⟨j0, j1, j2⟩, _, _, _⟩ := (Bx4.below' (bb b5 b6)).three
  go_wp2_with fail
  refine (HBT.out _ _ _ _ _ _ _ _ (((q3.below b4).below b5).below b6)).mono ?_
  rintro _ w7 ⟨rfl, b7⟩
  go_wp2_with fail
  go_ret
  exact ⟨rfl, bb b1 (bb b2 (bb b3 (bb b4 (bb b5 (bb b6 b7)))))⟩

end Go.Proofs.YtnheefhbchkbdaaDoor
