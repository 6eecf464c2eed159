/-
  The law WalkBack: the place of the element at a place is the place, and places rise. Conditions: the slice reads as a list of ints.
-/
import Derived.Test.YthhmofmncjodfaaWaF
namespace Go.Proofs.Ythhmofmncjodfaa
open Go.RowKit
set_option linter.unusedVariables false
set_option linter.unusedSimpArgs false

theorem atB_yes {d : List Int} {n : Int} (h : atB d n = true) : ∃ k : Nat, n = (k : Int) ∧ k < nE d ∧ atR d n = plc d k := by
  unfold atB at h
  rw [decide_eq_true_eq] at h
  obtain ⟨k, rfl⟩ : ∃ k : Nat, n = (k : Int) := ⟨n.toNat, by omega⟩
  have hk : k < nE d := by unfold nE; omega
  exact ⟨k, rfl, hk, atR_nat hk⟩
theorem plc_lex {d : List Int} {k m : Nat} (hk : k < nE d) (hm : m < nE d) : lexB (plc d k) (plc d m) = decide (k < m) := by
  obtain ⟨h0, h1⟩ := nE_pos hk
  obtain ⟨_, h2⟩ := nE_pos hm
  unfold plc
  rw [lex_num (placeN_val h1) (placeN_val h2), num_place h1, num_place h2]

set_option maxRecDepth 100000 in
set_option maxHeartbeats 4000000 in
theorem walkBack_walk (A : Option Addr) (n c : Nat) (xs : List Int) (p q : Int) (hp : (Lit.int .i64 p).wf = true) (hq : (Lit.int .i64 q).wf = true) (w : World) (h : SlZ w A n c xs) :
    Calls Try.prog 8 #[.slice A n c, .int .i64 p, .int .i64 q] w (RetBl true w) := by
  have M := law_many19 (w := w) (A := A) (B := none) (m := 0) (c := c) (e := 0) h.small (by omega)
  generalize (decide (100 < n) || decide (100 < 0)) = b at M
  have HM := Lib.hid M
  have HS := fun w1 (h9 : Below w.heap.size w w1) => Lib.hid (same20_from h9)
  clear M
  cases b
  case true =>
    go_enter Try.func8, Try.ntmps8
    go_wp2_with fail
    refine HM.out.mono ?_
    rintro _ _ ⟨rfl, rfl⟩
    go_wp2_with fail
    refine (HS _ (Below.refl _ _)).out.mono ?_
    rintro _ w2 ⟨rfl, hb⟩
    go_wp2_with fail
    go_ret
    exact ⟨rfl, hb⟩
  case false =>
    have T1 := wa_at h p
    have T2 := fun w1 (h9 : Below w.heap.size w w1) => wa_at (h.below h9) q
    cases hb1 : atB xs p
    case false =>
      rw [hb1, atR_no hb1] at T1
      have H1 := Lib.hid T1
      generalize atB xs q = b2 at T2
      generalize atR xs q = r2 at T2
      have H2 := Lib.hid T2
      clear T1 T2 hb1
      go_enter Try.func8, Try.ntmps8
      go_wp2_with fail
      refine HM.out.mono ?_
      rintro _ _ ⟨rfl, rfl⟩
      go_wp2_with fail
      refine H1.out.mono ?_
      rintro _ w1 ⟨A1, n1, c1, rfl, s1, _, _, b1⟩
      go_wp2_with fail
      refine (H2.out w1 b1).mono ?_
      rintro _ w2 ⟨A2, n2, c2, rfl, s2, _, _, b2'⟩
      have B2 := bb b1 b2'
      have P := wa_place (h.below B2) (s1.below b2')
      generalize plR xs [] = r3 at P
      generalize plB xs [] = b3 at P
      have HP := Lib.hid P
      clear P s1 s2
      go_wp2_with fail
      refine HP.out.mono ?_
      rintro _ w3 ⟨rfl, b4⟩
      have B3 := bb B2 b4
      go_wp2_with fail
      refine (HS _ B3).out.mono ?_
      rintro _ w2 ⟨rfl, b9⟩
      go_wp2_with fail
      go_ret
      exact ⟨rfl, b9⟩
    case true =>
      obtain ⟨k, rfl, hk, hr⟩ := atB_yes hb1
      rw [hb1, hr] at T1
      have H1 := Lib.hid T1
      obtain ⟨g1, g2⟩ := plc_place hk
      have hkk : ((k : Int) != (k : Int)) = false := by simp
      have hkk2 : (k != k) = false := by simp
      have G1 := Lib.hid g1
      have G2 := Lib.hid g2
      clear T1 hb1 hr g1 g2
      cases hb2 : atB xs q
      case false =>
        rw [hb2] at T2
        generalize atR xs q = r2 at T2
        have H2 := Lib.hid T2
        clear T2 hb2
        go_enter Try.func8, Try.ntmps8
        go_wp2_with fail
        refine HM.out.mono ?_
        rintro _ _ ⟨rfl, rfl⟩
        go_wp2_with fail
        refine H1.out.mono ?_
        rintro _ w1 ⟨A1, n1, c1, rfl, s1, _, _, b1⟩
        go_wp2_with fail
        refine (H2.out w1 b1).mono ?_
        rintro _ w2 ⟨A2, n2, c2, rfl, s2, _, _, b2'⟩
        have B2 := bb b1 b2'
        have P := wa_place (h.below B2) (s1.below b2')
        rw [G1.out, G2.out] at P
        have HP := Lib.hid P
        clear P s1 s2
        go_wp2_with fail
        refine HP.out.mono ?_
        rintro _ w3 ⟨rfl, b4⟩
        have B3 := bb B2 b4
        go_wp2_with fail
        refine (HS _ B3).out.mono ?_
        rintro _ w2 ⟨rfl, b9⟩
        go_wp2_with fail
        go_ret
        exact ⟨rfl, b9⟩
      case true =>
        obtain ⟨m, rfl, hm, hr⟩ := atB_yes hb2
        rw [hb2, hr] at T2
        have H2 := Lib.hid T2
        have hl1 := plc_lex hk hm
        have hl2 := plc_lex hm hk
        obtain ⟨x1, hx1⟩ : ∃ x, decide (k < m) = x := ⟨_, rfl⟩
        obtain ⟨x2, hx2⟩ : ∃ x, decide (m < k) = x := ⟨_, rfl⟩
        rw [hx1] at hl1
        rw [hx2] at hl2
        have hx3 : decide ((k : Int) < (m : Int)) = x1 := by rw [← hx1]; exact decide_eq_decide.2 (by omega)
        have hx4 : decide ((m : Int) < (k : Int)) = x2 := by rw [← hx2]; exact decide_eq_decide.2 (by omega)
        have L1 := Lib.hid hl1
        have L2 := Lib.hid hl2
        have hxx : (x1 != x1) = false := by simp
        have hyy : (x2 != x2) = false := by simp
        have hxx2 : (!(x1 == x1)) = false := by simp
        have hyy2 : (!(x2 == x2)) = false := by simp
        clear T2 hb2 hr hl1 hl2
        go_enter Try.func8, Try.ntmps8
        go_wp2_with fail
        refine HM.out.mono ?_
        rintro _ _ ⟨rfl, rfl⟩
        go_wp2_with fail
        refine H1.out.mono ?_
        rintro _ w1 ⟨A1, n1, c1, rfl, s1, _, _, b1⟩
        go_wp2_with fail
        refine (H2.out w1 b1).mono ?_
        rintro _ w2 ⟨A2, n2, c2, rfl, s2, _, _, b2'⟩
        have B2 := bb b1 b2'
        have s1' := s1.below b2'
        have P := wa_place (h.below B2) s1'
        rw [G1.out, G2.out] at P
        have HP := Lib.hid P
        have S1 := Lib.hid s1'
        have S2 := Lib.hid s2
        clear P s1 s2 s1'
        go_wp2_with fail
        refine HP.out.mono ?_
        rintro _ w3 ⟨rfl, b4⟩
        have B3 := bb B2 b4
        have E1 := wa_ahead (S1.out.below b4) (S2.out.below b4)
        have E2 := wa_ahead (S2.out.below b4) (S1.out.below b4)
        rw [L1.out] at E1
        rw [L2.out] at E2
        have HE1 := Lib.hid E1
        have HE2 := Lib.hid E2
        clear E1 E2 S1 S2 HP
        go_wp2_with fail
        refine HE1.out.mono ?_
        rintro _ _ ⟨rfl, rfl⟩
        go_wp2_with fail
        refine HE2.out.mono ?_
        rintro _ _ ⟨rfl, rfl⟩
        go_wp2_with fail
        refine (HS _ B3).out.mono ?_
        rintro _ w2 ⟨rfl, b9⟩
        go_wp2_with fail
        go_ret
        exact ⟨rfl, b9⟩

end Go.Proofs.Ythhmofmncjodfaa
