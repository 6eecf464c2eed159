/-
  The laws of layer 19 (shape): ShapeTells, ShapeDrops, ShapeWith. Conditions: the slices read as lists of ints.
-/
import Derived.Test.YthhmofmncjodfaaShJ
import Derived.Test.YthhmofmncjodfaaLnTy
namespace Go.Proofs.Ythhmofmncjodfaa
open Go.RowKit
set_option linter.unusedVariables false
set_option linter.unusedSimpArgs false

set_option maxHeartbeats 400000 in
theorem law_many19 {w : World} {A B : Option Addr} {n c m e : Nat} (hn : n ≤ 9223372036854775807) (hm : m ≤ 9223372036854775807) : Calls Try.prog 10 #[.slice A n c, .slice B m e] w (Just (.bool (decide (100 < n) || decide (100 < m))) w) := by
  obtain ⟨b1, hb1⟩ : ∃ b, decide (100 < n) = b := ⟨_, rfl⟩
  obtain ⟨b2, hb2⟩ : ∃ b, decide (100 < m) = b := ⟨_, rfl⟩
  have d1 : decide (100 < (n : Int)) = b1 := by rw [← hb1]; congr 1; exact propext (by omega)
  have d2 : decide (100 < (m : Int)) = b2 := by rw [← hb2]; congr 1; exact propext (by omega)
  rw [hb1, hb2]
  cases b1 <;> cases b2
  all_goals
    go_enter Try.func10, Try.ntmps10
    go_wp2_with fail
    go_ret
    exact ⟨rfl, rfl⟩

theorem IRow.lit (w : World) (zs : List Int) : IRow (w.alloc (.cells (zs.map (Value.int .i64)).toArray 3)) w.heap.size zs := Box.new w _ _
theorem i64_small {zs : List Int} (h : ∀ x ∈ zs, -1000 ≤ x ∧ x ≤ 1000) : ∀ x ∈ zs, I64 x := fun x hx => by have := h x hx; unfold I64; omega

set_option maxRecDepth 100000 in
set_option maxHeartbeats 2000000 in
theorem same19 (w : World) : Calls Try.prog 11 #[] w (RetBl true w) := by
  obtain ⟨V, hV, hr1, b1⟩ : ∃ V, w.alloc (.cells #[.int .i64 2, .int .i64 3, .int .i64 4] 3) = V ∧ IRow V w.heap.size [2, 3, 4] ∧ Below w.heap.size w V := ⟨_, rfl, IRow.lit w [2, 3, 4], below_alloc _ _⟩
  have S := sh_steps (hr1.slz (c := 3) (i64_small (by decide)) (by decide) (by unfold maxLen; omega))
  rw [show stps [2, 3, 4] = [12, 4, 1] by decide] at S
  have HS := Lib.hid S
  have HV := Lib.hid hV
  clear S hV hr1
  go_enter Try.func11, Try.ntmps11
  go_wp2_with fail
  rw [HV.out]
  refine HS.out.mono ?_
  rintro _ w1 ⟨A1, n1, c1, rfl, s1, _, bb1⟩
  have b2 := bb b1 bb1
  obtain rfl : n1 = 3 := s1.len.symm
  obtain ⟨g, o, x0, e0, rfl, hlt, _, k0⟩ := s1.get (j := 0) (by omega)
  obtain ⟨g', o', x1, e1, e9, _, _, k1⟩ := s1.get (j := 1) (by omega)
  injection e9 with e9; injection e9 with e8 e7; subst e8 e7
  obtain ⟨g', o', x2, e2, e9, _, _, k2⟩ := s1.get (j := 2) (by omega)
  injection e9 with e9; injection e9 with e8 e7; subst e8 e7
  subst e0 e1 e2
  simp only [Nat.add_zero] at k0
  obtain ⟨V2, hV2, hr2, b3⟩ : ∃ V2, w1.alloc (.cells #[.int .i64 8, .int .i64 9] 3) = V2 ∧ IRow V2 w1.heap.size [8, 9] ∧ Below w1.heap.size w1 V2 := ⟨_, rfl, IRow.lit w1 [8, 9], below_alloc _ _⟩
  have C := sh_check (hr2.slz (c := 2) (i64_small (by decide)) (by decide) (by unfold maxLen; omega))
  rw [show chk [8, 9] = 12 by decide] at C
  obtain ⟨V3, hV3, hr3, b4⟩ : ∃ V3, V2.alloc (.cells #[.int .i64 8, .int .i64 8] 3) = V3 ∧ IRow V3 V2.heap.size [8, 8] ∧ Below V2.heap.size V2 V3 := ⟨_, rfl, IRow.lit V2 [8, 8], below_alloc _ _⟩
  have N := sh_count (hr3.slz (c := 2) (i64_small (by decide)) (by decide) (by unfold maxLen; omega))
  rw [show cntZ [8, 8] = 64 by decide] at N
  have b5 := bb (bb b2 b3) b4
  have HC := Lib.hid C
  have HN := Lib.hid N
  have HV2 := Lib.hid hV2
  have HV3 := Lib.hid hV3
  clear C N hV2 hV3 hr2 hr3 s1 HS b1 bb1
  go_wp2_with fail
  rw [HV2.out]
  refine HC.out.mono ?_
  rintro _ _ ⟨rfl, rfl⟩
  go_wp2_with fail
  rw [HV3.out]
  refine HN.out.mono ?_
  rintro _ _ ⟨rfl, rfl⟩
  go_wp2_with fail
  go_ret
  exact ⟨rfl, b5⟩

theorem same19_from {w w' : World} (h : Below w.heap.size w w') : Calls Try.prog 11 #[] w' (RetBl true w) := (same19 w').mono fun _ _ ⟨he, hb⟩ => ⟨he, bb h hb⟩

set_option maxRecDepth 100000 in
set_option maxHeartbeats 2000000 in
theorem shapeTells_walk (A : Option Addr) (n c : Nat) (xs : List Int) (B : Option Addr) (m e : Nat) (ys : List Int) (w : World) (h : SlZ w A n c xs) (h' : SlZ w B m e ys) :
    Calls Try.prog 3 #[.slice A n c, .slice B m e] w (RetBl true w) := by
  have M := law_many19 (w := w) (A := A) (B := B) (c := c) (e := e) h.small h'.small
  generalize (decide (100 < n) || decide (100 < m)) = b at M
  have HM := Lib.hid M
  have HS := fun w1 (h9 : Below w.heap.size w w1) => Lib.hid (same19_from h9)
  clear M
  cases b
  case true =>
    go_enter Try.func3, Try.ntmps3
    go_wp2_with fail
    refine HM.out.mono ?_
    rintro _ _ ⟨rfl, rfl⟩
    go_wp2_with fail
    refine (HS _ (Below.refl _ _)).out.mono ?_
    rintro _ w2 ⟨rfl, hb⟩
    go_wp2_with fail
    go_ret
    exact ⟨rfl, hb⟩
  case false =>
    have C1 := sh_check h
    have C2 := ref_check19 h
    have N1 := sh_count h
    have N2 := ref_count19 h
    generalize chk xs = z1 at C1 C2
    generalize cntZ xs = z2 at N1 N2
    have HC1 := Lib.hid C1
    have HC2 := Lib.hid C2
    have HN1 := Lib.hid N1
    have HN2 := Lib.hid N2
    have HS1 := Lib.hid (sh_steps h)
    clear C1 C2 N1 N2
    go_enter Try.func3, Try.ntmps3
    go_wp2_with fail
    refine HM.out.mono ?_
    rintro _ _ ⟨rfl, rfl⟩
    go_wp2_with fail
    refine HC1.out.mono ?_
    rintro _ _ ⟨rfl, rfl⟩
    go_wp2_with fail
    refine HC2.out.mono ?_
    rintro _ _ ⟨rfl, rfl⟩
    go_wp2_with fail
    refine HN1.out.mono ?_
    rintro _ _ ⟨rfl, rfl⟩
    go_wp2_with fail
    refine HN2.out.mono ?_
    rintro _ _ ⟨rfl, rfl⟩
    go_wp2_with fail
    refine HS1.out.mono ?_
    rintro _ w1 ⟨A1, n1, c1, rfl, s1, _, b1⟩
    have HS2 := Lib.hid (ref_steps19 (h.below b1))
    have S1 := Lib.hid s1
    clear s1
    go_wp2_with fail
    refine HS2.out.mono ?_
    rintro _ w2 ⟨A2, n2, c2, rfl, s2, _, b2⟩
    have P := pl_ints (S1.out.below b2) s2
    rw [decide_eq_true rfl] at P
    have HP := Lib.hid P
    have b3 := bb b1 b2
    clear s2 P
    go_wp2_with fail
    refine HP.out.mono ?_
    rintro _ _ ⟨rfl, k, rfl⟩
    have b4 : Below w.heap.size w (w2.drewN k) := Below.drewN' b3 k
    generalize w2.drewN k = w3 at b4 ⊢
    have E1 := sh_same (h.below b4) (h'.below b4)
    have E2 := fun k => ref_same19 ((h.below b4).drewN k) ((h'.below b4).drewN k)
    generalize decide (xs = ys) = bv at E1 E2
    have HE1 := Lib.hid E1
    have HE2 := Lib.hid E2
    clear E1 E2
    go_wp2_with fail
    refine HE1.out.mono ?_
    rintro _ _ ⟨rfl, k1, rfl⟩
    go_wp2_with fail
    refine (HE2.out _).mono ?_
    rintro _ _ ⟨rfl, k2, rfl⟩
    have b5 : Below w.heap.size w ((w3.drewN k1).drewN k2) := Below.drewN' (Below.drewN' b4 k1) k2
    generalize (w3.drewN k1).drewN k2 = w5 at b5 ⊢
    have hbb : (bv == bv) = true := by simp
    go_wp2_with fail
    refine (HS _ b5).out.mono ?_
    rintro _ w6 ⟨rfl, b6⟩
    go_wp2_with fail
    go_ret
    exact ⟨rfl, b6⟩

end Go.Proofs.Ythhmofmncjodfaa
