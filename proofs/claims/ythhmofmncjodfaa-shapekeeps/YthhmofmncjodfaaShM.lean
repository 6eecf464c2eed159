/-
  The laws of layer 19 (shape): ShapeDrops, ShapeWith. Conditions: the slices read as lists of ints.
-/
import Derived.Test.YthhmofmncjodfaaShL
namespace Go.Proofs.Ythhmofmncjodfaa
open Go.RowKit
set_option linter.unusedVariables false
set_option linter.unusedSimpArgs false

set_option maxRecDepth 100000 in
set_option maxHeartbeats 4000000 in
theorem shapeDrops_walk (A : Option Addr) (n c : Nat) (xs : List Int) (B : Option Addr) (m e : Nat) (ys : List Int) (keep : Bool) (w : World) (h : SlZ w A n c xs) (h' : SlZ w B m e ys) :
    Calls Try.prog 4 #[.slice A n c, .slice B m e, .bool keep] w (RetBl true w) := by
  have M := law_many19 (w := w) (A := A) (B := B) (c := c) (e := e) h.small h'.small
  generalize (decide (100 < n) || decide (100 < m)) = b at M
  have HM := Lib.hid M
  have HS := fun w1 (h9 : Below w.heap.size w w1) => Lib.hid (same19_from h9)
  clear M
  cases b
  case true =>
    go_enter Try.func4, Try.ntmps4
    go_wp2_with fail
    refine HM.out.mono ?_
    rintro _ _ ⟨rfl, rfl⟩
    go_wp2_with fail
    refine (HS _ (Below.refl _ _)).out.mono ?_
    rintro _ w2 ⟨rfl, hb⟩
    go_wp2_with fail
    go_ret
    exact ⟨rfl, hb⟩
  case false =>
    have X1 := fun w1 (h9 : Below w.heap.size w w1) => sh_axes (h'.below h9) (n : Int)
    have X2 := fun w1 (h9 : Below w.heap.size w w1) => ref_axes19 (h'.below h9) (n : Int)
    have D1 := fun w1 (h9 : Below w.heap.size w w1) => sh_drop (h.below h9) (h'.below h9) keep
    have D2 := fun w1 (h9 : Below w.heap.size w w1) => ref_drop19 (h.below h9) (h'.below h9) keep
    have P1 := fun w1 (h9 : Below w.heap.size w w1) => sh_perm (h.below h9) (h'.below h9)
    have P2 := fun w1 (h9 : Below w.heap.size w w1) => ref_perm19 (h.below h9) (h'.below h9)
    generalize axR n ys = ar at X1 X2
    generalize axE n ys = ae at X1 X2
    generalize dropR xs ys keep = dr at D1 D2
    generalize dropE xs ys = de at D1 D2
    generalize permR xs ys = pr at P1 P2
    generalize permE xs ys = pe at P1 P2
    have HX1 := Lib.hid X1
    have HX2 := Lib.hid X2
    have HD1 := Lib.hid D1
    have HD2 := Lib.hid D2
    have HP1 := Lib.hid P1
    have HP2 := Lib.hid P2
    clear X1 X2 D1 D2 P1 P2
    have ea : (ae == ae) = true := by simp
    have ed : (de == de) = true := by simp
    have ep : (pe == pe) = true := by simp
    go_enter Try.func4, Try.ntmps4
    go_wp2_with fail
    refine HM.out.mono ?_
    rintro _ _ ⟨rfl, rfl⟩
    go_wp2_with fail
    refine (HX1.out _ (Below.refl _ _)).mono ?_
    rintro _ w1 ⟨A1, n1, c1, rfl, s1, b1⟩
    have S1 := Lib.hid s1
    clear s1
    go_wp2_with fail
    refine (HX2.out _ b1).mono ?_
    rintro _ w2 ⟨A2, n2, c2, rfl, s2, b2⟩
    have S1' := Lib.hid (S1.out.below b2)
    have S2 := Lib.hid s2
    have B2 := bb b1 b2
    clear s2 S1 b1 b2
    go_wp2_with fail
    refine (HD1.out _ B2).mono ?_
    rintro _ w3 ⟨A3, n3, c3, rfl, s3, _, b3⟩
    have S1 := Lib.hid (S1'.out.below b3)
    have S2' := Lib.hid (S2.out.below b3)
    have S3 := Lib.hid s3
    have B3 := bb B2 b3
    clear s3 S1' S2 B2 b3
    go_wp2_with fail
    refine (HD2.out _ B3).mono ?_
    rintro _ w4 ⟨A4, n4, c4, rfl, s4, _, b4⟩
    have S1' := Lib.hid (S1.out.below b4)
    have S2 := Lib.hid (S2'.out.below b4)
    have S3' := Lib.hid (S3.out.below b4)
    have S4 := Lib.hid s4
    have B4 := bb B3 b4
    clear s4 S1 S2' S3 B3 b4
    go_wp2_with fail
    refine (HP1.out _ B4).mono ?_
    rintro _ w5 ⟨A5, n5, c5, rfl, s5, _, b5⟩
    have S1 := Lib.hid (S1'.out.below b5)
    have S2' := Lib.hid (S2.out.below b5)
    have S3 := Lib.hid (S3'.out.below b5)
    have S4' := Lib.hid (S4.out.below b5)
    have S5 := Lib.hid s5
    have B5 := bb B4 b5
    clear s5 S1' S2 S3' S4 B4 b5
    go_wp2_with fail
    refine (HP2.out _ B5).mono ?_
    rintro _ w6 ⟨A6, n6, c6, rfl, s6, _, b6⟩
    have E1 := pl_bools (S1.out.below b6) (S2'.out.below b6)
    have E2 := fun k => pl_ints ((S3.out.below b6).drewN k) ((S4'.out.below b6).drewN k)
    have E3 := fun k => pl_ints ((S5.out.below b6).drewN k) (s6.drewN k)
    rw [decide_eq_true rfl] at E1
    simp only [decide_true] at E2 E3
    have HE1 := Lib.hid E1
    have HE2 := Lib.hid E2
    have HE3 := Lib.hid E3
    have B6 := bb B5 b6
    clear s6 S1 S2' S3 S4' S5 B5 b6 E1 E2 E3
    go_wp2_with fail
    refine HE1.out.mono ?_
    rintro _ _ ⟨rfl, k1, rfl⟩
    go_wp2_with fail
    refine (HE2.out _).mono ?_
    rintro _ _ ⟨rfl, k2, rfl⟩
    have e9 : (w6.drewN k1).drewN k2 = w6.drewN (k1 + k2) := World.drewN_drewN _ _ _
    rw [e9]
    clear e9
    go_wp2_with fail
    refine (HE3.out _).mono ?_
    rintro _ _ ⟨rfl, k3, rfl⟩
    have b7 : Below w.heap.size w ((w6.drewN (k1 + k2)).drewN k3) := Below.drewN' (Below.drewN' B6 _) k3
    generalize (w6.drewN (k1 + k2)).drewN k3 = w7 at b7 ⊢
    go_wp2_with fail
    refine (HS _ b7).out.mono ?_
    rintro _ w8 ⟨rfl, b8⟩
    go_wp2_with fail
    go_ret
    exact ⟨rfl, b8⟩

set_option maxRecDepth 100000 in
set_option maxHeartbeats 4000000 in
theorem shapeWith_walk (A : Option Addr) (n c : Nat) (xs : List Int) (a y : Int) (ha : (Lit.int .i64 a).wf = true) (hy : (Lit.int .i64 y).wf = true) (w : World) (h : SlZ w A n c xs) :
    Calls Try.prog 5 #[.slice A n c, .int .i64 a, .int .i64 y] w (RetBl true w) := by
  have M := law_many19 (w := w) (A := A) (B := none) (m := 0) (c := c) (e := 0) h.small (by omega)
  generalize (decide (100 < n) || decide (100 < 0)) = b at M
  have HM := Lib.hid M
  have HS := fun w1 (h9 : Below w.heap.size w w1) => Lib.hid (same19_from h9)
  clear M
  cases b
  case true =>
    go_enter Try.func5, Try.ntmps5
    go_wp2_with fail
    refine HM.out.mono ?_
    rintro _ _ ⟨rfl, rfl⟩
    go_wp2_with fail
    refine (HS _ (Below.refl _ _)).out.mono ?_
    rintro _ w2 ⟨rfl, hb⟩
    go_wp2_with fail
    go_ret
    exact ⟨rfl, hb⟩
  case false =>
    have X1 := fun w1 (h9 : Below w.heap.size w w1) => sh_with (h.below h9) a y (I64_of_wf hy)
    have X2 := fun w1 (h9 : Below w.heap.size w w1) => ref_with19 (h.below h9) a y (I64_of_wf hy)
    have D1 := fun (w1 : World) => sh_axes (SlZ.nil w1 none 0 (by unfold maxLen; omega)) y
    have D2 := fun (w1 : World) => ref_axes19 (SlZ.nil w1 none 0 (by unfold maxLen; omega)) y
    generalize withR xs a y = ar at X1 X2
    generalize withE xs a y = ae at X1 X2
    generalize axR y [] = dr at D1 D2
    generalize axE y [] = de at D1 D2
    have HX1 := Lib.hid X1
    have HX2 := Lib.hid X2
    have HD1 := Lib.hid D1
    have HD2 := Lib.hid D2
    clear X1 X2 D1 D2
    have ea : (ae == ae) = true := by simp
    have ed : (de == de) = true := by simp
    go_enter Try.func5, Try.ntmps5
    go_wp2_with fail
    refine HM.out.mono ?_
    rintro _ _ ⟨rfl, rfl⟩
    go_wp2_with fail
    refine (HX1.out _ (Below.refl _ _)).mono ?_
    rintro _ w1 ⟨A1, n1, c1, rfl, s1, _, b1⟩
    have S1 := Lib.hid s1
    clear s1
    go_wp2_with fail
    refine (HX2.out _ b1).mono ?_
    rintro _ w2 ⟨A2, n2, c2, rfl, s2, _, b2⟩
    have S1' := Lib.hid (S1.out.below b2)
    have S2 := Lib.hid s2
    have B2 := bb b1 b2
    clear s2 S1 b1 b2
    go_wp2_with fail
    refine (HD1.out _).mono ?_
    rintro _ w3 ⟨A3, n3, c3, rfl, s3, b3⟩
    have S1 := Lib.hid (S1'.out.below b3)
    have S2' := Lib.hid (S2.out.below b3)
    have B3 := bb B2 b3
    clear s3 S1' S2 B2 b3
    go_wp2_with fail
    refine (HD2.out _).mono ?_
    rintro _ w4 ⟨A4, n4, c4, rfl, s4, b4⟩
    have E1 := pl_ints (S1.out.below b4) (S2'.out.below b4)
    rw [decide_eq_true rfl] at E1
    have HE1 := Lib.hid E1
    have B4 := bb B3 b4
    clear s4 S1 S2' B3 b4 E1
    go_wp2_with fail
    refine HE1.out.mono ?_
    rintro _ _ ⟨rfl, k1, rfl⟩
    have b7 : Below w.heap.size w (w4.drewN k1) := Below.drewN' B4 _
    generalize w4.drewN k1 = w7 at b7 ⊢
    go_wp2_with fail
    refine (HS _ b7).out.mono ?_
    rintro _ w8 ⟨rfl, b8⟩
    go_wp2_with fail
    go_ret
    exact ⟨rfl, b8⟩

end Go.Proofs.Ythhmofmncjodfaa
