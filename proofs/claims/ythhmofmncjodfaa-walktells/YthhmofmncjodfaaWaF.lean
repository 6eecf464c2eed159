/-
  What same of the laws of layer 20 returns; the law WalkAhead. Conditions: the slices read as lists of ints.
-/
import Derived.Test.YthhmofmncjodfaaWaE
import Derived.Test.YthhmofmncjodfaaWaC
import Derived.Test.YthhmofmncjodfaaShL
namespace Go.Proofs.Ythhmofmncjodfaa
open Go.RowKit
set_option linter.unusedVariables false
set_option linter.unusedSimpArgs false

set_option maxRecDepth 100000 in
set_option maxHeartbeats 2000000 in
theorem same20 (w : World) : Calls Try.prog 30 #[] w (RetBl true w) := by
  obtain ⟨V, hV, hr1, b1⟩ : ∃ V, w.alloc (.cells #[.int .i64 2, .int .i64 3] 3) = V ∧ IRow V w.heap.size [2, 3] ∧ Below w.heap.size w V := ⟨_, rfl, IRow.lit w [2, 3], below_alloc _ _⟩
  have S := wa_at (hr1.slz (c := 2) (i64_small (by decide)) (by decide) (by unfold maxLen; omega)) 4
  rw [show atR [2, 3] 4 = [1, 1] by decide, show atB [2, 3] 4 = true by decide] at S
  have L := fun (w1 : World) => wa_all (SlZ.nil w1 none 0 (by unfold maxLen; omega))
  have hpl : plcs [] = [[]] := by decide
  rw [hpl] at L
  have HS := Lib.hid S
  have HL := Lib.hid L
  have HV := Lib.hid hV
  clear S hV hr1 L hpl
  go_enter Try.func30, Try.ntmps30
  go_wp2_with fail
  rw [HV.out]
  refine HS.out.mono ?_
  rintro _ w1 ⟨A1, n1, c1, rfl, s1, _, _, bb1⟩
  have b2 := bb b1 bb1
  obtain rfl : n1 = 2 := s1.len.symm
  have S1 := Lib.hid s1
  clear s1 HS HV b1 bb1
  go_wp2_with fail
  refine (HL.out w1).mono ?_
  rintro _ w2 ⟨A2, n2, c2, xs, rfl, l2, hz, _, bb2⟩
  have b3 := bb b2 bb2
  have s1 := S1.out.below bb2
  have hl9 : (xs.map ZS.z).length = 1 := by rw [hz]; rfl
  rw [List.length_map] at hl9
  have hn2 : n2 = 1 := by rw [← l2.len, hl9]
  clear hl9
  subst n2
  obtain ⟨g, o, x0, e0, rfl, hlt, _, k0⟩ := s1.get (j := 0) (by omega)
  obtain ⟨g', o', x1, e1, e9, _, _, k1⟩ := s1.get (j := 1) (by omega)
  injection e9 with e9; injection e9 with e8 e7; subst e8 e7
  subst e0 e1
  obtain ⟨g2, o2, y, hy, rfl, _, hok, k2⟩ := l2.get (j := 0) (by omega)
  have hyz : y.z = [] := by
    have h9 := congrArg (fun l : List (List Int) => l[0]?) hz
    simp only [List.getElem?_map, hy] at h9
    simpa using h9
  have hyn : y.n = 0 := by rw [← hok.1.len, hyz]; rfl
  obtain ⟨yA, yn, yc, yz⟩ := y
  simp only at hyn k2
  subst hyn
  simp only [Nat.add_zero] at k0 k2
  clear l2 hz hy hok hyz s1 S1 HL
  go_wp2_with fail
  go_ret
  exact ⟨rfl, b3⟩

theorem same20_from {w w' : World} (h : Below w.heap.size w w') : Calls Try.prog 30 #[] w' (RetBl true w) := (same20 w').mono fun _ _ ⟨he, hb⟩ => ⟨he, bb h hb⟩

set_option maxRecDepth 100000 in
set_option maxHeartbeats 2000000 in
theorem walkAhead_walk (A : Option Addr) (n c : Nat) (xs : List Int) (B : Option Addr) (m e : Nat) (ys : List Int) (w : World) (h : SlZ w A n c xs) (h' : SlZ w B m e ys) :
    Calls Try.prog 9 #[.slice A n c, .slice B m e] w (RetBl true w) := by
  have M := law_many19 (w := w) (A := A) (B := B) (c := c) (e := e) h.small h'.small
  generalize (decide (100 < n) || decide (100 < m)) = b at M
  have HM := Lib.hid M
  have HS := fun w1 (h9 : Below w.heap.size w w1) => Lib.hid (same20_from h9)
  clear M
  cases b
  case true =>
    go_enter Try.func9, Try.ntmps9
    go_wp2_with fail
    refine HM.out.mono ?_
    rintro _ _ ⟨rfl, rfl⟩
    go_wp2_with fail
    refine (HS _ (Below.refl _ _)).out.mono ?_
    rintro _ w2 ⟨rfl, hb⟩
    go_wp2_with fail
    go_ret
    exact ⟨rfl, hb⟩
  case false =>
    have A1 := wa_ahead h h'
    have A2 := ref_ahead20 h h'
    generalize lexB xs ys = bv at A1 A2
    have HA1 := Lib.hid A1
    have HA2 := Lib.hid A2
    clear A1 A2
    have hbb : (bv == bv) = true := by simp
    go_enter Try.func9, Try.ntmps9
    go_wp2_with fail
    refine HM.out.mono ?_
    rintro _ _ ⟨rfl, rfl⟩
    go_wp2_with fail
    refine HA1.out.mono ?_
    rintro _ _ ⟨rfl, rfl⟩
    go_wp2_with fail
    refine HA2.out.mono ?_
    rintro _ w1 ⟨rfl, b1⟩
    go_wp2_with fail
    refine (HS _ b1).out.mono ?_
    rintro _ w2 ⟨rfl, b2⟩
    go_wp2_with fail
    go_ret
    exact ⟨rfl, b2⟩

end Go.Proofs.Ythhmofmncjodfaa
