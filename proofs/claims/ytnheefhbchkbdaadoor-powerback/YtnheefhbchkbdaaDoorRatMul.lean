/-
  What rat.Sub, rat.Mul, rat.Inv and rat.Div do, told by Lean's own Rat. Conditions: the numbers of at most N words, N at most 1000.
-/
import Derived.Test.YtnheefhbchkbdaaDoorRatAdd
namespace Go.Proofs.YtnheefhbchkbdaaDoor
set_option maxRecDepth 100000
open Go.RowKit
set_option linter.unusedVariables false
set_option linter.unusedSimpArgs false

set_option maxRecDepth 100000 in
set_option maxHeartbeats 4000000 in
theorem rat_mul {w : World} {s t : Bool} {A A' B B' : Option Addr} {n n' c c' m m' d d' N : Nat} {X Y : Rat} (h : Q w s A n c A' n' c' X) (k : Q w t B m d B' m' d' Y) (hX : Sz X N) (hY : Sz Y N) (hN : N ≤ 1000) :
    Calls Tryd.prog 10 #[.agg #[.bool s, .slice A n c, .slice A' n' c'], .agg #[.bool t, .slice B m d, .slice B' m' d']] w (RetQ (X * Y) w) := by
  obtain ⟨V, hW, Ba, Bb, Br, hb0⟩ := boxes2 24 w #[.bool s, .slice A n c, .slice A' n' c'] #[.bool t, .slice B m d, .slice B' m' d'] #[.bool false, .slice none 0 0, .slice none 0 0]
  have l1 : n ≤ N := h.2.1.small hX.1
  have l2 : n' ≤ N := h.2.2.small hX.2
  have l3 : m ≤ N := k.2.1.small hY.1
  have l4 : m' ≤ N := k.2.2.small hY.2
  have R1 := fun w1 (hb : Below V.heap.size V w1) => gcd_reduce (N := N) (h.2.1.below (bb hb0 hb)) (k.2.2.below (bb hb0 hb)) (by omega) (by omega) (by omega)
  have R2 := fun w1 (hb : Below V.heap.size V w1) => gcd_reduce (N := N) (k.2.1.below (bb hb0 hb)) (h.2.2.below (bb hb0 hb)) (by omega) (by omega) (by omega)
  rw [val_words, val_words] at R1 R2
  have M := fun (w1 : World) (C C' : Option Addr) (a b u a' b' v : Nat) (x : Sl w1 C a b (words u)) (y : Sl w1 C' a' b' (words v)) (hl : a ≤ N) (hl' : a' ≤ N) => prod_mul x y (by omega)
  simp only [val_words] at M
  obtain ⟨e1, e2, e3⟩ := mul_rq X Y _ rfl _ _ _ _ rfl rfl rfl rfl
  have a1 : X.num.natAbs / Nat.gcd X.num.natAbs Y.den < W ^ N := Nat.lt_of_le_of_lt (Nat.div_le_self _ _) hX.1
  have a2 : Y.den / Nat.gcd X.num.natAbs Y.den < W ^ N := Nat.lt_of_le_of_lt (Nat.div_le_self _ _) hY.2
  have a3 : Y.num.natAbs / Nat.gcd Y.num.natAbs X.den < W ^ N := Nat.lt_of_le_of_lt (Nat.div_le_self _ _) hY.1
  have a4 : X.den / Nat.gcd Y.num.natAbs X.den < W ^ N := Nat.lt_of_le_of_lt (Nat.div_le_self _ _) hX.2
  rw [← h.1, ← k.1] at e1
  generalize X.num.natAbs / Nat.gcd X.num.natAbs Y.den = u1 at *
  generalize Y.den / Nat.gcd X.num.natAbs Y.den = u2 at *
  generalize Y.num.natAbs / Nat.gcd Y.num.natAbs X.den = u3 at *
  generalize X.den / Nat.gcd Y.num.natAbs X.den = u4 at *
  have a5 := mul_lt_powW a1 a3
  have SG := fun (w1 : World) (C C' : Option Addr) (a b a' b' : Nat) (sg : Bool) (hsg : sg = (s != t)) (x : Sl w1 C a b (words (u1 * u3))) (y : Sl w1 C' a' b' (words (u4 * u2))) => rat_signed sg x y (by have := x.small a5; omega) e2 e3
  have SG' : ∀ (w1 : World) (C C' : Option Addr) (a b a' b' : Nat) (sg : Bool) (hsg : sg = (s != t)) (x : Sl w1 C a b (words (u1 * u3))) (y : Sl w1 C' a' b' (words (u4 * u2))), Calls Tryd.prog 26 #[.bool sg, .slice C a b, .slice C' a' b'] w1 (RetQ (X * Y) w1) := by
    intro w1 C C' a b a' b' sg hsg x y
    have := SG w1 C C' a b a' b' sg hsg x y
    rw [hsg, e1] at this
    rw [hsg]; exact this
  have hS : ∀ w', Below V.heap.size V w' → (w'.cell? ⟨w.heap.size, 0, none⟩ = some (.bool s) ∧ w'.cell? ⟨w.heap.size, 1, none⟩ = some (.slice A n c) ∧ w'.cell? ⟨w.heap.size, 2, none⟩ = some (.slice A' n' c')) ∧ (w'.cell? ⟨w.heap.size + 1, 0, none⟩ = some (.bool t) ∧ w'.cell? ⟨w.heap.size + 1, 1, none⟩ = some (.slice B m d) ∧ w'.cell? ⟨w.heap.size + 1, 2, none⟩ = some (.slice B' m' d')) := fun w' hb => ⟨(Ba.below' hb).three.1, (Bb.below' hb).three.1⟩
  generalize X * Y = Z at *
  have HR1 := Lib.hid R1
  have HR2 := Lib.hid R2
  have HM := Lib.hid M
  have HSG := Lib.hid SG'
  have HS := Lib.hid hS
  have HBa := Lib.hid Ba
  have HBb := Lib.hid Bb
  have HBr := Lib.hid Br
  have HW := Lib.hid hW
  have Ha1 := Lib.hid a1
  have Ha2 := Lib.hid a2
  have Ha3 := Lib.hid a3
  have Ha4 := Lib.hid a4
  clear R1 R2 M SG SG' hS Ba Bb Br hW h k hX hY e1 e2 e3 a1 a2 a3 a4 a5
  go_enter Tryd.func10, Tryd.ntmps10
  go_wp2_with fail
  refine (HR1.out _ (by rw [HW.out]; exact Below.refl _ _)).mono ?_
  rintro _ w1 ⟨A1, n1, c1, A2, n2, c2, rfl, t1, t2, b1⟩
  rw [HW.out] at b1
  have l5 : n1 ≤ N := t1.small Ha1.out
  have l6 : n2 ≤ N := t2.small Ha2.out
  obtain ⟨⟨k0, k1, k2⟩, j0, j1, j2⟩ := HS.out _ b1
  clear HR1 HW
  go_wp2_with fail
  refine (HR2.out _ b1).mono ?_
  rintro _ w2 ⟨A3, n3, c3, A4, n4, c4, rfl, t3, t4, b2⟩
  have l7 : n3 ≤ N := t3.small Ha3.out
  have l8 : n4 ≤ N := t4.small Ha4.out
  have x2 := bb b1 b2
  have t12 := t1.below b2
  have t22 := t2.below b2
  clear k0 k1 k2 j0 j1 j2 t1 t2 b2 HR2
  obtain ⟨⟨k0, k1, k2⟩, j0, j1, j2⟩ := HS.out _ x2
  go_wp2_with fail
  go_region_held3 (fun w' => (w'.cell? ⟨w.heap.size, 0, none⟩ = some (.bool s) ∧ w'.cell? ⟨w.heap.size, 1, none⟩ = some (.slice A n c) ∧ w'.cell? ⟨w.heap.size, 2, none⟩ = some (.slice A' n' c')) ∧ (w'.cell? ⟨w.heap.size + 1, 0, none⟩ = some (.bool t) ∧ w'.cell? ⟨w.heap.size + 1, 1, none⟩ = some (.slice B m d) ∧ w'.cell? ⟨w.heap.size + 1, 2, none⟩ = some (.slice B' m' d'))) (first | exact HS.out _ x2.drew | exact HS4.out | exact HS.out _ x5 | exact HS.out _ x4 | exact HS.out _ x3 | fail)
    (first
      | (go_at_call 27; (with_reducible refine (HM.out _ _ _ _ _ u1 _ _ u3 ?h1 ?h2 l5 l7).mono ?_); (case h1 => exact t12); (case h2 => exact t3); rintro _ w3 ⟨A5, n5, c5, rfl, t5, b3⟩; have x3 : Below V.heap.size V w3 := bb x2 (Below.undrew b3))
      | (go_at_call 27; (with_reducible refine (HM.out _ _ _ _ _ u4 _ _ u2 ?h3 ?h4 l8 l6).mono ?_); (case h3 => exact t4.below (Below.undrew b3)); (case h4 => exact t22.below (Below.undrew b3)); rintro _ w4 ⟨A6, n6, c6, rfl, t6, b4⟩; have x4 : Below V.heap.size V w4 := bb x3 b4)
      | (go_at_call 26; (with_reducible refine (HSG.out _ _ _ _ _ _ _ _ ?he (t5.below b4) t6).mono ?_); (case he => first | rfl | (cases s <;> cases t <;> rfl)); rintro _ w5 ⟨s7, A7, n7, c7, A8, n8, c8, rfl, q7, b5⟩; have x5 : Below V.heap.size V w5 := bb x4 b5; have HS4 := Lib.hid (And.intro ((HBa.out.below' x5).put3 (show w.heap.size ≠ w.heap.size + 1 + 1 by omega) (.bool s7) (.slice A7 n7 c7) (.slice A8 n8 c8)).three.1 ((HBb.out.below' x5).put3 (show w.heap.size + 1 ≠ w.heap.size + 1 + 1 by omega) (.bool s7) (.slice A7 n7 c7) (.slice A8 n8 c8)).three.1); have B9 := HBr.out.below' x5; obtain ⟨⟨r0, r1, r2⟩, f0, f1, f2⟩ := B9.three))
  all_goals
    go_wp2_with fail
    refine bodyPost_ret (v := .agg #[.bool s7, .slice A7 n7 c7, .slice A8 n8 c8]) (by simp [results, Tryd.results10, go_sem, r0, r1, r2]) rfl ?_
    exact ⟨_, _, _, _, _, _, _, rfl, q7.put3 ⟨_, _, _, _, _, _, _, B9⟩, below_put3 (bb hb0 x5) (by omega) (Nat.le_refl _) _ _ _⟩

set_option maxRecDepth 100000 in
set_option maxHeartbeats 4000000 in
theorem rat_inv {w : World} {s : Bool} {A A' : Option Addr} {n n' c c' N : Nat} {X : Rat} (h : Q w s A n c A' n' c' X) (hX : Sz X N) (hN : N ≤ 1000) (h0 : X ≠ 0) :
    Calls Tryd.prog 22 #[.agg #[.bool s, .slice A n c, .slice A' n' c']] w (RetQE X⁻¹ 0 w) := by
  obtain ⟨V, hW, Ba, Br, hb0⟩ := boxes1 24 w #[.bool s, .slice A n c, .slice A' n' c'] #[.bool false, .slice none 0 0, .slice none 0 0]
  have l1 : n ≤ N := h.2.1.small hX.1
  have l2 : n' ≤ N := h.2.2.small hX.2
  have Z := fun w1 (hb : Below V.heap.size V w1) => rat_isZero (h.2.1.below (bb hb0 hb)) (by omega)
  rw [val_words, decide_eq_false (by have := num_ne h0; omega)] at Z
  have T1 := fun w1 (hb : Below V.heap.size V w1) => nat_trim (h.2.2.below (bb hb0 hb)) (by omega)
  have T2 := fun w1 (hb : Below V.heap.size V w1) => nat_trim (h.2.1.below (bb hb0 hb)) (by omega)
  rw [val_words] at T1 T2
  have hinv := inv_rq X h0
  rw [← h.1] at hinv
  have SG := fun (w1 : World) (C C' : Option Addr) (a b a' b' : Nat) (x : Sl w1 C a b (words X.den)) (y : Sl w1 C' a' b' (words X.num.natAbs)) => rat_signed s x y (by have := x.small hX.2; omega) (by have := num_ne h0; omega) (by rw [Nat.gcd_comm]; exact gcd_num_den X)
  rw [hinv] at SG
  have hS : ∀ w', Below V.heap.size V w' → w'.cell? ⟨w.heap.size, 0, none⟩ = some (.bool s) ∧ w'.cell? ⟨w.heap.size, 1, none⟩ = some (.slice A n c) ∧ w'.cell? ⟨w.heap.size, 2, none⟩ = some (.slice A' n' c') := fun w' hb => (Ba.below' hb).three.1
  generalize X⁻¹ = Y at *
  have HZ := Lib.hid Z
  have HT1 := Lib.hid T1
  have HT2 := Lib.hid T2
  have HSG := Lib.hid SG
  have HS := Lib.hid hS
  have HBa := Lib.hid Ba
  have HBr := Lib.hid Br
  have HW := Lib.hid hW
  clear Z T1 T2 SG hS Ba Br hW hinv h hX h0
  go_enter Tryd.func22, Tryd.ntmps22
  go_wp2_with fail
  refine (HZ.out _ (by rw [HW.out]; exact Below.refl _ _)).mono ?_
  rintro _ _ ⟨rfl, rfl⟩
  go_wp2_with fail
  rw [HW.out]
  clear HW HZ
  obtain ⟨k0, k1, k2⟩ := HS.out _ (Below.refl _ V)
  go_region_held3 (fun w' => w'.cell? ⟨w.heap.size, 0, none⟩ = some (.bool s) ∧ w'.cell? ⟨w.heap.size, 1, none⟩ = some (.slice A n c) ∧ w'.cell? ⟨w.heap.size, 2, none⟩ = some (.slice A' n' c')) (first | exact HS.out _ (Below.refl _ V).drew | exact HS4.out | exact HS.out _ x3 | exact HS.out _ x2 | exact HS.out _ x1 | fail)
    (first
      | (go_at_call 40; (with_reducible refine (HT1.out _ ?hb1).mono ?_); (case hb1 => exact (Below.refl _ V).drew); rintro _ w1 ⟨A1, n1, c1, rfl, t1, b1⟩; have x1 : Below V.heap.size V w1 := (Below.undrew b1))
      | (go_at_call 40; (with_reducible refine (HT2.out _ ?hb2).mono ?_); (case hb2 => exact x1); rintro _ w2 ⟨A2, n2, c2, rfl, t2, b2⟩; have x2 : Below V.heap.size V w2 := bb x1 b2)
      | (go_at_call 26; (with_reducible refine (HSG.out _ _ _ _ _ _ _ (t1.below b2) t2).mono ?_); rintro _ w3 ⟨s3, A3, n3, c3, A4, n4, c4, rfl, q3, b3⟩; have x3 : Below V.heap.size V w3 := bb x2 b3; have HS4 := Lib.hid ((HBa.out.below' x3).put3 (show w.heap.size ≠ w.heap.size + 1 by omega) (.bool s3) (.slice A3 n3 c3) (.slice A4 n4 c4)).three.1; have B9 := HBr.out.below' x3; obtain ⟨⟨r0, r1, r2⟩, f0, f1, f2⟩ := B9.three))
  all_goals
    go_wp2_with fail
    refine bodyPost_ret (v := .tuple #[.agg #[.bool s3, .slice A3 n3 c3, .slice A4 n4 c4], .int .i64 0]) (by simp [results, Tryd.results22, go_sem, r0, r1, r2]) rfl ?_
    exact ⟨_, _, _, _, _, _, _, rfl, q3.put3 ⟨_, _, _, _, _, _, _, B9⟩, below_put3 (bb hb0 x3) (by omega) (Nat.le_refl _) _ _ _⟩

set_option maxHeartbeats 1000000 in
theorem rat_inv_zero {w : World} {s : Bool} {A A' : Option Addr} {n n' c c' N : Nat} {X : Rat} (h : Q w s A n c A' n' c' X) (hX : Sz X N) (hN : N ≤ 1000) (h0 : X = 0) :
    Calls Tryd.prog 22 #[.agg #[.bool s, .slice A n c, .slice A' n' c']] w (RetNo 4 w) := by
  have l1 : n ≤ N := h.2.1.small hX.1
  have Z := fun w1 (hb : Below w.heap.size w w1) => rat_isZero (h.2.1.below hb) (by omega)
  rw [val_words, decide_eq_true ((rat_zero_iff X).1 h0)] at Z
  have HZ := Lib.hid Z
  clear Z h0
  go_enter Tryd.func22, Tryd.ntmps22
  go_wp2_with fail
  refine (HZ.out _ ((below_alloc _ _).alloc (by simp) _)).mono ?_
  rintro _ _ ⟨rfl, rfl⟩
  go_wp2_with fail
  exact bodyPost_ret (v := .tuple #[.agg #[.bool false, .slice none 0 0, .slice none 0 0], .int .i64 4]) (by simp [results, Tryd.results22, go_sem]) rfl ⟨rfl, (below_alloc _ _).alloc (by simp) _⟩

end Go.Proofs.YtnheefhbchkbdaaDoor
