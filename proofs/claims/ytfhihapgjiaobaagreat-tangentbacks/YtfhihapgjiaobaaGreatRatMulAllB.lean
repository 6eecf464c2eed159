/-
  Words that the laws of exact numbers use: what is known to be so; gradinelaw07.same and right.
-/
import Derived.Test.YtfhihapgjiaobaaGreatRatAddAllB
import Derived.IntWalk
import Derived.Test.YtfhihapgjiaobaaGreatRatRightAllB
namespace Go.Proofs.YtfhihapgjiaobaaGreat
set_option maxRecDepth 100000
open Go.RowKit
set_option linter.unusedVariables false
set_option linter.unusedSimpArgs false

set_option maxRecDepth 100000 in
set_option maxHeartbeats 4000000 in
theorem rat_sub {w : World} {s t : Bool} {A A' B B' : Option Addr} {n n' c c' m m' d d' N : Nat} {X Y : Rat} (h : Q w s A n c A' n' c' X) (k : Q w t B m d B' m' d' Y) (hX : Sz X N) (hY : Sz Y N) (hN : N ≤ 40000) :
    Calls Tryz.prog 67 #[.agg #[.bool s, .slice A n c, .slice A' n' c'], .agg #[.bool t, .slice B m d, .slice B' m' d']] w (RetQ (X - Y) w) := by
  obtain ⟨V, hW, Ba, Bb, Br, hb0⟩ := boxes2 45 w #[.bool s, .slice A n c, .slice A' n' c'] #[.bool t, .slice B m d, .slice B' m' d'] #[.bool false, .slice none 0 0, .slice none 0 0]
  have l1 : n ≤ N := h.2.1.small hX.1
  have l2 : n' ≤ N := h.2.2.small hX.2
  have l3 : m ≤ N := k.2.1.small hY.1
  have l4 : m' ≤ N := k.2.2.small hY.2
  have NG := fun w1 (hb : Below V.heap.size V w1) => rat_neg (k.below (bb hb0 hb)) (by omega) (by omega)
  have AD := fun w1 (hb : Below V.heap.size V w1) (t1 : Bool) (C C' : Option Addr) (a b a' b' : Nat) (q : Q w1 t1 C a b C' a' b' (-Y)) => rat_add (h.below (bb hb0 hb)) q hX hY.neg hN
  rw [← Rat.sub_eq_add_neg] at AD
  have hS : ∀ w', Below V.heap.size V w' → (w'.cell? ⟨w.heap.size, 0, none⟩ = some (.bool s) ∧ w'.cell? ⟨w.heap.size, 1, none⟩ = some (.slice A n c) ∧ w'.cell? ⟨w.heap.size, 2, none⟩ = some (.slice A' n' c')) ∧ (w'.cell? ⟨w.heap.size + 1, 0, none⟩ = some (.bool t) ∧ w'.cell? ⟨w.heap.size + 1, 1, none⟩ = some (.slice B m d) ∧ w'.cell? ⟨w.heap.size + 1, 2, none⟩ = some (.slice B' m' d')) := fun w' hb => ⟨(Ba.below' hb).three.1, (Bb.below' hb).three.1⟩
  have HNG := Lib.hid NG
  have HAD := Lib.hid AD
  have HS := Lib.hid hS
  have HBa := Lib.hid Ba
  have HBb := Lib.hid Bb
  have HBr := Lib.hid Br
  have HW := Lib.hid hW
  clear NG AD hS Ba Bb Br hW h k hX hY
  go_enter Tryz.func67, Tryz.ntmps67
  go_wp2_with fail
  rw [HW.out]
  obtain ⟨⟨k0, k1, k2⟩, j0, j1, j2⟩ := HS.out _ (Below.refl _ V)
  go_region_held3 (fun w' => (w'.cell? ⟨w.heap.size, 0, none⟩ = some (.bool s) ∧ w'.cell? ⟨w.heap.size, 1, none⟩ = some (.slice A n c) ∧ w'.cell? ⟨w.heap.size, 2, none⟩ = some (.slice A' n' c')) ∧ (w'.cell? ⟨w.heap.size + 1, 0, none⟩ = some (.bool t) ∧ w'.cell? ⟨w.heap.size + 1, 1, none⟩ = some (.slice B m d) ∧ w'.cell? ⟨w.heap.size + 1, 2, none⟩ = some (.slice B' m' d'))) (first | exact HS.out _ (Below.refl _ V).drew | exact HS4.out | exact HS.out _ x2 | exact HS.out _ x1 | fail)
    (first
      | (go_at_call 66; (with_reducible refine (HNG.out _ ?hb1).mono ?_); (case hb1 => exact (Below.refl _ V).drew); rintro _ w1 ⟨s1, A1, n1, c1, A2, n2, c2, rfl, q1, b1⟩; have x1 : Below V.heap.size V w1 := Below.undrew b1)
      | (go_at_call 18; (with_reducible refine (HAD.out _ x1 _ _ _ _ _ _ _ q1).mono ?_); rintro _ w2 ⟨s3, A3, n3, c3, A4, n4, c4, rfl, q3, b2⟩; have x2 : Below V.heap.size V w2 := bb x1 b2; have HS4 := Lib.hid (And.intro ((HBa.out.below' x2).put3 (show w.heap.size ≠ w.heap.size + 1 + 1 by omega) (.bool s3) (.slice A3 n3 c3) (.slice A4 n4 c4)).three.1 ((HBb.out.below' x2).put3 (show w.heap.size + 1 ≠ w.heap.size + 1 + 1 by omega) (.bool s3) (.slice A3 n3 c3) (.slice A4 n4 c4)).three.1); have B9 := HBr.out.below' x2; obtain ⟨⟨r0, r1, r2⟩, f0, f1, f2⟩ := B9.three))
  all_goals
    go_wp2_with fail
    refine bodyPost_ret (v := .agg #[.bool s3, .slice A3 n3 c3, .slice A4 n4 c4]) (by simp [results, Tryz.results67, go_sem, r0, r1, r2]) rfl ?_
    exact ⟨_, _, _, _, _, _, _, rfl, q3.put3 ⟨_, _, _, _, _, _, _, B9⟩, below_put3 (bb hb0 x2) (by omega) (Nat.le_refl _) _ _ _⟩

set_option maxRecDepth 100000 in
set_option maxHeartbeats 4000000 in
theorem rat_mul {w : World} {s t : Bool} {A A' B B' : Option Addr} {n n' c c' m m' d d' N : Nat} {X Y : Rat} (h : Q w s A n c A' n' c' X) (k : Q w t B m d B' m' d' Y) (hX : Sz X N) (hY : Sz Y N) (hN : N ≤ 40000) :
    Calls Tryz.prog 19 #[.agg #[.bool s, .slice A n c, .slice A' n' c'], .agg #[.bool t, .slice B m d, .slice B' m' d']] w (RetQ (X * Y) w) := by
  obtain ⟨V, hW, Ba, Bb, Br, hb0⟩ := boxes2 45 w #[.bool s, .slice A n c, .slice A' n' c'] #[.bool t, .slice B m d, .slice B' m' d'] #[.bool false, .slice none 0 0, .slice none 0 0]
  have l1 : n ≤ N := h.2.1.small hX.1
  have l2 : n' ≤ N := h.2.2.small hX.2
  have l3 : m ≤ N := k.2.1.small hY.1
  have l4 : m' ≤ N := k.2.2.small hY.2
  have R1 := fun w1 (hb : Below V.heap.size V w1) => gcd_reduce (N := N) (h.2.1.below (bb hb0 hb)) (k.2.2.below (bb hb0 hb)) (by omega) (by omega) (by omega)
  have R2 := fun w1 (hb : Below V.heap.size V w1) => gcd_reduce (N := N) (k.2.1.below (bb hb0 hb)) (h.2.2.below (bb hb0 hb)) (by omega) (by omega) (by omega)
  rw [val_words, val_words] at R1 R2
  have M := fun (w1 : World) (C C' : Option Addr) (a b u a' b' v : Nat) (x : Sl w1 C a b (words u)) (y : Sl w1 C' a' b' (words v)) (hl : a ≤ N) (hl' : a' ≤ N) => prod_mul x y (by omega)
  simp only [val_words] at M
  obtain ⟨e1, e2, e3⟩ := mul_rq X Y _ rfl _ _ _ _ rfl rfl rfl rfl
  have a1 : X.num.natAbs / Nat.gcd X.num.natAbs Y.den < W ^ N := Nat.lt_of_le_of_lt (Nat.div_le_self _ _) hX.1
  have a2 : Y.den / Nat.gcd X.num.natAbs Y.den < W ^ N := Nat.lt_of_le_of_lt (Nat.div_le_self _ _) hY.2
  have a3 : Y.num.natAbs / Nat.gcd Y.num.natAbs X.den < W ^ N := Nat.lt_of_le_of_lt (Nat.div_le_self _ _) hY.1
  have a4 : X.den / Nat.gcd Y.num.natAbs X.den < W ^ N := Nat.lt_of_le_of_lt (Nat.div_le_self _ _) hX.2
  rw [← h.1, ← k.1] at e1
  generalize X.num.natAbs / Nat.gcd X.num.natAbs Y.den = u1 at *
  generalize Y.den / Nat.gcd X.num.natAbs Y.den = u2 at *
  generalize Y.num.natAbs / Nat.gcd Y.num.natAbs X.den = u3 at *
  generalize X.den / Nat.gcd Y.num.natAbs X.den = u4 at *
  have a5 := mul_lt_powW a1 a3
  have SG := fun (w1 : World) (C C' : Option Addr) (a b a' b' : Nat) (sg : Bool) (hsg : sg = (s != t)) (x : Sl w1 C a b (words (u1 * u3))) (y : Sl w1 C' a' b' (words (u4 * u2))) => rat_signed sg x y (by have := x.small a5; omega) e2 e3
  have SG' : ∀ (w1 : World) (C C' : Option Addr) (a b a' b' : Nat) (sg : Bool) (hsg : sg = (s != t)) (x : Sl w1 C a b (words (u1 * u3))) (y : Sl w1 C' a' b' (words (u4 * u2))), Calls Tryz.prog 50 #[.bool sg, .slice C a b, .slice C' a' b'] w1 (RetQ (X * Y) w1) := by
    intro w1 C C' a b a' b' sg hsg x y
    have := SG w1 C C' a b a' b' sg hsg x y
    rw [hsg, e1] at this
    rw [hsg]; exact this
  have hS : ∀ w', Below V.heap.size V w' → (w'.cell? ⟨w.heap.size, 0, none⟩ = some (.bool s) ∧ w'.cell? ⟨w.heap.size, 1, none⟩ = some (.slice A n c) ∧ w'.cell? ⟨w.heap.size, 2, none⟩ = some (.slice A' n' c')) ∧ (w'.cell? ⟨w.heap.size + 1, 0, none⟩ = some (.bool t) ∧ w'.cell? ⟨w.heap.size + 1, 1, none⟩ = some (.slice B m d) ∧ w'.cell? ⟨w.heap.size + 1, 2, none⟩ = some (.slice B' m' d')) := fun w' hb => ⟨(Ba.below' hb).three.1, (Bb.below' hb).three.1⟩
  generalize X * Y = Z at *
  have HR1 := Lib.hid R1
  have HR2 := Lib.hid R2
  have HM := Lib.hid M
  have HSG := Lib.hid SG'
  have HS := Lib.hid hS
  have HBa := Lib.hid Ba
  have HBb := Lib.hid Bb
  have HBr := Lib.hid Br
  have HW := Lib.hid hW
  have Ha1 := Lib.hid a1
  have Ha2 := Lib.hid a2
  have Ha3 := Lib.hid a3
  have Ha4 := Lib.hid a4
  clear R1 R2 M SG SG' hS Ba Bb Br hW h k hX hY e1 e2 e3 a1 a2 a3 a4 a5
  go_enter Tryz.func19, Tryz.ntmps19
  go_wp2_with fail
  refine (HR1.out _ (by rw [HW.out]; exact Below.refl _ _)).mono ?_
  rintro _ w1 ⟨A1, n1, c1, A2, n2, c2, rfl, t1, t2, b1⟩
  rw [HW.out] at b1
  have l5 : n1 ≤ N := t1.small Ha1.out
  have l6 : n2 ≤ N := t2.small Ha2.out
  obtain ⟨⟨k0, k1, k2⟩, j0, j1, j2⟩ := HS.out _ b1
  clear HR1 HW
  go_wp2_with fail
  refine (HR2.out _ b1).mono ?_
  rintro _ w2 ⟨A3, n3, c3, A4, n4, c4, rfl, t3, t4, b2⟩
  have l7 : n3 ≤ N := t3.small Ha3.out
  have l8 : n4 ≤ N := t4.small Ha4.out
  have x2 := bb b1 b2
  have t12 := t1.below b2
  have t22 := t2.below b2
  clear k0 k1 k2 j0 j1 j2 t1 t2 b2 HR2
  obtain ⟨⟨k0, k1, k2⟩, j0, j1, j2⟩ := HS.out _ x2
  go_wp2_with fail
  go_region_held3 (fun w' => (w'.cell? ⟨w.heap.size, 0, none⟩ = some (.bool s) ∧ w'.cell? ⟨w.heap.size, 1, none⟩ = some (.slice A n c) ∧ w'.cell? ⟨w.heap.size, 2, none⟩ = some (.slice A' n' c')) ∧ (w'.cell? ⟨w.heap.size + 1, 0, none⟩ = some (.bool t) ∧ w'.cell? ⟨w.heap.size + 1, 1, none⟩ = some (.slice B m d) ∧ w'.cell? ⟨w.heap.size + 1, 2, none⟩ = some (.slice B' m' d'))) (first | exact HS.out _ x2.drew | exact HS4.out | exact HS.out _ x5 | exact HS.out _ x4 | exact HS.out _ x3 | fail)
    (first
      | (go_at_call 48; (with_reducible refine (HM.out _ _ _ _ _ u1 _ _ u3 ?h1 ?h2 l5 l7).mono ?_); (case h1 => exact t12); (case h2 => exact t3); rintro _ w3 ⟨A5, n5, c5, rfl, t5, b3⟩; have x3 : Below V.heap.size V w3 := bb x2 (Below.undrew b3))
      | (go_at_call 48; (with_reducible refine (HM.out _ _ _ _ _ u4 _ _ u2 ?h3 ?h4 l8 l6).mono ?_); (case h3 => exact t4.below (Below.undrew b3)); (case h4 => exact t22.below (Below.undrew b3)); rintro _ w4 ⟨A6, n6, c6, rfl, t6, b4⟩; have x4 : Below V.heap.size V w4 := bb x3 b4)
      | (go_at_call 50; (with_reducible refine (HSG.out _ _ _ _ _ _ _ _ ?he (t5.below b4) t6).mono ?_); (case he => first | rfl | (cases s <;> cases t <;> rfl)); rintro _ w5 ⟨s7, A7, n7, c7, A8, n8, c8, rfl, q7, b5⟩; have x5 : Below V.heap.size V w5 := bb x4 b5; have HS4 := Lib.hid (And.intro ((HBa.out.below' x5).put3 (show w.heap.size ≠ w.heap.size + 1 + 1 by omega) (.bool s7) (.slice A7 n7 c7) (.slice A8 n8 c8)).three.1 ((HBb.out.below' x5).put3 (show w.heap.size + 1 ≠ w.heap.size + 1 + 1 by omega) (.bool s7) (.slice A7 n7 c7) (.slice A8 n8 c8)).three.1); have B9 := HBr.out.below' x5; obtain ⟨⟨r0, r1, r2⟩, f0, f1, f2⟩ := B9.three))
  all_goals
    go_wp2_with fail
    refine bodyPost_ret (v := .agg #[.bool s7, .slice A7 n7 c7, .slice A8 n8 c8]) (by simp [results, Tryz.results19, go_sem, r0, r1, r2]) rfl ?_
    exact ⟨_, _, _, _, _, _, _, rfl, q7.put3 ⟨_, _, _, _, _, _, _, B9⟩, below_put3 (bb hb0 x5) (by omega) (Nat.le_refl _) _ _ _⟩

set_option maxRecDepth 100000 in
set_option maxHeartbeats 4000000 in
theorem rat_inv {w : World} {s : Bool} {A A' : Option Addr} {n n' c c' N : Nat} {X : Rat} (h : Q w s A n c A' n' c' X) (hX : Sz X N) (hN : N ≤ 40000) (h0 : X ≠ 0) :
    Calls Tryz.prog 102 #[.agg #[.bool s, .slice A n c, .slice A' n' c']] w (RetQE X⁻¹ 0 w) := by
  obtain ⟨V, hW, Ba, Br, hb0⟩ := boxes1 45 w #[.bool s, .slice A n c, .slice A' n' c'] #[.bool false, .slice none 0 0, .slice none 0 0]
  have l1 : n ≤ N := h.2.1.small hX.1
  have l2 : n' ≤ N := h.2.2.small hX.2
  have Z := fun w1 (hb : Below V.heap.size V w1) => rat_isZero (h.2.1.below (bb hb0 hb)) (by omega)
  rw [val_words, decide_eq_false (by have := num_ne h0; omega)] at Z
  have T1 := fun w1 (hb : Below V.heap.size V w1) => nat_trim (h.2.2.below (bb hb0 hb)) (by omega)
  have T2 := fun w1 (hb : Below V.heap.size V w1) => nat_trim (h.2.1.below (bb hb0 hb)) (by omega)
  rw [val_words] at T1 T2
  have hinv := inv_rq X h0
  rw [← h.1] at hinv
  have SG := fun (w1 : World) (C C' : Option Addr) (a b a' b' : Nat) (x : Sl w1 C a b (words X.den)) (y : Sl w1 C' a' b' (words X.num.natAbs)) => rat_signed s x y (by have := x.small hX.2; omega) (by have := num_ne h0; omega) (by rw [Nat.gcd_comm]; exact gcd_num_den X)
  rw [hinv] at SG
  have hS : ∀ w', Below V.heap.size V w' → w'.cell? ⟨w.heap.size, 0, none⟩ = some (.bool s) ∧ w'.cell? ⟨w.heap.size, 1, none⟩ = some (.slice A n c) ∧ w'.cell? ⟨w.heap.size, 2, none⟩ = some (.slice A' n' c') := fun w' hb => (Ba.below' hb).three.1
  generalize X⁻¹ = Y at *
  have HZ := Lib.hid Z
  have HT1 := Lib.hid T1
  have HT2 := Lib.hid T2
  have HSG := Lib.hid SG
  have HS := Lib.hid hS
  have HBa := Lib.hid Ba
  have HBr := Lib.hid Br
  have HW := Lib.hid hW
  clear Z T1 T2 SG hS Ba Br hW hinv h hX h0
  go_enter Tryz.func102, Tryz.ntmps102
  go_wp2_with fail
  refine (HZ.out _ (by rw [HW.out]; exact Below.refl _ _)).mono ?_
  rintro _ _ ⟨rfl, rfl⟩
  go_wp2_with fail
  rw [HW.out]
  clear HW HZ
  obtain ⟨k0, k1, k2⟩ := HS.out _ (Below.refl _ V)
  go_region_held3 (fun w' => w'.cell? ⟨w.heap.size, 0, none⟩ = some (.bool s) ∧ w'.cell? ⟨w.heap.size, 1, none⟩ = some (.slice A n c) ∧ w'.cell? ⟨w.heap.size, 2, none⟩ = some (.slice A' n' c')) (first | exact HS.out _ (Below.refl _ V).drew | exact HS4.out | exact HS.out _ x3 | exact HS.out _ x2 | exact HS.out _ x1 | fail)
    (first
      | (go_at_call 88; (with_reducible refine (HT1.out _ ?hb1).mono ?_); (case hb1 => exact (Below.refl _ V).drew); rintro _ w1 ⟨A1, n1, c1, rfl, t1, b1⟩; have x1 : Below V.heap.size V w1 := (Below.undrew b1))
      | (go_at_call 88; (with_reducible refine (HT2.out _ ?hb2).mono ?_); (case hb2 => exact x1); rintro _ w2 ⟨A2, n2, c2, rfl, t2, b2⟩; have x2 : Below V.heap.size V w2 := bb x1 b2)
      | (go_at_call 50; (with_reducible refine (HSG.out _ _ _ _ _ _ _ (t1.below b2) t2).mono ?_); rintro _ w3 ⟨s3, A3, n3, c3, A4, n4, c4, rfl, q3, b3⟩; have x3 : Below V.heap.size V w3 := bb x2 b3; have HS4 := Lib.hid ((HBa.out.below' x3).put3 (show w.heap.size ≠ w.heap.size + 1 by omega) (.bool s3) (.slice A3 n3 c3) (.slice A4 n4 c4)).three.1; have B9 := HBr.out.below' x3; obtain ⟨⟨r0, r1, r2⟩, f0, f1, f2⟩ := B9.three))
  all_goals
    go_wp2_with fail
    refine bodyPost_ret (v := .tuple #[.agg #[.bool s3, .slice A3 n3 c3, .slice A4 n4 c4], .int .i64 0]) (by simp [results, Tryz.results102, go_sem, r0, r1, r2]) rfl ?_
    exact ⟨_, _, _, _, _, _, _, rfl, q3.put3 ⟨_, _, _, _, _, _, _, B9⟩, below_put3 (bb hb0 x3) (by omega) (Nat.le_refl _) _ _ _⟩

set_option maxHeartbeats 1000000 in
theorem rat_inv_zero {w : World} {s : Bool} {A A' : Option Addr} {n n' c c' N : Nat} {X : Rat} (h : Q w s A n c A' n' c' X) (hX : Sz X N) (hN : N ≤ 40000) (h0 : X = 0) :
    Calls Tryz.prog 102 #[.agg #[.bool s, .slice A n c, .slice A' n' c']] w (RetNo 4 w) := by
  have l1 : n ≤ N := h.2.1.small hX.1
  have Z := fun w1 (hb : Below w.heap.size w w1) => rat_isZero (h.2.1.below hb) (by omega)
  rw [val_words, decide_eq_true ((rat_zero_iff X).1 h0)] at Z
  have HZ := Lib.hid Z
  clear Z h0
  go_enter Tryz.func102, Tryz.ntmps102
  go_wp2_with fail
  refine (HZ.out _ ((below_alloc _ _).alloc (by simp) _)).mono ?_
  rintro _ _ ⟨rfl, rfl⟩
  go_wp2_with fail
  exact bodyPost_ret (v := .tuple #[.agg #[.bool false, .slice none 0 0, .slice none 0 0], .int .i64 4]) (by simp [results, Tryz.results102, go_sem]) rfl ⟨rfl, (below_alloc _ _).alloc (by simp) _⟩

set_option maxRecDepth 100000 in
set_option maxHeartbeats 4000000 in
theorem rat_div {w : World} {s t : Bool} {A A' B B' : Option Addr} {n n' c c' m m' d d' N : Nat} {X Y : Rat} (h : Q w s A n c A' n' c' X) (k : Q w t B m d B' m' d' Y) (hX : Sz X N) (hY : Sz Y N) (hN : N ≤ 40000) (h0 : Y ≠ 0) :
    Calls Tryz.prog 68 #[.agg #[.bool s, .slice A n c, .slice A' n' c'], .agg #[.bool t, .slice B m d, .slice B' m' d']] w (RetQE (X / Y) 0 w) := by
  obtain ⟨V, hW, Ba, Bb, Br, hb0⟩ := boxes2 45 w #[.bool s, .slice A n c, .slice A' n' c'] #[.bool t, .slice B m d, .slice B' m' d'] #[.bool false, .slice none 0 0, .slice none 0 0]
  have I := fun w1 (hb : Below V.heap.size V w1) => rat_inv (k.below (bb hb0 hb)) hY hN h0
  have M := fun w1 (hb : Below V.heap.size V w1) (t1 : Bool) (C C' : Option Addr) (a b a' b' : Nat) (q : Q w1 t1 C a b C' a' b' Y⁻¹) => rat_mul (h.below (bb hb0 hb)) q hX hY.inv hN
  rw [← Rat.div_def] at M
  have hS : ∀ w', Below V.heap.size V w' → (w'.cell? ⟨w.heap.size, 0, none⟩ = some (.bool s) ∧ w'.cell? ⟨w.heap.size, 1, none⟩ = some (.slice A n c) ∧ w'.cell? ⟨w.heap.size, 2, none⟩ = some (.slice A' n' c')) ∧ (w'.cell? ⟨w.heap.size + 1, 0, none⟩ = some (.bool t) ∧ w'.cell? ⟨w.heap.size + 1, 1, none⟩ = some (.slice B m d) ∧ w'.cell? ⟨w.heap.size + 1, 2, none⟩ = some (.slice B' m' d')) := fun w' hb => ⟨(Ba.below' hb).three.1, (Bb.below' hb).three.1⟩
  generalize X / Y = Z at *
  have HI := Lib.hid I
  have HM := Lib.hid M
  have HS := Lib.hid hS
  have HBr := Lib.hid Br
  have HW := Lib.hid hW
  clear I M hS Ba Bb Br hW h k hX hY h0
  go_enter Tryz.func68, Tryz.ntmps68
  go_wp2_with fail
  refine (HI.out _ (by rw [HW.out]; exact Below.refl _ _)).mono ?_
  rintro _ w1 ⟨s1, A1, n1, c1, A2, n2, c2, rfl, q1, b1⟩
  rw [HW.out] at b1
  obtain ⟨⟨k0, k1, k2⟩, j0, j1, j2⟩ := HS.out _ b1
  have hz1 := (HBr.out.below' b1).lt
  have hz2 : w.heap.size < w1.heap.size := by omega
  have hz3 : w.heap.size + 1 < w1.heap.size := by omega
  clear HW HI
  go_wp2_with fail
  refine (HM.out _ ?_ _ _ _ _ _ _ _ (q1.below (below_alloc _ _))).mono ?_
  · exact b1.alloc b1.size _
  rintro _ w2 ⟨s3, A3, n3, c3, A4, n4, c4, rfl, q3, b2⟩
  have x2 : Below V.heap.size V w2 := bb (b1.alloc b1.size _) b2
  have B9 := HBr.out.below' x2
  obtain ⟨⟨r0, r1, r2⟩, f0, f1, f2⟩ := B9.three
  go_wp2_with fail
  refine bodyPost_ret (v := .tuple #[.agg #[.bool s3, .slice A3 n3 c3, .slice A4 n4 c4], .int .i64 0]) (by simp [results, Tryz.results68, go_sem, r0, r1, r2]) rfl ?_
  exact ⟨_, _, _, _, _, _, _, rfl, q3.put3 ⟨_, _, _, _, _, _, _, B9⟩, below_put3 (bb hb0 x2) (by omega) (Nat.le_refl _) _ _ _⟩

set_option maxHeartbeats 1000000 in
theorem rat_div_zero {w : World} {s t : Bool} {A A' B B' : Option Addr} {n n' c c' m m' d d' N : Nat} {X Y : Rat} (h : Q w s A n c A' n' c' X) (k : Q w t B m d B' m' d' Y) (hX : Sz X N) (hY : Sz Y N) (hN : N ≤ 40000) (h0 : Y = 0) :
    Calls Tryz.prog 68 #[.agg #[.bool s, .slice A n c, .slice A' n' c'], .agg #[.bool t, .slice B m d, .slice B' m' d']] w (RetNo 4 w) := by
  obtain ⟨V, hW, Ba, Bb, Br, hb0⟩ := boxes2 45 w #[.bool s, .slice A n c, .slice A' n' c'] #[.bool t, .slice B m d, .slice B' m' d'] #[.bool false, .slice none 0 0, .slice none 0 0]
  have I := fun w1 (hb : Below V.heap.size V w1) => rat_inv_zero (k.below (bb hb0 hb)) hY hN h0
  have HI := Lib.hid I
  have HBr := Lib.hid Br
  have HW := Lib.hid hW
  clear I Ba Bb Br hW h k hX hY h0
  go_enter Tryz.func68, Tryz.ntmps68
  go_wp2_with fail
  refine (HI.out _ (by rw [HW.out]; exact Below.refl _ _)).mono ?_
  rintro _ w1 ⟨rfl, b1⟩
  rw [HW.out] at b1
  have B9 := HBr.out.below' b1
  have hz1 := B9.lt
  obtain ⟨⟨r0, r1, r2⟩, f0, f1, f2⟩ := B9.three
  clear HW HI
  go_wp2_with fail
  refine bodyPost_ret (v := .tuple #[.agg #[.bool false, .slice none 0 0, .slice none 0 0], .int .i64 4]) (by simp [results, Tryz.results68, go_sem, r0, r1, r2, hz1, (show ¬ (w.heap.size + 1 + 1 = w1.heap.size) by omega)]) rfl ?_
  have y6 := below_put3 (bb hb0 b1) (show w.heap.size ≤ w.heap.size + 1 + 1 by omega) (Nat.le_refl _) (.bool false) (.slice none 0 0) (.slice none 0 0)
  exact ⟨rfl, y6.alloc y6.size _⟩

end Go.Proofs.YtfhihapgjiaobaaGreat

namespace Go.Proofs.YtfhihapgjiaobaaGreat
set_option maxRecDepth 100000
open Go.RowKit
set_option linter.unusedVariables false
set_option linter.unusedSimpArgs false

set_option maxHeartbeats 400000 in
theorem ref_words {w : World} {A A' : Option Addr} {n n' c c' : Nat} {xs ys : List Int} (h : Sl w A n c xs) (h' : Sl w A' n' c' ys) (hn : n ≤ 1000000000) (hn' : n' ≤ 1000000000) :
    Calls Tryz.prog 57 #[.slice A n c, .slice A' n' c'] w (RetBl (decide (xs = ys)) w) := by
  by_cases hl : n = n'
  · subst hl
    go_enter Tryz.func57, Tryz.ntmps57
    go_wp2
    go_loopw [13] (fun i wr => ∃ k m : Nat, k ≤ n ∧ i = .int .i64 k ∧ SameTo xs ys k ∧ wr = w.drewN m) (fun i _ => n - mes i)
    case atStart => exact ⟨0, 0, by omega, rfl, fun j hj => by omega, rfl⟩
    case round =>
      obtain ⟨k, m, hk, rfl, hz, rfl⟩ := hrel
      by_cases hk2 : k < n
      · obtain ⟨b, off, rfl, hb, hc⟩ := h.at_ hk2
        obtain ⟨b', off', rfl, hb', hc'⟩ := h'.at_ hk2
        have g1 := hc k hk2
        have g2 := hc' k hk2
        obtain ⟨x, hx⟩ : ∃ x, xs.getD k 0 = x := ⟨_, rfl⟩
        obtain ⟨y, hy⟩ : ∃ y, ys.getD k 0 = y := ⟨_, rfl⟩
        rw [hx] at g1
        rw [hy] at g2
        have HX := Lib.hid hx
        have HY := Lib.hid hy
        clear hc hc' hx hy
        by_cases hxy : x = y
        · subst hxy
          go_wp2
          go_region
          all_goals try go_wp2
          go_roundw
          case rel => exact ⟨k + 1, m + 1, by omega, by go_num, hz.step (by rw [HX.out, HY.out]), rfl⟩
          case measure => simp [mes, intOf]; omega
        · have hne : (x != y) = true := by simpa using hxy
          go_wp2
          go_region
          all_goals try go_wp2
          go_ret
          refine ⟨retB ?_, below_drewN w (m + 1)⟩
          symm
          rw [decide_eq_false_iff_not]
          rintro rfl
          exact hxy (by rw [← HX.out, ← HY.out])
      · go_wp2
        go_ret
        refine ⟨retB ?_, below_drewN w m⟩
        symm
        rw [decide_eq_true_eq]
        have hkn : k = xs.length := by have := h.len; omega
        rw [hkn] at hz
        exact hz.all (by rw [← h.len, ← h'.len])
  · have hne : decide (n = n') = false := by simpa using hl
    have hne2 : ((n : Int) != (n' : Int)) = true := by simp; omega
    go_enter Tryz.func57, Tryz.ntmps57
    go_wp2
    go_ret
    refine ⟨retB ?_, Below.refl _ _⟩
    symm
    rw [decide_eq_false_iff_not]
    rintro rfl
    exact hl (by rw [h.len, h'.len])

set_option maxRecDepth 100000 in
set_option maxHeartbeats 4000000 in
theorem ref_same {w : World} {s t : Bool} {A A' B B' : Option Addr} {n n' c c' m m' d d' : Nat} {xs ys us vs : List Int} (h : Sl w A n c xs) (h' : Sl w A' n' c' ys) (k : Sl w B m d us) (k' : Sl w B' m' d' vs) (hn : n ≤ 1000000) (hn' : n' ≤ 1000000) (hm : m ≤ 1000000) (hm' : m' ≤ 1000000) :
    Calls Tryz.prog 25 #[.agg #[.bool s, .slice A n c, .slice A' n' c'], .agg #[.bool t, .slice B m d, .slice B' m' d']] w (RetBl (decide (s = t ∧ xs = us ∧ ys = vs)) w) := by
  obtain ⟨V, hW, Ba, Bb, hb0⟩ := boxes1 45 w #[.bool s, .slice A n c, .slice A' n' c'] #[.bool t, .slice B m d, .slice B' m' d']
  have E1 := fun w1 (hb : Below V.heap.size V w1) => ref_words (h.below (bb hb0 hb)) (k.below (bb hb0 hb)) (by omega) (by omega)
  have E2 := fun w1 (hb : Below V.heap.size V w1) => ref_words (h'.below (bb hb0 hb)) (k'.below (bb hb0 hb)) (by omega) (by omega)
  have hS : ∀ w', Below V.heap.size V w' → (w'.cell? ⟨w.heap.size, 0, none⟩ = some (.bool s) ∧ w'.cell? ⟨w.heap.size, 1, none⟩ = some (.slice A n c) ∧ w'.cell? ⟨w.heap.size, 2, none⟩ = some (.slice A' n' c')) ∧ (w'.cell? ⟨w.heap.size + 1, 0, none⟩ = some (.bool t) ∧ w'.cell? ⟨w.heap.size + 1, 1, none⟩ = some (.slice B m d) ∧ w'.cell? ⟨w.heap.size + 1, 2, none⟩ = some (.slice B' m' d')) := fun w' hb => ⟨(Ba.below' hb).three.1, (Bb.below' hb).three.1⟩
  have HS := Lib.hid hS
  have HW := Lib.hid hW
  clear hS Ba Bb hW h k h' k'
  by_cases hst : s = t
  · subst hst
    by_cases h1 : xs = us
    · rw [decide_eq_true h1] at E1
      obtain ⟨b2, hb2⟩ : ∃ b, decide (s = s ∧ xs = us ∧ ys = vs) = b := ⟨_, rfl⟩
      have e2 : decide (ys = vs) = b2 := by rw [← hb2]; simp [h1]
      rw [hb2]
      rw [e2] at E2
      have HE1 := Lib.hid E1
      have HE2 := Lib.hid E2
      clear E1 E2 hb2 e2 h1
      go_enter Tryz.func25, Tryz.ntmps25
      go_wp2_with fail
      refine (HE1.out _ (by rw [HW.out]; exact Below.refl _ _)).mono ?_
      rintro _ w1 ⟨rfl, b1⟩
      rw [HW.out] at b1
      clear HW
      obtain ⟨⟨k0, k1, k2⟩, j0, j1, j2⟩ := HS.out _ b1
      go_wp2_with fail
      refine (HE2.out _ b1).mono ?_
      rintro _ w2 ⟨rfl, b2⟩
      go_wp2_with fail
      go_ret
      exact ⟨rfl, bb hb0 (bb b1 b2)⟩
    · rw [decide_eq_false h1] at E1
      rw [decide_eq_false (fun e => h1 e.2.1)]
      have HE1 := Lib.hid E1
      clear E1 E2 h1
      go_enter Tryz.func25, Tryz.ntmps25
      go_wp2_with fail
      refine (HE1.out _ (by rw [HW.out]; exact Below.refl _ _)).mono ?_
      rintro _ w1 ⟨rfl, b1⟩
      rw [HW.out] at b1
      clear HW
      go_wp2_with fail
      go_ret
      exact ⟨rfl, bb hb0 b1⟩
  · rw [decide_eq_false (fun e => hst e.1)]
    have hne : (s == t) = false := by simpa using hst
    clear E1 E2 hst
    go_enter Tryz.func25, Tryz.ntmps25
    go_wp2_with fail
    rw [HW.out]
    go_ret
    exact ⟨rfl, hb0⟩

theorem same_Q {w : World} {s t : Bool} {A A' B B' : Option Addr} {n n' c c' m m' d d' : Nat} {X Y : Rat} (h : Q w s A n c A' n' c' X) (k : Q w t B m d B' m' d' Y) :
    decide (s = t ∧ words X.num.natAbs = words Y.num.natAbs ∧ words X.den = words Y.den) = decide (X = Y) := by
  rw [Bool.eq_iff_iff]
  simp only [decide_eq_true_eq]
  constructor
  · rintro ⟨e1, e2, e3⟩
    exact rat_ext (by rw [← h.1, ← k.1, e1]) (words_inj e2) (words_inj e3)
  · rintro rfl
    exact ⟨by rw [h.1, k.1], rfl, rfl⟩
theorem ref_sameQ {w : World} {s t : Bool} {A A' B B' : Option Addr} {n n' c c' m m' d d' N : Nat} {X Y : Rat} (h : Q w s A n c A' n' c' X) (k : Q w t B m d B' m' d' Y) (hX : Sz X N) (hY : Sz Y N) (hN : N ≤ 40000) : Calls Tryz.prog 25 #[.agg #[.bool s, .slice A n c, .slice A' n' c'], .agg #[.bool t, .slice B m d, .slice B' m' d']] w (RetBl (decide (X = Y)) w) := by
  have := ref_same (s := s) (t := t) h.2.1 h.2.2 k.2.1 k.2.2 (by have := h.2.1.small hX.1; omega) (by have := h.2.2.small hX.2; omega) (by have := k.2.1.small hY.1; omega) (by have := k.2.2.small hY.2; omega)
  rw [same_Q h k] at this
  exact this

end Go.Proofs.YtfhihapgjiaobaaGreat

namespace Go.Proofs.YtfhihapgjiaobaaGreat
set_option maxRecDepth 100000
open Go.RowKit
set_option linter.unusedVariables false
set_option linter.unusedSimpArgs false

theorem box0 (t : TypeId) (w : World) (vs : Array Value) : ∃ V, w.alloc (.cells vs t) = V ∧ Box t V w.heap.size vs ∧ Below w.heap.size w V := ⟨_, rfl, Box.new w t vs, below_alloc _ _⟩
theorem ref_sameT {w : World} {s t : Bool} {A A' B B' : Option Addr} {n n' c c' m m' d d' N : Nat} {X Y : Rat} (h : Q w s A n c A' n' c' X) (k : Q w t B m d B' m' d' Y) (hX : Sz X N) (hY : Sz Y N) (hN : N ≤ 400) (e : X = Y) : Calls Tryz.prog 25 #[.agg #[.bool s, .slice A n c, .slice A' n' c'], .agg #[.bool t, .slice B m d, .slice B' m' d']] w (RetBl true w) := by
  have := ref_sameQ h k hX hY (by omega)
  rw [decide_eq_true e] at this
  exact this
theorem rat_negE {w : World} {s : Bool} {A A' : Option Addr} {n n' c c' N : Nat} {X : Rat} (h : Q w s A n c A' n' c' X) (hX : Sz X N) (hN : N ≤ 1000) : Calls Tryz.prog 66 #[.agg #[.bool s, .slice A n c, .slice A' n' c']] w (RetQ (-X) w) :=
  rat_neg h (by have := h.2.1.small hX.1; omega) (by have := h.2.2.small hX.2; omega)
theorem ref_zeroE {w : World} {s : Bool} {A A' : Option Addr} {n n' c c' N : Nat} {X : Rat} (h : Q w s A n c A' n' c' X) (hX : Sz X N) (b : Bool) (e : decide (X = 0) = b) : Calls Tryz.prog 78 #[.agg #[.bool s, .slice A n c, .slice A' n' c']] w (RetBl b w) := by
  rw [← e]; exact ref_zero h
end Go.Proofs.YtfhihapgjiaobaaGreat
