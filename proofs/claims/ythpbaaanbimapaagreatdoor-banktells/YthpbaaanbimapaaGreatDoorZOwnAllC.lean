/-
  Plain mathematics of doubles: differences of near doubles, squares and roots. No Go in sight. Conditions: those that each theorem names. (Laid ahead for sums, products and roots of doubles.)
-/
import Derived.Test.YthpbaaanbimapaaGreatDoorProg
import Derived.Test.YthpbaaanbimapaaGreatDoorRatRunAllC
import Derived.KernelRfl
import Derived.IntWalk
import Derived.Test.YthpbaaanbimapaaGreatDoorLimbDivAllC
import Derived.Test.YthpbaaanbimapaaGreatDoorU64AllC
import Derived.Test.YthpbaaanbimapaaGreatDoorGcdMathAllC
namespace Go.Proofs.YthpbaaanbimapaaGreatDoor
set_option maxRecDepth 100000
open Go.RowKit
set_option linter.unusedVariables false
set_option linter.unusedSimpArgs false

theorem news_new (w : World) (cs : Array Value) (t : TypeId) : ∀ (j : Nat) (u : Value), cs.toList[j]? = some u → (w.alloc (.cells cs t)).cell? ((⟨w.heap.size, 0, none⟩ : Addr).add j) = some u := by
  intro j u hj
  have e1 : (⟨w.heap.size, 0, none⟩ : Addr).add j = ⟨w.heap.size, j, none⟩ := by
    unfold Addr.add; split
    · rename_i h9; rw [h9]
    · rw [Nat.zero_add]
  rw [e1, cell_of_row _ w.heap.size j cs t (0, 0) (heap_alloc_new w _)]
  simpa using hj
theorem OwnC.base {k : Nat} {V : Type} {cells : V → List Value} {t : TypeId} {B : Nat} {w : World} {v : Value} {xs : List V} (h : OwnC k cells t B w v xs) : ∀ g, v.ownBlock = some g → B ≤ g := by
  intro g hg
  rcases h.2 with ⟨rfl, rfl⟩ | ⟨g', cap, cur, rfl, h1, _⟩
  · cases hg
  · have e : g' = g := by simpa [Value.ownBlock] using hg
    rw [← e]; exact h1
/-- block g is just the ints zs -/
def IRow (w : World) (g : Nat) (zs : List Int) : Prop := Box 3 w g (zs.map (Value.int .i64)).toArray
theorem IRow.cell {w : World} {g : Nat} {zs : List Int} (h : IRow w g zs) {i : Nat} (hi : i < zs.length) : w.cell? ⟨g, i, none⟩ = some (.int .i64 (zs.getD i 0)) := by
  rw [Box.cell h]
  simp [List.getD, hi]
theorem IRow.free {w : World} {g : Nat} {zs : List Int} (h : IRow w g zs) (i : Nat) : w.frozen? ⟨g, i, none⟩ = false := Box.free h i
theorem IRow.set {w : World} {g : Nat} {zs : List Int} (h : IRow w g zs) (i : Nat) (b : Int) : IRow (w.setCell ⟨g, i, none⟩ (.int .i64 b)) g (zs.set i b) := by
  unfold IRow Box at *
  unfold World.setCell
  simp [Array.getElem?_modify, h, List.map_set]
theorem IRow.lt {w : World} {g : Nat} {zs : List Int} (h : IRow w g zs) : g < w.heap.size := Box.lt h
theorem IRow.below {w w' : World} {g : Nat} {zs : List Int} (h : IRow w g zs) (hb : Below w.heap.size w w') : IRow w' g zs := Box.below' h hb
end Go.Proofs.YthpbaaanbimapaaGreatDoor

namespace Go.Proofs.YthpbaaanbimapaaGreatDoor
set_option maxRecDepth 100000
open Go.RowKit
set_option linter.unusedVariables false
set_option linter.unusedSimpArgs false

set_option maxRecDepth 100000 in
set_option maxHeartbeats 4000000 in
theorem rat_mul {w : World} {s t : Bool} {A A' B B' : Option Addr} {n n' c c' m m' d d' N : Nat} {X Y : Rat} (h : Q w s A n c A' n' c' X) (k : Q w t B m d B' m' d' Y) (hX : Sz X N) (hY : Sz Y N) (hN : N ≤ 40000) :
    Calls Tryz.prog 137 #[.agg #[.bool s, .slice A n c, .slice A' n' c'], .agg #[.bool t, .slice B m d, .slice B' m' d']] w (RetQ (X * Y) w) := by
  obtain ⟨V, hW, Ba, Bb, Br, hb0⟩ := boxes2 51 w #[.bool s, .slice A n c, .slice A' n' c'] #[.bool t, .slice B m d, .slice B' m' d'] #[.bool false, .slice none 0 0, .slice none 0 0]
  have l1 : n ≤ N := h.2.1.small hX.1
  have l2 : n' ≤ N := h.2.2.small hX.2
  have l3 : m ≤ N := k.2.1.small hY.1
  have l4 : m' ≤ N := k.2.2.small hY.2
  have R1 := fun w1 (hb : Below V.heap.size V w1) => gcd_reduce (N := N) (h.2.1.below (bb hb0 hb)) (k.2.2.below (bb hb0 hb)) (by omega) (by omega) (by omega)
  have R2 := fun w1 (hb : Below V.heap.size V w1) => gcd_reduce (N := N) (k.2.1.below (bb hb0 hb)) (h.2.2.below (bb hb0 hb)) (by omega) (by omega) (by omega)
  rw [val_words, val_words] at R1 R2
  have M := fun (w1 : World) (C C' : Option Addr) (a b u a' b' v : Nat) (x : Sl w1 C a b (words u)) (y : Sl w1 C' a' b' (words v)) (hl : a ≤ N) (hl' : a' ≤ N) => prod_mul x y (by omega)
  simp only [val_words] at M
  obtain ⟨e1, e2, e3⟩ := mul_rq X Y _ rfl _ _ _ _ rfl rfl rfl rfl
  have a1 : X.num.natAbs / Nat.gcd X.num.natAbs Y.den < W ^ N := Nat.lt_of_le_of_lt (Nat.div_le_self _ _) hX.1
  have a2 : Y.den / Nat.gcd X.num.natAbs Y.den < W ^ N := Nat.lt_of_le_of_lt (Nat.div_le_self _ _) hY.2
  have a3 : Y.num.natAbs / Nat.gcd Y.num.natAbs X.den < W ^ N := Nat.lt_of_le_of_lt (Nat.div_le_self _ _) hY.1
  have a4 : X.den / Nat.gcd Y.num.natAbs X.den < W ^ N := Nat.lt_of_le_of_lt (Nat.div_le_self _ _) hX.2
  rw [← h.1, ← k.1] at e1
  generalize X.num.natAbs / Nat.gcd X.num.natAbs Y.den = u1 at *
  generalize Y.den / Nat.gcd X.num.natAbs Y.den = u2 at *
  generalize Y.num.natAbs / Nat.gcd Y.num.natAbs X.den = u3 at *
  generalize X.den / Nat.gcd Y.num.natAbs X.den = u4 at *
  have a5 := mul_lt_powW a1 a3
  have SG := fun (w1 : World) (C C' : Option Addr) (a b a' b' : Nat) (sg : Bool) (hsg : sg = (s != t)) (x : Sl w1 C a b (words (u1 * u3))) (y : Sl w1 C' a' b' (words (u4 * u2))) => rat_signed sg x y (by have := x.small a5; omega) e2 e3
  have SG' : ∀ (w1 : World) (C C' : Option Addr) (a b a' b' : Nat) (sg : Bool) (hsg : sg = (s != t)) (x : Sl w1 C a b (words (u1 * u3))) (y : Sl w1 C' a' b' (words (u4 * u2))), Calls Tryz.prog 138 #[.bool sg, .slice C a b, .slice C' a' b'] w1 (RetQ (X * Y) w1) := by
    intro w1 C C' a b a' b' sg hsg x y
    have := SG w1 C C' a b a' b' sg hsg x y
    rw [hsg, e1] at this
    rw [hsg]; exact this
  have hS : ∀ w', Below V.heap.size V w' → (w'.cell? ⟨w.heap.size, 0, none⟩ = some (.bool s) ∧ w'.cell? ⟨w.heap.size, 1, none⟩ = some (.slice A n c) ∧ w'.cell? ⟨w.heap.size, 2, none⟩ = some (.slice A' n' c')) ∧ (w'.cell? ⟨w.heap.size + 1, 0, none⟩ = some (.bool t) ∧ w'.cell? ⟨w.heap.size + 1, 1, none⟩ = some (.slice B m d) ∧ w'.cell? ⟨w.heap.size + 1, 2, none⟩ = some (.slice B' m' d')) := fun w' hb => ⟨(Ba.below' hb).three.1, (Bb.below' hb).three.1⟩
  generalize X * Y = Z at *
  have HR1 := Lib.hid R1
  have HR2 := Lib.hid R2
  have HM := Lib.hid M
  have HSG := Lib.hid SG'
  have HS := Lib.hid hS
  have HBa := Lib.hid Ba
  have HBb := Lib.hid Bb
  have HBr := Lib.hid Br
  have HW := Lib.hid hW
  have Ha1 := Lib.hid a1
  have Ha2 := Lib.hid a2
  have Ha3 := Lib.hid a3
  have Ha4 := Lib.hid a4
  clear R1 R2 M SG SG' hS Ba Bb Br hW h k hX hY e1 e2 e3 a1 a2 a3 a4 a5
  go_enter Tryz.func137, Tryz.ntmps137
  go_wp2_with fail
  refine (HR1.out _ (by rw [HW.out]; exact Below.refl _ _)).mono ?_
  rintro _ w1 ⟨A1, n1, c1, A2, n2, c2, rfl, t1, t2, b1⟩
  rw [HW.out] at b1
  have l5 : n1 ≤ N := t1.small Ha1.out
  have l6 : n2 ≤ N := t2.small Ha2.out
  obtain ⟨⟨k0, k1, k2⟩, j0, j1, j2⟩ := HS.out _ b1
  clear HR1 HW
  go_wp2_with fail
  refine (HR2.out _ b1).mono ?_
  rintro _ w2 ⟨A3, n3, c3, A4, n4, c4, rfl, t3, t4, b2⟩
  have l7 : n3 ≤ N := t3.small Ha3.out
  have l8 : n4 ≤ N := t4.small Ha4.out
  have x2 := bb b1 b2
  have t12 := t1.below b2
  have t22 := t2.below b2
  clear k0 k1 k2 j0 j1 j2 t1 t2 b2 HR2
  obtain ⟨⟨k0, k1, k2⟩, j0, j1, j2⟩ := HS.out _ x2
  go_wp2_with fail
  go_region_held3 (fun w' => (w'.cell? ⟨w.heap.size, 0, none⟩ = some (.bool s) ∧ w'.cell? ⟨w.heap.size, 1, none⟩ = some (.slice A n c) ∧ w'.cell? ⟨w.heap.size, 2, none⟩ = some (.slice A' n' c')) ∧ (w'.cell? ⟨w.heap.size + 1, 0, none⟩ = some (.bool t) ∧ w'.cell? ⟨w.heap.size + 1, 1, none⟩ = some (.slice B m d) ∧ w'.cell? ⟨w.heap.size + 1, 2, none⟩ = some (.slice B' m' d'))) (first | exact HS.out _ x2.drew | exact HS4.out | exact HS.out _ x5 | exact HS.out _ x4 | exact HS.out _ x3 | fail)
    (first
      | (go_at_call 156; (with_reducible refine (HM.out _ _ _ _ _ u1 _ _ u3 ?h1 ?h2 l5 l7).mono ?_); (case h1 => exact t12); (case h2 => exact t3); rintro _ w3 ⟨A5, n5, c5, rfl, t5, b3⟩; have x3 : Below V.heap.size V w3 := bb x2 (Below.undrew b3))
      | (go_at_call 156; (with_reducible refine (HM.out _ _ _ _ _ u4 _ _ u2 ?h3 ?h4 l8 l6).mono ?_); (case h3 => exact t4.below (Below.undrew b3)); (case h4 => exact t22.below (Below.undrew b3)); rintro _ w4 ⟨A6, n6, c6, rfl, t6, b4⟩; have x4 : Below V.heap.size V w4 := bb x3 b4)
      | (go_at_call 138; (with_reducible refine (HSG.out _ _ _ _ _ _ _ _ ?he (t5.below b4) t6).mono ?_); (case he => first | rfl | (cases s <;> cases t <;> rfl)); rintro _ w5 ⟨s7, A7, n7, c7, A8, n8, c8, rfl, q7, b5⟩; have x5 : Below V.heap.size V w5 := bb x4 b5; have HS4 := Lib.hid (And.intro ((HBa.out.below' x5).put3 (show w.heap.size ≠ w.heap.size + 1 + 1 by omega) (.bool s7) (.slice A7 n7 c7) (.slice A8 n8 c8)).three.1 ((HBb.out.below' x5).put3 (show w.heap.size + 1 ≠ w.heap.size + 1 + 1 by omega) (.bool s7) (.slice A7 n7 c7) (.slice A8 n8 c8)).three.1); have B9 := HBr.out.below' x5; obtain ⟨⟨r0, r1, r2⟩, f0, f1, f2⟩ := B9.three))
  all_goals
    go_wp2_with fail
    refine bodyPost_ret (v := .agg #[.bool s7, .slice A7 n7 c7, .slice A8 n8 c8]) (by simp [results, Tryz.results137, go_sem, r0, r1, r2]) rfl ?_
    exact ⟨_, _, _, _, _, _, _, rfl, q7.put3 ⟨_, _, _, _, _, _, _, B9⟩, below_put3 (bb hb0 x5) (by omega) (Nat.le_refl _) _ _ _⟩

set_option maxRecDepth 100000 in
set_option maxHeartbeats 4000000 in
theorem rat_inv {w : World} {s : Bool} {A A' : Option Addr} {n n' c c' N : Nat} {X : Rat} (h : Q w s A n c A' n' c' X) (hX : Sz X N) (hN : N ≤ 40000) (h0 : X ≠ 0) :
    Calls Tryz.prog 136 #[.agg #[.bool s, .slice A n c, .slice A' n' c']] w (RetQE X⁻¹ 0 w) := by
  obtain ⟨V, hW, Ba, Br, hb0⟩ := boxes1 51 w #[.bool s, .slice A n c, .slice A' n' c'] #[.bool false, .slice none 0 0, .slice none 0 0]
  have l1 : n ≤ N := h.2.1.small hX.1
  have l2 : n' ≤ N := h.2.2.small hX.2
  have Z := fun w1 (hb : Below V.heap.size V w1) => rat_isZero (h.2.1.below (bb hb0 hb)) (by omega)
  rw [val_words, decide_eq_false (by have := num_ne h0; omega)] at Z
  have T1 := fun w1 (hb : Below V.heap.size V w1) => nat_trim (h.2.2.below (bb hb0 hb)) (by omega)
  have T2 := fun w1 (hb : Below V.heap.size V w1) => nat_trim (h.2.1.below (bb hb0 hb)) (by omega)
  rw [val_words] at T1 T2
  have hinv := inv_rq X h0
  rw [← h.1] at hinv
  have SG := fun (w1 : World) (C C' : Option Addr) (a b a' b' : Nat) (x : Sl w1 C a b (words X.den)) (y : Sl w1 C' a' b' (words X.num.natAbs)) => rat_signed s x y (by have := x.small hX.2; omega) (by have := num_ne h0; omega) (by rw [Nat.gcd_comm]; exact gcd_num_den X)
  rw [hinv] at SG
  have hS : ∀ w', Below V.heap.size V w' → w'.cell? ⟨w.heap.size, 0, none⟩ = some (.bool s) ∧ w'.cell? ⟨w.heap.size, 1, none⟩ = some (.slice A n c) ∧ w'.cell? ⟨w.heap.size, 2, none⟩ = some (.slice A' n' c') := fun w' hb => (Ba.below' hb).three.1
  generalize X⁻¹ = Y at *
  have HZ := Lib.hid Z
  have HT1 := Lib.hid T1
  have HT2 := Lib.hid T2
  have HSG := Lib.hid SG
  have HS := Lib.hid hS
  have HBa := Lib.hid Ba
  have HBr := Lib.hid Br
  have HW := Lib.hid hW
  clear Z T1 T2 SG hS Ba Br hW hinv h hX h0
  go_enter Tryz.func136, Tryz.ntmps136
  go_wp2_with fail
  refine (HZ.out _ (by rw [HW.out]; exact Below.refl _ _)).mono ?_
  rintro _ _ ⟨rfl, rfl⟩
  go_wp2_with fail
  rw [HW.out]
  clear HW HZ
  obtain ⟨k0, k1, k2⟩ := HS.out _ (Below.refl _ V)
  go_region_held3 (fun w' => w'.cell? ⟨w.heap.size, 0, none⟩ = some (.bool s) ∧ w'.cell? ⟨w.heap.size, 1, none⟩ = some (.slice A n c) ∧ w'.cell? ⟨w.heap.size, 2, none⟩ = some (.slice A' n' c')) (first | exact HS.out _ (Below.refl _ V).drew | exact HS4.out | exact HS.out _ x3 | exact HS.out _ x2 | exact HS.out _ x1 | fail)
    (first
      | (go_at_call 148; (with_reducible refine (HT1.out _ ?hb1).mono ?_); (case hb1 => exact (Below.refl _ V).drew); rintro _ w1 ⟨A1, n1, c1, rfl, t1, b1⟩; have x1 : Below V.heap.size V w1 := (Below.undrew b1))
      | (go_at_call 148; (with_reducible refine (HT2.out _ ?hb2).mono ?_); (case hb2 => exact x1); rintro _ w2 ⟨A2, n2, c2, rfl, t2, b2⟩; have x2 : Below V.heap.size V w2 := bb x1 b2)
      | (go_at_call 138; (with_reducible refine (HSG.out _ _ _ _ _ _ _ (t1.below b2) t2).mono ?_); rintro _ w3 ⟨s3, A3, n3, c3, A4, n4, c4, rfl, q3, b3⟩; have x3 : Below V.heap.size V w3 := bb x2 b3; have HS4 := Lib.hid ((HBa.out.below' x3).put3 (show w.heap.size ≠ w.heap.size + 1 by omega) (.bool s3) (.slice A3 n3 c3) (.slice A4 n4 c4)).three.1; have B9 := HBr.out.below' x3; obtain ⟨⟨r0, r1, r2⟩, f0, f1, f2⟩ := B9.three))
  all_goals
    go_wp2_with fail
    refine bodyPost_ret (v := .tuple #[.agg #[.bool s3, .slice A3 n3 c3, .slice A4 n4 c4], .int .i64 0]) (by simp [results, Tryz.results136, go_sem, r0, r1, r2]) rfl ?_
    exact ⟨_, _, _, _, _, _, _, rfl, q3.put3 ⟨_, _, _, _, _, _, _, B9⟩, below_put3 (bb hb0 x3) (by omega) (Nat.le_refl _) _ _ _⟩

set_option maxRecDepth 100000 in
set_option maxHeartbeats 4000000 in
theorem rat_div {w : World} {s t : Bool} {A A' B B' : Option Addr} {n n' c c' m m' d d' N : Nat} {X Y : Rat} (h : Q w s A n c A' n' c' X) (k : Q w t B m d B' m' d' Y) (hX : Sz X N) (hY : Sz Y N) (hN : N ≤ 40000) (h0 : Y ≠ 0) :
    Calls Tryz.prog 82 #[.agg #[.bool s, .slice A n c, .slice A' n' c'], .agg #[.bool t, .slice B m d, .slice B' m' d']] w (RetQE (X / Y) 0 w) := by
  obtain ⟨V, hW, Ba, Bb, Br, hb0⟩ := boxes2 51 w #[.bool s, .slice A n c, .slice A' n' c'] #[.bool t, .slice B m d, .slice B' m' d'] #[.bool false, .slice none 0 0, .slice none 0 0]
  have I := fun w1 (hb : Below V.heap.size V w1) => rat_inv (k.below (bb hb0 hb)) hY hN h0
  have M := fun w1 (hb : Below V.heap.size V w1) (t1 : Bool) (C C' : Option Addr) (a b a' b' : Nat) (q : Q w1 t1 C a b C' a' b' Y⁻¹) => rat_mul (h.below (bb hb0 hb)) q hX hY.inv hN
  rw [← Rat.div_def] at M
  have hS : ∀ w', Below V.heap.size V w' → (w'.cell? ⟨w.heap.size, 0, none⟩ = some (.bool s) ∧ w'.cell? ⟨w.heap.size, 1, none⟩ = some (.slice A n c) ∧ w'.cell? ⟨w.heap.size, 2, none⟩ = some (.slice A' n' c')) ∧ (w'.cell? ⟨w.heap.size + 1, 0, none⟩ = some (.bool t) ∧ w'.cell? ⟨w.heap.size + 1, 1, none⟩ = some (.slice B m d) ∧ w'.cell? ⟨w.heap.size + 1, 2, none⟩ = some (.slice B' m' d')) := fun w' hb => ⟨(Ba.below' hb).three.1, (Bb.below' hb).three.1⟩
  generalize X / Y = Z at *
  have HI := Lib.hid I
  have HM := Lib.hid M
  have HS := Lib.hid hS
  have HBr := Lib.hid Br
  have HW := Lib.hid hW
  clear I M hS Ba Bb Br hW h k hX hY h0
  go_enter Tryz.func82, Tryz.ntmps82
  go_wp2_with fail
  refine (HI.out _ (by rw [HW.out]; exact Below.refl _ _)).mono ?_
  rintro _ w1 ⟨s1, A1, n1, c1, A2, n2, c2, rfl, q1, b1⟩
  rw [HW.out] at b1
  obtain ⟨⟨k0, k1, k2⟩, j0, j1, j2⟩ := HS.out _ b1
  have hz1 := (HBr.out.below' b1).lt
  have hz2 : w.heap.size < w1.heap.size := by omega
  have hz3 : w.heap.size + 1 < w1.heap.size := by omega
  clear HW HI
  go_wp2_with fail
  refine (HM.out _ ?_ _ _ _ _ _ _ _ (q1.below (below_alloc _ _))).mono ?_
  · exact b1.alloc b1.size _
  rintro _ w2 ⟨s3, A3, n3, c3, A4, n4, c4, rfl, q3, b2⟩
  have x2 : Below V.heap.size V w2 := bb (b1.alloc b1.size _) b2
  have B9 := HBr.out.below' x2
  obtain ⟨⟨r0, r1, r2⟩, f0, f1, f2⟩ := B9.three
  go_wp2_with fail
  refine bodyPost_ret (v := .tuple #[.agg #[.bool s3, .slice A3 n3 c3, .slice A4 n4 c4], .int .i64 0]) (by simp [results, Tryz.results82, go_sem, r0, r1, r2]) rfl ?_
  exact ⟨_, _, _, _, _, _, _, rfl, q3.put3 ⟨_, _, _, _, _, _, _, B9⟩, below_put3 (bb hb0 x2) (by omega) (Nat.le_refl _) _ _ _⟩

end Go.Proofs.YthpbaaanbimapaaGreatDoor

namespace Go.Proofs.YthpbaaanbimapaaGreatDoor
set_option maxRecDepth 100000
open Go.RowKit
set_option linter.unusedVariables false
set_option linter.unusedSimpArgs false

set_option maxHeartbeats 400000 in
theorem sl_equal {w : World} {A A' : Option Addr} {n n' c c' : Nat} {xs ys : List Int} (h : Sl w A n c xs) (h' : Sl w A' n' c' ys) (hn : n ≤ 1000000000) (hn' : n' ≤ 1000000000) :
    Calls Tryz.prog 92 #[.slice A n c, .slice A' n' c'] w (RetBl (decide (xs = ys)) w) := by
  by_cases hl : n = n'
  · subst hl
    go_enter Tryz.func92, Tryz.ntmps92
    go_wp2
    go_loopw [13] (fun i wr => ∃ k m : Nat, k ≤ n ∧ i = .int .i64 k ∧ SameTo xs ys k ∧ wr = w.drewN m) (fun i _ => n - mes i)
    case atStart => exact ⟨0, 0, by omega, rfl, fun j hj => by omega, rfl⟩
    case round =>
      obtain ⟨k, m, hk, rfl, hz, rfl⟩ := hrel
      by_cases hk2 : k < n
      · obtain ⟨b, off, rfl, hb, hc⟩ := h.at_ hk2
        obtain ⟨b', off', rfl, hb', hc'⟩ := h'.at_ hk2
        have g1 := hc k hk2
        have g2 := hc' k hk2
        obtain ⟨x, hx⟩ : ∃ x, xs.getD k 0 = x := ⟨_, rfl⟩
        obtain ⟨y, hy⟩ : ∃ y, ys.getD k 0 = y := ⟨_, rfl⟩
        rw [hx] at g1
        rw [hy] at g2
        have HX := Lib.hid hx
        have HY := Lib.hid hy
        clear hc hc' hx hy
        by_cases hxy : x = y
        · subst hxy
          go_wp2
          go_region
          all_goals try go_wp2
          go_roundw
          case rel => exact ⟨k + 1, m + 1, by omega, by go_num, hz.step (by rw [HX.out, HY.out]), rfl⟩
          case measure => simp [mes, intOf]; omega
        · have hne : (x != y) = true := by simpa using hxy
          go_wp2
          go_region
          all_goals try go_wp2
          go_ret
          refine ⟨retB ?_, below_drewN w (m + 1)⟩
          symm
          rw [decide_eq_false_iff_not]
          rintro rfl
          exact hxy (by rw [← HX.out, ← HY.out])
      · go_wp2
        go_ret
        refine ⟨retB ?_, below_drewN w m⟩
        symm
        rw [decide_eq_true_eq]
        have hkn : k = xs.length := by have := h.len; omega
        rw [hkn] at hz
        exact hz.all (by rw [← h.len, ← h'.len])
  · have hne : decide (n = n') = false := by simpa using hl
    have hne2 : ((n : Int) != (n' : Int)) = true := by simp; omega
    go_enter Tryz.func92, Tryz.ntmps92
    go_wp2
    go_ret
    refine ⟨retB ?_, Below.refl _ _⟩
    symm
    rw [decide_eq_false_iff_not]
    rintro rfl
    exact hl (by rw [h.len, h'.len])

set_option maxHeartbeats 400000 in
theorem ref_words {w : World} {A A' : Option Addr} {n n' c c' : Nat} {xs ys : List Int} (h : Sl w A n c xs) (h' : Sl w A' n' c' ys) (hn : n ≤ 1000000000) (hn' : n' ≤ 1000000000) :
    Calls Tryz.prog 68 #[.slice A n c, .slice A' n' c'] w (RetBl (decide (xs = ys)) w) := by
  by_cases hl : n = n'
  · subst hl
    go_enter Tryz.func68, Tryz.ntmps68
    go_wp2
    go_loopw [13] (fun i wr => ∃ k m : Nat, k ≤ n ∧ i = .int .i64 k ∧ SameTo xs ys k ∧ wr = w.drewN m) (fun i _ => n - mes i)
    case atStart => exact ⟨0, 0, by omega, rfl, fun j hj => by omega, rfl⟩
    case round =>
      obtain ⟨k, m, hk, rfl, hz, rfl⟩ := hrel
      by_cases hk2 : k < n
      · obtain ⟨b, off, rfl, hb, hc⟩ := h.at_ hk2
        obtain ⟨b', off', rfl, hb', hc'⟩ := h'.at_ hk2
        have g1 := hc k hk2
        have g2 := hc' k hk2
        obtain ⟨x, hx⟩ : ∃ x, xs.getD k 0 = x := ⟨_, rfl⟩
        obtain ⟨y, hy⟩ : ∃ y, ys.getD k 0 = y := ⟨_, rfl⟩
        rw [hx] at g1
        rw [hy] at g2
        have HX := Lib.hid hx
        have HY := Lib.hid hy
        clear hc hc' hx hy
        by_cases hxy : x = y
        · subst hxy
          go_wp2
          go_region
          all_goals try go_wp2
          go_roundw
          case rel => exact ⟨k + 1, m + 1, by omega, by go_num, hz.step (by rw [HX.out, HY.out]), rfl⟩
          case measure => simp [mes, intOf]; omega
        · have hne : (x != y) = true := by simpa using hxy
          go_wp2
          go_region
          all_goals try go_wp2
          go_ret
          refine ⟨retB ?_, below_drewN w (m + 1)⟩
          symm
          rw [decide_eq_false_iff_not]
          rintro rfl
          exact hxy (by rw [← HX.out, ← HY.out])
      · go_wp2
        go_ret
        refine ⟨retB ?_, below_drewN w m⟩
        symm
        rw [decide_eq_true_eq]
        have hkn : k = xs.length := by have := h.len; omega
        rw [hkn] at hz
        exact hz.all (by rw [← h.len, ← h'.len])
  · have hne : decide (n = n') = false := by simpa using hl
    have hne2 : ((n : Int) != (n' : Int)) = true := by simp; omega
    go_enter Tryz.func68, Tryz.ntmps68
    go_wp2
    go_ret
    refine ⟨retB ?_, Below.refl _ _⟩
    symm
    rw [decide_eq_false_iff_not]
    rintro rfl
    exact hl (by rw [h.len, h'.len])

set_option maxRecDepth 100000 in
set_option maxHeartbeats 4000000 in
theorem rat_same {w : World} {s t : Bool} {A A' B B' : Option Addr} {n n' c c' m m' d d' : Nat} {xs ys us vs : List Int} (h : Sl w A n c xs) (h' : Sl w A' n' c' ys) (k : Sl w B m d us) (k' : Sl w B' m' d' vs) (hn : n ≤ 1000000) (hn' : n' ≤ 1000000) (hm : m ≤ 1000000) (hm' : m' ≤ 1000000) :
    Calls Tryz.prog 54 #[.agg #[.bool s, .slice A n c, .slice A' n' c'], .agg #[.bool t, .slice B m d, .slice B' m' d']] w (RetBl (decide (s = t ∧ xs = us ∧ ys = vs)) w) := by
  obtain ⟨V, hW, Ba, Bb, hb0⟩ := boxes1 51 w #[.bool s, .slice A n c, .slice A' n' c'] #[.bool t, .slice B m d, .slice B' m' d']
  have E1 := fun w1 (hb : Below V.heap.size V w1) => sl_equal (h.below (bb hb0 hb)) (k.below (bb hb0 hb)) (by omega) (by omega)
  have E2 := fun w1 (hb : Below V.heap.size V w1) => sl_equal (h'.below (bb hb0 hb)) (k'.below (bb hb0 hb)) (by omega) (by omega)
  have hS : ∀ w', Below V.heap.size V w' → (w'.cell? ⟨w.heap.size, 0, none⟩ = some (.bool s) ∧ w'.cell? ⟨w.heap.size, 1, none⟩ = some (.slice A n c) ∧ w'.cell? ⟨w.heap.size, 2, none⟩ = some (.slice A' n' c')) ∧ (w'.cell? ⟨w.heap.size + 1, 0, none⟩ = some (.bool t) ∧ w'.cell? ⟨w.heap.size + 1, 1, none⟩ = some (.slice B m d) ∧ w'.cell? ⟨w.heap.size + 1, 2, none⟩ = some (.slice B' m' d')) := fun w' hb => ⟨(Ba.below' hb).three.1, (Bb.below' hb).three.1⟩
  have HS := Lib.hid hS
  have HW := Lib.hid hW
  clear hS Ba Bb hW h k h' k'
  by_cases hst : s = t
  · subst hst
    by_cases h1 : xs = us
    · rw [decide_eq_true h1] at E1
      obtain ⟨b2, hb2⟩ : ∃ b, decide (s = s ∧ xs = us ∧ ys = vs) = b := ⟨_, rfl⟩
      have e2 : decide (ys = vs) = b2 := by rw [← hb2]; simp [h1]
      rw [hb2]
      rw [e2] at E2
      have HE1 := Lib.hid E1
      have HE2 := Lib.hid E2
      clear E1 E2 hb2 e2 h1
      go_enter Tryz.func54, Tryz.ntmps54
      go_wp2_with fail
      refine (HE1.out _ (by rw [HW.out]; exact Below.refl _ _)).mono ?_
      rintro _ w1 ⟨rfl, b1⟩
      rw [HW.out] at b1
      clear HW
      obtain ⟨⟨k0, k1, k2⟩, j0, j1, j2⟩ := HS.out _ b1
      go_wp2_with fail
      refine (HE2.out _ b1).mono ?_
      rintro _ w2 ⟨rfl, b2⟩
      go_wp2_with fail
      go_ret
      exact ⟨rfl, bb hb0 (bb b1 b2)⟩
    · rw [decide_eq_false h1] at E1
      rw [decide_eq_false (fun e => h1 e.2.1)]
      have HE1 := Lib.hid E1
      clear E1 E2 h1
      go_enter Tryz.func54, Tryz.ntmps54
      go_wp2_with fail
      refine (HE1.out _ (by rw [HW.out]; exact Below.refl _ _)).mono ?_
      rintro _ w1 ⟨rfl, b1⟩
      rw [HW.out] at b1
      clear HW
      go_wp2_with fail
      go_ret
      exact ⟨rfl, bb hb0 b1⟩
  · rw [decide_eq_false (fun e => hst e.1)]
    have hne : (s == t) = false := by simpa using hst
    clear E1 E2 hst
    go_enter Tryz.func54, Tryz.ntmps54
    go_wp2_with fail
    rw [HW.out]
    go_ret
    exact ⟨rfl, hb0⟩

set_option maxRecDepth 100000 in
set_option maxHeartbeats 4000000 in
theorem ref_same {w : World} {s t : Bool} {A A' B B' : Option Addr} {n n' c c' m m' d d' : Nat} {xs ys us vs : List Int} (h : Sl w A n c xs) (h' : Sl w A' n' c' ys) (k : Sl w B m d us) (k' : Sl w B' m' d' vs) (hn : n ≤ 1000000) (hn' : n' ≤ 1000000) (hm : m ≤ 1000000) (hm' : m' ≤ 1000000) :
    Calls Tryz.prog 40 #[.agg #[.bool s, .slice A n c, .slice A' n' c'], .agg #[.bool t, .slice B m d, .slice B' m' d']] w (RetBl (decide (s = t ∧ xs = us ∧ ys = vs)) w) := by
  obtain ⟨V, hW, Ba, Bb, hb0⟩ := boxes1 51 w #[.bool s, .slice A n c, .slice A' n' c'] #[.bool t, .slice B m d, .slice B' m' d']
  have E1 := fun w1 (hb : Below V.heap.size V w1) => ref_words (h.below (bb hb0 hb)) (k.below (bb hb0 hb)) (by omega) (by omega)
  have E2 := fun w1 (hb : Below V.heap.size V w1) => ref_words (h'.below (bb hb0 hb)) (k'.below (bb hb0 hb)) (by omega) (by omega)
  have hS : ∀ w', Below V.heap.size V w' → (w'.cell? ⟨w.heap.size, 0, none⟩ = some (.bool s) ∧ w'.cell? ⟨w.heap.size, 1, none⟩ = some (.slice A n c) ∧ w'.cell? ⟨w.heap.size, 2, none⟩ = some (.slice A' n' c')) ∧ (w'.cell? ⟨w.heap.size + 1, 0, none⟩ = some (.bool t) ∧ w'.cell? ⟨w.heap.size + 1, 1, none⟩ = some (.slice B m d) ∧ w'.cell? ⟨w.heap.size + 1, 2, none⟩ = some (.slice B' m' d')) := fun w' hb => ⟨(Ba.below' hb).three.1, (Bb.below' hb).three.1⟩
  have HS := Lib.hid hS
  have HW := Lib.hid hW
  clear hS Ba Bb hW h k h' k'
  by_cases hst : s = t
  · subst hst
    by_cases h1 : xs = us
    · rw [decide_eq_true h1] at E1
      obtain ⟨b2, hb2⟩ : ∃ b, decide (s = s ∧ xs = us ∧ ys = vs) = b := ⟨_, rfl⟩
      have e2 : decide (ys = vs) = b2 := by rw [← hb2]; simp [h1]
      rw [hb2]
      rw [e2] at E2
      have HE1 := Lib.hid E1
      have HE2 := Lib.hid E2
      clear E1 E2 hb2 e2 h1
      go_enter Tryz.func40, Tryz.ntmps40
      go_wp2_with fail
      refine (HE1.out _ (by rw [HW.out]; exact Below.refl _ _)).mono ?_
      rintro _ w1 ⟨rfl, b1⟩
      rw [HW.out] at b1
      clear HW
      obtain ⟨⟨k0, k1, k2⟩, j0, j1, j2⟩ := HS.out _ b1
      go_wp2_with fail
      refine (HE2.out _ b1).mono ?_
      rintro _ w2 ⟨rfl, b2⟩
      go_wp2_with fail
      go_ret
      exact ⟨rfl, bb hb0 (bb b1 b2)⟩
    · rw [decide_eq_false h1] at E1
      rw [decide_eq_false (fun e => h1 e.2.1)]
      have HE1 := Lib.hid E1
      clear E1 E2 h1
      go_enter Tryz.func40, Tryz.ntmps40
      go_wp2_with fail
      refine (HE1.out _ (by rw [HW.out]; exact Below.refl _ _)).mono ?_
      rintro _ w1 ⟨rfl, b1⟩
      rw [HW.out] at b1
      clear HW
      go_wp2_with fail
      go_ret
      exact ⟨rfl, bb hb0 b1⟩
  · rw [decide_eq_false (fun e => hst e.1)]
    have hne : (s == t) = false := by simpa using hst
    clear E1 E2 hst
    go_enter Tryz.func40, Tryz.ntmps40
    go_wp2_with fail
    rw [HW.out]
    go_ret
    exact ⟨rfl, hb0⟩

theorem same_Q {w : World} {s t : Bool} {A A' B B' : Option Addr} {n n' c c' m m' d d' : Nat} {X Y : Rat} (h : Q w s A n c A' n' c' X) (k : Q w t B m d B' m' d' Y) :
    decide (s = t ∧ words X.num.natAbs = words Y.num.natAbs ∧ words X.den = words Y.den) = decide (X = Y) := by
  rw [Bool.eq_iff_iff]
  simp only [decide_eq_true_eq]
  constructor
  · rintro ⟨e1, e2, e3⟩
    exact rat_ext (by rw [← h.1, ← k.1, e1]) (words_inj e2) (words_inj e3)
  · rintro rfl
    exact ⟨by rw [h.1, k.1], rfl, rfl⟩
theorem ref_sameQ {w : World} {s t : Bool} {A A' B B' : Option Addr} {n n' c c' m m' d d' N : Nat} {X Y : Rat} (h : Q w s A n c A' n' c' X) (k : Q w t B m d B' m' d' Y) (hX : Sz X N) (hY : Sz Y N) (hN : N ≤ 40000) : Calls Tryz.prog 40 #[.agg #[.bool s, .slice A n c, .slice A' n' c'], .agg #[.bool t, .slice B m d, .slice B' m' d']] w (RetBl (decide (X = Y)) w) := by
  have := ref_same (s := s) (t := t) h.2.1 h.2.2 k.2.1 k.2.2 (by have := h.2.1.small hX.1; omega) (by have := h.2.2.small hX.2; omega) (by have := k.2.1.small hY.1; omega) (by have := k.2.2.small hY.2; omega)
  rw [same_Q h k] at this
  exact this

end Go.Proofs.YthpbaaanbimapaaGreatDoor

namespace Go.Proofs.YthpbaaanbimapaaGreatDoor
set_option maxRecDepth 100000
open Go.RowKit
set_option linter.unusedVariables false
set_option linter.unusedSimpArgs false

end Go.Proofs.YthpbaaanbimapaaGreatDoor

namespace Go.Proofs.YthpbaaanbimapaaGreatDoor
set_option maxRecDepth 100000
open Go.RowKit
set_option linter.unusedVariables false
set_option linter.unusedSimpArgs false

/-- the six cells of a box of an instruction -/
theorem Box.six {t : TypeId} {w : World} {g : Nat} {v0 v1 v2 v3 v4 v5 : Value} (h : Box t w g #[v0, v1, v2, v3, v4, v5]) :
    (w.cell? ⟨g, 0, none⟩ = some v0 ∧ w.cell? ⟨g, 1, none⟩ = some v1 ∧ w.cell? ⟨g, 2, none⟩ = some v2 ∧ w.cell? ⟨g, 3, none⟩ = some v3 ∧ w.cell? ⟨g, 4, none⟩ = some v4 ∧ w.cell? ⟨g, 5, none⟩ = some v5) ∧
    (w.frozen? ⟨g, 0, none⟩ = false ∧ w.frozen? ⟨g, 1, none⟩ = false ∧ w.frozen? ⟨g, 2, none⟩ = false ∧ w.frozen? ⟨g, 3, none⟩ = false ∧ w.frozen? ⟨g, 4, none⟩ = false ∧ w.frozen? ⟨g, 5, none⟩ = false) :=
  ⟨⟨h.cell 0, h.cell 1, h.cell 2, h.cell 3, h.cell 4, h.cell 5⟩, h.free 0, h.free 1, h.free 2, h.free 3, h.free 4, h.free 5⟩

end Go.Proofs.YthpbaaanbimapaaGreatDoor

namespace Go.Proofs.YthpbaaanbimapaaGreatDoor
set_option maxRecDepth 100000
open Go.RowKit
set_option linter.unusedVariables false
set_option linter.unusedSimpArgs false

/-- an exact number as it lies reads as X -/
def RQ.is (w : World) (x : RQ) (X : Rat) : Prop := Q w x.s x.A x.n x.c x.A' x.n' x.c' X
/-- a slice of exact numbers that read as Xs -/
def SlQ (w : World) (A : Option Addr) (n c : Nat) (Xs : List Rat) : Prop := ∃ xs : List RQ, SlR w A n c xs ∧ xs.length = Xs.length ∧ ∀ (j : Nat) (x : RQ), xs[j]? = some x → x.is w (Xs.getD j 0)
theorem SlQ.below {w w' : World} {A : Option Addr} {n c : Nat} {Xs : List Rat} (h : SlQ w A n c Xs) (hb : Below w.heap.size w w') : SlQ w' A n c Xs := by
  obtain ⟨xs, h1, h2, h3⟩ := h
  exact ⟨xs, h1.below hb, h2, fun j x hx => (h3 j x hx).below hb⟩
theorem SlQ.len {w : World} {A : Option Addr} {n c : Nat} {Xs : List Rat} (h : SlQ w A n c Xs) : n = Xs.length := by
  obtain ⟨xs, h1, h2, _⟩ := h
  rw [← h2]; exact h1.1.1.symm
theorem SlQ.at_ {w : World} {A : Option Addr} {n c : Nat} {Xs : List Rat} (h : SlQ w A n c Xs) {j : Nat} (hj : j < n) : ∃ b off s A1 n1 c1 A2 n2 c2, A = some ⟨b, off, none⟩ ∧ b < w.heap.size ∧
    w.cell? ⟨b, off + j * 3, none⟩ = some (.bool s) ∧ w.cell? ⟨b, off + j * 3 + 1, none⟩ = some (.slice A1 n1 c1) ∧ w.cell? ⟨b, off + j * 3 + 2, none⟩ = some (.slice A2 n2 c2) ∧ Q w s A1 n1 c1 A2 n2 c2 (Xs.getD j 0) := by
  obtain ⟨xs, h1, h2, h3⟩ := h
  obtain ⟨b, off, x, e, hlt, hx, hok, c0, c1, c2⟩ := h1.at_ hj
  exact ⟨b, off, x.s, x.A, x.n, x.c, x.A', x.n', x.c', e, hlt, c0, c1, c2, h3 j x hx⟩
theorem SlQ.nil (w : World) : SlQ w none 0 0 [] := ⟨[], ⟨⟨rfl, Nat.le_refl _, by unfold maxLen; omega, by simp⟩, fun h0 => absurd h0 (by omega)⟩, rfl, fun j x hx => by simp at hx⟩
/-- a row of exact numbers that the call made -/
def OwnQ (B : Nat) (w : World) (v : Value) (Xs : List Rat) : Prop := ∃ xs : List RQ, OwnC 3 RQ.cells 51 B w v xs ∧ xs.length = Xs.length ∧ ∀ (j : Nat) (x : RQ), xs[j]? = some x → x.ok w ∧ x.is w (Xs.getD j 0)
theorem OwnQ.form {B : Nat} {w : World} {v : Value} {Xs : List Rat} (h : OwnQ B w v Xs) : ∃ A c, v = .slice A Xs.length c := by
  obtain ⟨xs, h1, h2, _⟩ := h
  obtain ⟨A, c, e, _⟩ := h1.form
  exact ⟨A, c, by rw [e, h2]⟩
theorem OwnQ.below {B : Nat} {w w' : World} {v : Value} {Xs : List Rat} (h : OwnQ B w v Xs) (hb : Below w.heap.size w w') : OwnQ B w' v Xs := by
  obtain ⟨xs, h1, h2, h3⟩ := h
  exact ⟨xs, h1.below hb, h2, fun j x hx => ⟨RQ.below (h3 j x hx).1 hb, (h3 j x hx).2.below hb⟩⟩
theorem Q.grownC {w w1 : World} {r : Option Nat} {s : Bool} {A A' : Option Addr} {n c n' c' : Nat} {X : Rat} (h : Q w s A n c A' n' c' X) (hg : w.grownBy w1 r) (hr : ∀ g, r = some g → NoWAt w g) : Q w1 s A n c A' n' c' X := ⟨h.1, h.2.1.grownC hg hr, h.2.2.grownC hg hr⟩
theorem ri_one (x : RI) : ∀ u ∈ x.cells, u.oneCell' = true := by
  intro u hu
  unfold RI.cells at hu
  simp only [List.mem_cons, List.not_mem_nil, or_false] at hu
  rcases hu with rfl | rfl | rfl | rfl | rfl | rfl <;> rfl
/-- append of an exact number -/
theorem OwnQ.append {B : Nat} {w w' : World} {v v' : Value} {Xs : List Rat} {xs : List RQ} {x : RQ} {X : Rat} {o : Obj} (h1 : OwnC 3 RQ.cells 51 B w v xs) (h2 : xs.length = Xs.length) (h3 : ∀ (j : Nat) (x : RQ), xs[j]? = some x → x.ok w ∧ x.is w (Xs.getD j 0))
    (hx : x.ok w) (hX : x.is w X) (ho : OwnC 3 RQ.cells 51 B w' v' (xs ++ [x])) (hg : (w.alloc o).grownBy w' v.ownBlock) : OwnQ B w' v' (Xs ++ [X]) := by
  have ba := below_alloc w o
  have hn := (h1.below ba).noW
  refine ⟨xs ++ [x], ho, by simp [h2], fun j y hy => ?_⟩
  rcases Nat.lt_or_ge j xs.length with hj | hj
  · rw [List.getElem?_append_left hj] at hy
    obtain ⟨g1, g2⟩ := h3 j y hy
    rw [getD_app_left Xs [X] (by omega)]
    exact ⟨RQ.grownC (RQ.below g1 ba) hg hn, Q.grownC (g2.below ba) hg hn⟩
  · have hj2 : j = xs.length := by
      rw [List.getElem?_append_right hj] at hy
      rcases Nat.eq_zero_or_pos (j - xs.length) with h0 | h0
      · omega
      · rw [List.getElem?_eq_none (by simp; omega)] at hy; cases hy
    subst hj2
    rw [List.getElem?_append_right (Nat.le_refl _), Nat.sub_self] at hy
    have e : x = y := by simpa using hy
    subst e
    rw [getD_app_end Xs X h2.symm]
    exact ⟨RQ.grownC (RQ.below hx ba) hg hn, Q.grownC (hX.below ba) hg hn⟩
/-- append of nothing onto nothing -/
theorem run_append_zero (w : World) (t ty e : TypeId) (i : TypeInfo) (ht : Tryz.prog.underlying t = some (.slice e)) (hi : Tryz.prog.info? e = some i) (A : Option Addr) (c : Nat) :
    (Builtin.append_ #[t, t] ty #[.slice none 0 0, .slice A 0 c]).run Tryz.prog w = .ok (.slice none 0 0) w := by
  cases A <;> simp [Builtin.append_, run_underlying ht, sizeOf, typeInfo, hi, Builtin.lenOf, Builtin.firstCells, loadCells, loadCellsFrom]
theorem wpList_append_zero (w : World) {ops : Array Oper} {rest : List Oper} {o : Oper} {a : Act} {Q : Exit → Act → World → Prop} (hgd : o.guard = none) (s x : Operand) (t : TypeId)
    (ho : o.op = .call { callee := .builtin .append, args := #[s, x], argTypes := #[t, t] }) (e : TypeId) (i : TypeInfo) (ht : Tryz.prog.underlying t = some (.slice e)) (hi : Tryz.prog.info? e = some i)
    (A : Option Addr) (c : Nat) (hs : a.eval s = .slice none 0 0) (hx : a.eval x = .slice A 0 c)
    (h : wpList Tryz.prog ops Q rest (a.put o.dst (.slice none 0 0)) w) : wpList Tryz.prog ops Q (o :: rest) a w := by
  refine wpList_plain hgd fun K hK => ?_
  unfold Oper.wp execOp
  simp only [ho, resolve, invoke, builtin, Sem.run_bind, Sem.run_pure, Result.andThen_ok, List.map_toArray, List.map_cons, List.map_nil, hs, hx, run_append_zero w t o.type e i ht hi A c]
  exact hK _ _ h

end Go.Proofs.YthpbaaanbimapaaGreatDoor

namespace Go.Proofs.YthpbaaanbimapaaGreatDoor
set_option maxRecDepth 100000
open Go.RowKit
set_option linter.unusedVariables false
set_option linter.unusedSimpArgs false

end Go.Proofs.YthpbaaanbimapaaGreatDoor

namespace Go.Proofs.YthpbaaanbimapaaGreatDoor
set_option maxRecDepth 100000
open Go.RowKit
set_option linter.unusedVariables false
set_option linter.unusedSimpArgs false

theorem raw_err {ins fs v : List Rat} {x : PI} {e : Int} (h : raw ins fs x v = .error e) : e = 4 ∨ e = 6 ∨ e = 11 := by
  unfold raw at h
  split at h
  · split at h
    · cases h
    · injection h with h; omega
  · split at h
    · cases h
    · split at h
      · cases h
      · split at h
        · cases h
        · split at h
          · cases h
          · split at h
            · cases h
            · split at h
              · split at h
                · injection h with h; omega
                · cases h
              · split at h
                · cases h
                · injection h with h; omega
end Go.Proofs.YthpbaaanbimapaaGreatDoor

namespace Go.Proofs.YthpbaaanbimapaaGreatDoor
set_option maxRecDepth 100000
set_option linter.unusedVariables false
set_option linter.unusedSimpArgs false

/-- p / d, rounded to the nearest natural, ties to the even one -/
def rdiv (p d : Nat) : Nat := if d < 2 * (p % d) ∨ (2 * (p % d) = d ∧ p / d % 2 = 1) then p / d + 1 else p / d
/-- how many bits the nearest double leaves out below -/
def ulp (p d : Nat) : Nat := blen (p / d) - 53
@[irreducible] def INF : Nat := 9218868437227405312
/-- 2^52 -/
@[irreducible] def B52 : Nat := 4503599627370496
/-- the word, without a sign, of the double nearest to p / d -/
def mag (p d : Nat) : Nat := min (ulp p d * B52 + rdiv p (d * 2 ^ ulp p d)) INF
/-- what a word without a sign says -/
def fv (b : Nat) : Nat := if b / B52 = 0 then b else (b % B52 + B52) * 2 ^ (b / B52 - 1)

theorem B52_pow : B52 = 2 ^ 52 := by unfold B52; rfl
theorem B52_eq : B52 = 4503599627370496 := by unfold B52; rfl
theorem INF_eq : INF = 2047 * B52 := by unfold INF B52; rfl
theorem B52_pos : 0 < B52 := by unfold B52; omega

/-- what rounding does: at most half a unit off; where it is just half a unit off, the result is even -/
theorem rdiv_spec (p : Nat) {d : Nat} (hd : 0 < d) : 2 * p ≤ (2 * rdiv p d + 1) * d ∧ 2 * rdiv p d * d ≤ 2 * p + d ∧ (2 * p = (2 * rdiv p d + 1) * d → rdiv p d % 2 = 0) ∧ (2 * rdiv p d * d = 2 * p + d → rdiv p d % 2 = 0) := by
  have h1 : p / d * d + p % d = p := Nat.div_add_mod' p d
  have h2 := Nat.mod_lt p hd
  unfold rdiv
  generalize p / d = q at *
  generalize p % d = r at *
  have e0 : (2 * q + 1) * d = 2 * (q * d) + d := by grind
  have e1 : 2 * q * d = 2 * (q * d) := by grind
  have e2 : (2 * (q + 1) + 1) * d = 2 * (q * d) + 3 * d := by grind
  have e3 : 2 * (q + 1) * d = 2 * (q * d) + 2 * d := by grind
  generalize q * d = x at *
  by_cases h : d < 2 * r ∨ (2 * r = d ∧ q % 2 = 1)
  · rw [if_pos h, e2, e3]
    omega
  · rw [if_neg h, e0, e1]
    omega
/-- how great the rounded number of units is -/
theorem units_le (p : Nat) {d : Nat} (hd : 0 < d) : rdiv p (d * 2 ^ ulp p d) ≤ 2 * B52 := by
  have hu : 0 < 2 ^ ulp p d := Nat.two_pow_pos _
  have h1 : p / (d * 2 ^ ulp p d) < 2 * B52 := by
    rw [← Nat.div_div_eq_div_mul, Nat.div_lt_iff_lt_mul hu]
    refine Nat.lt_of_lt_of_le (blen_lt (p / d)) ?_
    rw [B52_pow, ← Nat.pow_succ', ← Nat.pow_add]
    exact Nat.pow_le_pow_right (by omega) (by unfold ulp; omega)
  unfold rdiv
  split <;> omega
theorem units_ge (p : Nat) {d : Nat} (hd : 0 < d) (h0 : 0 < ulp p d) : B52 ≤ rdiv p (d * 2 ^ ulp p d) := by
  have hu : 0 < 2 ^ ulp p d := Nat.two_pow_pos _
  have h1 : B52 ≤ p / (d * 2 ^ ulp p d) := by
    rw [← Nat.div_div_eq_div_mul, Nat.le_div_iff_mul_le hu]
    have hp : 0 < p / d := by
      rcases Nat.eq_zero_or_pos (p / d) with h | h
      · unfold ulp at h0; rw [h, blen_zero] at h0; omega
      · exact h
    refine Nat.le_trans ?_ (blen_self hp)
    rw [B52_pow, ← Nat.pow_add]
    exact Nat.pow_le_pow_right (by omega) (by unfold ulp at *; omega)
  unfold rdiv
  split <;> omega
/-- is p / d a double, just so? -/
def Ex (p d : Nat) : Prop := p % d = 0 ∧ p / d % 2 ^ ulp p d = 0 ∧ blen (p / d) ≤ 2098
instance (p d : Nat) : Decidable (Ex p d) := by unfold Ex; infer_instance
/-- the word of what a word says -/
theorem fv_norm (b : Nat) : ∃ x s, fv b = x * 2 ^ s ∧ x < 2 * B52 ∧ (B52 ≤ x ∨ s = 0) ∧ s * B52 + x = b ∧ (b < INF → s ≤ 2045) := by
  have hm := Nat.mod_lt b B52_pos
  have hd := Nat.div_add_mod b B52
  unfold fv
  by_cases h : b / B52 = 0
  · rw [if_pos h]
    rw [h, Nat.mul_zero, Nat.zero_add] at hd
    exact ⟨b, 0, by simp, by omega, .inr rfl, by omega, fun _ => by omega⟩
  · rw [if_neg h]
    refine ⟨b % B52 + B52, b / B52 - 1, rfl, by omega, .inl (by omega), ?_, fun hb => ?_⟩
    · obtain ⟨k, hk⟩ : ∃ k, b / B52 = k + 1 := ⟨b / B52 - 1, (Nat.succ_pred_eq_of_ne_zero h).symm⟩
      rw [hk, Nat.mul_add, Nat.mul_one, Nat.mul_comm] at hd
      rw [hk, Nat.add_sub_cancel]
      omega
    · have : b / B52 < 2047 := by rw [Nat.div_lt_iff_lt_mul B52_pos]; rw [INF_eq] at hb; exact hb
      omega
/-- a number's units, as a normalized significand -/
theorem units_norm (p : Nat) {d : Nat} (hd : 0 < d) : ∃ x s, rdiv p (d * 2 ^ ulp p d) * 2 ^ ulp p d = x * 2 ^ s ∧ x < 2 * B52 ∧ (B52 ≤ x ∨ s = 0) ∧ s * B52 + x = ulp p d * B52 + rdiv p (d * 2 ^ ulp p d) := by
  have h1 := units_le p hd
  have h2 := units_ge p hd
  generalize hx : rdiv p (d * 2 ^ ulp p d) = x at *
  generalize ulp p d = s at *
  rcases Nat.lt_or_ge x (2 * B52) with hl | hl
  · exact ⟨x, s, rfl, hl, by rcases Nat.eq_zero_or_pos s with h | h; exact .inr h; exact .inl (h2 h), rfl⟩
  · obtain rfl : x = 2 * B52 := by omega
    refine ⟨B52, s + 1, by rw [Nat.pow_succ]; grind, by have := B52_pos; omega, .inl (Nat.le_refl _), by grind⟩
/-- .. what it says -/
theorem fv_mag (p : Nat) {d : Nat} (hd : 0 < d) (h : mag p d < INF) : fv (mag p d) = rdiv p (d * 2 ^ ulp p d) * 2 ^ ulp p d := by
  obtain ⟨x, s, e, h1, h2, h3⟩ := units_norm p hd
  have hm : mag p d = s * B52 + x := by
    unfold mag at h ⊢
    rw [h3]; omega
  obtain ⟨y, t, e', k1, k2, k3, _⟩ := fv_norm (mag p d)
  rw [e, e']
  have hst : s = t ∧ x = y := by
    rw [hm] at k3
    have hs : s = t := by
      rcases Nat.lt_trichotomy s t with hl | hl | hl
      · exfalso
        have : (s + 1) * B52 ≤ t * B52 := Nat.mul_le_mul_right _ hl
        rw [Nat.add_mul, Nat.one_mul] at this
        rcases k2 with k2 | k2 <;> omega
      · exact hl
      · exfalso
        have : (t + 1) * B52 ≤ s * B52 := Nat.mul_le_mul_right _ hl
        rw [Nat.add_mul, Nat.one_mul] at this
        rcases h2 with h2 | h2 <;> omega
    subst hs
    exact ⟨rfl, by omega⟩
  rw [hst.1, hst.2]
theorem mag_parity (p : Nat) {d : Nat} (hd : 0 < d) (h : mag p d < INF) : mag p d % 2 = rdiv p (d * 2 ^ ulp p d) % 2 := by
  have : mag p d = ulp p d * B52 + rdiv p (d * 2 ^ ulp p d) := by unfold mag at h ⊢; omega
  rw [this, B52_eq]
  omega

/-- how far apart -/
def dist (a b : Nat) : Nat := a - b + (b - a)
/-- no multiple of the unit is nearer -/
theorem rdiv_near (p k : Nat) {d : Nat} (hd : 0 < d) : dist p (rdiv p d * d) ≤ dist p (k * d) ∧ (dist p (rdiv p d * d) = dist p (k * d) → k = rdiv p d ∨ rdiv p d % 2 = 0) := by
  obtain ⟨a1, a2, a3, a4⟩ := rdiv_spec p hd
  generalize rdiv p d = x at *
  have e1 : (2 * x + 1) * d = 2 * (x * d) + d := by grind
  have e2 : 2 * x * d = 2 * (x * d) := by grind
  rw [e1] at a1 a3
  rw [e2] at a2 a4
  unfold dist
  rcases Nat.lt_trichotomy k x with hl | hl | hl
  · have : (k + 1) * d ≤ x * d := Nat.mul_le_mul_right _ hl
    rw [Nat.add_mul, Nat.one_mul] at this
    generalize x * d = X at *
    generalize k * d = Y at *
    refine ⟨by omega, fun h => .inr (a4 (by omega))⟩
  · subst hl
    exact ⟨Nat.le_refl _, fun _ => .inl rfl⟩
  · have : (x + 1) * d ≤ k * d := Nat.mul_le_mul_right _ hl
    rw [Nat.add_mul, Nat.one_mul] at this
    generalize x * d = X at *
    generalize k * d = Y at *
    refine ⟨by omega, fun h => .inr (a3 (by omega))⟩
/-- NO DOUBLE IS NEARER: of two that are as near it is the even one -/
theorem nearest (p b : Nat) {d : Nat} (hd : 0 < d) (h : mag p d < INF) (hb : b < INF) :
    dist p (fv (mag p d) * d) ≤ dist p (fv b * d) ∧ (dist p (fv (mag p d) * d) = dist p (fv b * d) → fv b = fv (mag p d) ∨ mag p d % 2 = 0) := by
  rw [mag_parity p hd h, fv_mag p hd h]
  have hu : 0 < 2 ^ ulp p d := Nat.two_pow_pos _
  have hU : 0 < d * 2 ^ ulp p d := Nat.mul_pos hd hu
  rw [show rdiv p (d * 2 ^ ulp p d) * 2 ^ ulp p d * d = rdiv p (d * 2 ^ ulp p d) * (d * 2 ^ ulp p d) by grind]
  obtain ⟨y, t, e, k1, k2, k3, _⟩ := fv_norm b
  rcases Nat.lt_or_ge t (ulp p d) with hl | hl
  · -- b lies below the binade of p
    have h0 : 0 < p / d := by
      rcases Nat.eq_zero_or_pos (p / d) with hz | hz
      · unfold ulp at hl; rw [hz, blen_zero] at hl; omega
      · exact hz
    have hlow : B52 * 2 ^ ulp p d * d ≤ p := by
      have h1 := blen_self h0
      have h2 : B52 * 2 ^ ulp p d = 2 ^ (blen (p / d) - 1) := by
        rw [B52_pow, ← Nat.pow_add]; congr 1; unfold ulp at *; omega
      rw [h2]
      exact Nat.le_trans (Nat.mul_le_mul_right _ h1) (Nat.div_mul_le_self p d)
    have hy : fv b < B52 * 2 ^ ulp p d := by
      rw [e]
      have h1 : y * 2 ^ t < 2 * B52 * 2 ^ t := Nat.mul_lt_mul_of_pos_right k1 (Nat.two_pow_pos t)
      have h2 : 2 * B52 * 2 ^ t = B52 * 2 ^ (t + 1) := by rw [Nat.pow_succ]; grind
      have h3 : B52 * 2 ^ (t + 1) ≤ B52 * 2 ^ ulp p d := Nat.mul_le_mul_left _ (Nat.pow_le_pow_right (by omega) hl)
      omega
    have hy2 : fv b * d < B52 * 2 ^ ulp p d * d := Nat.mul_lt_mul_of_pos_right hy hd
    obtain ⟨n1, _⟩ := rdiv_near p B52 hU
    rw [show B52 * (d * 2 ^ ulp p d) = B52 * 2 ^ ulp p d * d by grind] at n1
    have hlt : dist p (B52 * 2 ^ ulp p d * d) < dist p (fv b * d) := by
      generalize fv b * d = x at *
      generalize B52 * 2 ^ ulp p d * d = z at *
      unfold dist; omega
    exact ⟨by omega, fun h => by omega⟩
  · have hk : fv b = (y * 2 ^ (t - ulp p d)) * 2 ^ ulp p d := by
      rw [e, Nat.mul_assoc, ← Nat.pow_add]; congr 2; omega
    rw [hk, show y * 2 ^ (t - ulp p d) * 2 ^ ulp p d * d = y * 2 ^ (t - ulp p d) * (d * 2 ^ ulp p d) by grind]
    obtain ⟨n1, n2⟩ := rdiv_near p (y * 2 ^ (t - ulp p d)) hU
    refine ⟨n1, fun h => ?_⟩
    rcases n2 h with h | h
    · left; rw [h]
    · exact .inr h
end Go.Proofs.YthpbaaanbimapaaGreatDoor

namespace Go.Proofs.YthpbaaanbimapaaGreatDoor
set_option maxRecDepth 100000
set_option linter.unusedVariables false
set_option linter.unusedSimpArgs false

def up (e : Int) : Nat := (e + 1074).toNat
def dn (e : Int) : Nat := (-(e + 1074)).toNat
/-- the word of the double nearest to p / q * 2^e -/
def magR (p q : Nat) (e : Int) : Nat := mag (p * 2 ^ up e) (q * 2 ^ dn e)
/-- is p / q * 2^e a double, just so? -/
def ExR (p q : Nat) (e : Int) : Prop := Ex (p * 2 ^ up e) (q * 2 ^ dn e)
instance (p q : Nat) (e : Int) : Decidable (ExR p q e) := by unfold ExR; infer_instance
/-- a double's word with its sign -/
def sg (s : Bool) (b : Nat) : Nat := if s then b + 9223372036854775808 else b
end Go.Proofs.YthpbaaanbimapaaGreatDoor

namespace Go.Proofs.YthpbaaanbimapaaGreatDoor
set_option maxRecDepth 100000
open Go.RowKit
set_option linter.unusedVariables false
set_option linter.unusedSimpArgs false

/-- the exponent's field, the fraction, the sign, the kind of a double -/
def fld (b : Nat) : Nat := b / 4503599627370496 % 2048
def rst (b : Nat) : Nat := b % 4503599627370496
def ng (b : Nat) : Bool := decide (9223372036854775808 ≤ b)
def kd (b : Nat) : Nat := if fld b = 2047 then (if rst b = 0 then 3 else 4) else if fld b = 0 then (if rst b = 0 then 0 else 1) else 2
/-- the significand and the exponent of a finite one -/
def sig (b : Nat) : Nat := if fld b = 0 then rst b else rst b + 4503599627370496
def xpo (b : Nat) : Int := if fld b = 0 then -1074 else (fld b : Int) - 1075
theorem fld_lt (b : Nat) : fld b ≤ 2047 := by unfold fld; omega
theorem U_n64 {b : Nat} (h : b < 18446744073709551616) : U (b : Int) := by unfold U; omega
theorem fld_bits {b : Nat} (h : b < 18446744073709551616) : bits .and .u64 ((b : Int) / 4503599627370496) 2047 = (fld b : Int) := by
  have := and_mask 11 (by decide) (a := (b : Int) / 4503599627370496) (by unfold U; omega)
  have e : ((2 ^ 11 - 1 : Nat) : Int) = 2047 := by decide
  rw [e] at this
  rw [this]
  unfold fld
  have e2 : ((2 ^ 11 : Nat) : Int) = 2048 := by decide
  rw [e2]
  omega
theorem rst_bits {b : Nat} (h : b < 18446744073709551616) : bits .and .u64 (b : Int) 4503599627370495 = (rst b : Int) := by
  have := and_mask 52 (by decide) (U_n64 h)
  have e : ((2 ^ 52 - 1 : Nat) : Int) = 4503599627370495 := by decide
  rw [e] at this
  rw [this]
  unfold rst
  have e2 : ((2 ^ 52 : Nat) : Int) = 4503599627370496 := by decide
  rw [e2]
  omega
/-- a double with the opposite sign -/
def flp (b : Nat) : Nat := (b + 9223372036854775808) % 18446744073709551616
set_option maxHeartbeats 400000 in
theorem fb_field {b : Nat} (hb : b < 18446744073709551616) (w : World) :
    Calls Tryz.prog 162 #[.int .u64 b] w fun e w' => e = .returned (.int .i64 (fld b)) ∧ w = w' := by
  have h1 := fld_bits hb
  have h2 := fld_lt b
  go_enter Tryz.func162, Tryz.ntmps162
  go_wp2
  go_ret
  exact ⟨rfl, rfl⟩
set_option maxHeartbeats 400000 in
theorem rf_field {b : Nat} (hb : b < 18446744073709551616) (w : World) :
    Calls Tryz.prog 168 #[.int .u64 b] w fun e w' => e = .returned (.int .i64 (fld b)) ∧ w = w' := by
  have h1 := fld_bits hb
  have h2 := fld_lt b
  go_enter Tryz.func168, Tryz.ntmps168
  go_wp2
  go_ret
  exact ⟨rfl, rfl⟩
set_option maxHeartbeats 400000 in
theorem rf_rest {b : Nat} (hb : b < 18446744073709551616) (w : World) :
    Calls Tryz.prog 169 #[.int .u64 b] w fun e w' => e = .returned (.int .u64 (rst b)) ∧ w = w' := by
  have h1 := rst_bits hb
  go_enter Tryz.func169, Tryz.ntmps169
  go_wp2
  go_ret
  exact ⟨rfl, rfl⟩
set_option maxHeartbeats 1000000 in
theorem fb_kind {b : Nat} (hb : b < 18446744073709551616) (w : World) :
    Calls Tryz.prog 97 #[.int .u64 b] w fun e w' => e = .returned (.int .i64 (kd b)) ∧ w = w' := by
  have h1 := rst_bits hb
  have F := Lib.hid (fb_field hb w)
  have hk : kd b = if fld b = 2047 then (if rst b = 0 then 3 else 4) else if fld b = 0 then (if rst b = 0 then 0 else 1) else 2 := rfl
  generalize kd b = K at *
  generalize rst b = r at *
  generalize fld b = f at *
  have HK := Lib.hid hk
  clear hk
  by_cases h2 : f = 2047
  · subst h2
    by_cases h3 : r = 0
    · subst h3
      go_enter Tryz.func97, Tryz.ntmps97
      go_wp2_with fail
      refine F.out.mono ?_
      rintro e w' ⟨rfl, rfl⟩
      go_wp2_with fail
      go_ret
      exact ⟨ret1 (by have := HK.out; simp at this; omega), rfl⟩
    · have h4 : ((r : Int) == 0) = false := by simp; omega
      go_enter Tryz.func97, Tryz.ntmps97
      go_wp2_with fail
      refine F.out.mono ?_
      rintro e w' ⟨rfl, rfl⟩
      go_wp2_with fail
      go_ret
      exact ⟨ret1 (by have := HK.out; simp [h3] at this; omega), rfl⟩
  · have g2 : ((f : Int) == 2047) = false := by simp; omega
    by_cases h5 : f = 0
    · subst h5
      by_cases h3 : r = 0
      · subst h3
        go_enter Tryz.func97, Tryz.ntmps97
        go_wp2_with fail
        refine F.out.mono ?_
        rintro e w' ⟨rfl, rfl⟩
        go_wp2_with fail
        go_ret
        exact ⟨ret1 (by have := HK.out; simp at this; omega), rfl⟩
      · have h4 : ((r : Int) == 0) = false := by simp; omega
        go_enter Tryz.func97, Tryz.ntmps97
        go_wp2_with fail
        refine F.out.mono ?_
        rintro e w' ⟨rfl, rfl⟩
        go_wp2_with fail
        go_ret
        exact ⟨ret1 (by have := HK.out; simp [h3] at this; omega), rfl⟩
    · have g5 : ((f : Int) == 0) = false := by simp; omega
      go_enter Tryz.func97, Tryz.ntmps97
      go_wp2_with fail
      refine F.out.mono ?_
      rintro e w' ⟨rfl, rfl⟩
      go_wp2_with fail
      go_ret
      exact ⟨ret1 (by have := HK.out; rw [if_neg h2, if_neg h5] at this; omega), rfl⟩
set_option maxHeartbeats 1000000 in
theorem rf_kind {b : Nat} (hb : b < 18446744073709551616) (w : World) :
    Calls Tryz.prog 102 #[.int .u64 b] w fun e w' => e = .returned (.int .i64 (kd b)) ∧ w = w' := by
  have F := Lib.hid (rf_field hb w)
  have R := Lib.hid (rf_rest hb w)
  have hk : kd b = if fld b = 2047 then (if rst b = 0 then 3 else 4) else if fld b = 0 then (if rst b = 0 then 0 else 1) else 2 := rfl
  generalize kd b = K at *
  generalize rst b = r at *
  generalize fld b = f at *
  have HK := Lib.hid hk
  clear hk
  by_cases h2 : f = 2047
  · subst h2
    by_cases h3 : r = 0
    · subst h3
      go_enter Tryz.func102, Tryz.ntmps102
      go_wp2_with (first | (go_at_call 168; refine F.out.mono ?_; rintro e w' ⟨rfl, rfl⟩) | (go_at_call 169; refine R.out.mono ?_; rintro e w' ⟨rfl, rfl⟩) | fail)
      go_ret
      exact ⟨ret1 (by have := HK.out; simp at this; omega), rfl⟩
    · have h4 : ((r : Int) == 0) = false := by simp; omega
      go_enter Tryz.func102, Tryz.ntmps102
      go_wp2_with (first | (go_at_call 168; refine F.out.mono ?_; rintro e w' ⟨rfl, rfl⟩) | (go_at_call 169; refine R.out.mono ?_; rintro e w' ⟨rfl, rfl⟩) | fail)
      go_ret
      exact ⟨ret1 (by have := HK.out; simp [h3] at this; omega), rfl⟩
  · have g2 : ((f : Int) == 2047) = false := by simp; omega
    by_cases h5 : f = 0
    · subst h5
      by_cases h3 : r = 0
      · subst h3
        go_enter Tryz.func102, Tryz.ntmps102
        go_wp2_with (first | (go_at_call 168; refine F.out.mono ?_; rintro e w' ⟨rfl, rfl⟩) | (go_at_call 169; refine R.out.mono ?_; rintro e w' ⟨rfl, rfl⟩) | fail)
        go_ret
        exact ⟨ret1 (by have := HK.out; simp at this; omega), rfl⟩
      · have h4 : 0 < r := by omega
        go_enter Tryz.func102, Tryz.ntmps102
        go_wp2_with (first | (go_at_call 168; refine F.out.mono ?_; rintro e w' ⟨rfl, rfl⟩) | (go_at_call 169; refine R.out.mono ?_; rintro e w' ⟨rfl, rfl⟩) | fail)
        go_ret
        exact ⟨ret1 (by have := HK.out; simp [h3] at this; omega), rfl⟩
    · have g5 : 0 < f := by omega
      go_enter Tryz.func102, Tryz.ntmps102
      go_wp2_with (first | (go_at_call 168; refine F.out.mono ?_; rintro e w' ⟨rfl, rfl⟩) | (go_at_call 169; refine R.out.mono ?_; rintro e w' ⟨rfl, rfl⟩) | fail)
      go_ret
      exact ⟨ret1 (by have := HK.out; rw [if_neg h2, if_neg h5] at this; omega), rfl⟩
def NAN : Nat := 9221120237041090560
set_option maxHeartbeats 400000 in
theorem fb_nan (w : World) : Calls Tryz.prog 98 #[] w fun e w' => e = .returned (.int .u64 NAN) ∧ w = w' := by
  go_enter Tryz.func98, Tryz.ntmps98
  go_wp2
  go_ret
  exact ⟨rfl, rfl⟩
set_option maxHeartbeats 400000 in
theorem rf_nan (w : World) : Calls Tryz.prog 103 #[] w fun e w' => e = .returned (.int .u64 NAN) ∧ w = w' := by
  go_enter Tryz.func103, Tryz.ntmps103
  go_wp2
  go_ret
  exact ⟨rfl, rfl⟩
/-- a double; all that are no number as one -/
def cln (b : Nat) : Nat := if kd b = 4 then NAN else b
set_option maxHeartbeats 400000 in
theorem fb_clean {b : Nat} (hb : b < 18446744073709551616) (w : World) :
    Calls Tryz.prog 59 #[.int .u64 b] w fun e w' => e = .returned (.int .u64 (cln b)) ∧ w = w' := by
  have F := Lib.hid (fb_kind hb w)
  have hk : cln b = if kd b = 4 then NAN else b := rfl
  generalize cln b = K at *
  generalize kd b = f at *
  have HK := Lib.hid hk
  clear hk
  by_cases h : f = 4
  · subst h
    go_enter Tryz.func59, Tryz.ntmps59
    go_wp2_with fail
    refine F.out.mono ?_
    rintro e w' ⟨rfl, rfl⟩
    go_wp2_with fail
    refine (fb_nan _).mono ?_
    rintro e w' ⟨rfl, rfl⟩
    go_wp2_with fail
    go_ret
    exact ⟨ret1 (by have := HK.out; rw [if_pos trivial] at this; omega), rfl⟩
  · have g : ((f : Int) == 4) = false := by simp; omega
    go_enter Tryz.func59, Tryz.ntmps59
    go_wp2_with fail
    refine F.out.mono ?_
    rintro e w' ⟨rfl, rfl⟩
    go_wp2_with fail
    go_ret
    exact ⟨ret1 (by have := HK.out; rw [if_neg h] at this; omega), rfl⟩
set_option maxHeartbeats 400000 in
theorem rf_clean {b : Nat} (hb : b < 18446744073709551616) (w : World) :
    Calls Tryz.prog 61 #[.int .u64 b] w fun e w' => e = .returned (.int .u64 (cln b)) ∧ w = w' := by
  have F := Lib.hid (rf_kind hb w)
  have hk : cln b = if kd b = 4 then NAN else b := rfl
  generalize cln b = K at *
  generalize kd b = f at *
  have HK := Lib.hid hk
  clear hk
  by_cases h : f = 4
  · subst h
    go_enter Tryz.func61, Tryz.ntmps61
    go_wp2_with fail
    refine F.out.mono ?_
    rintro e w' ⟨rfl, rfl⟩
    go_wp2_with fail
    refine (rf_nan _).mono ?_
    rintro e w' ⟨rfl, rfl⟩
    go_wp2_with fail
    go_ret
    exact ⟨ret1 (by have := HK.out; rw [if_pos trivial] at this; omega), rfl⟩
  · have g : ((f : Int) == 4) = false := by simp; omega
    go_enter Tryz.func61, Tryz.ntmps61
    go_wp2_with fail
    refine F.out.mono ?_
    rintro e w' ⟨rfl, rfl⟩
    go_wp2_with fail
    go_ret
    exact ⟨ret1 (by have := HK.out; rw [if_neg h] at this; omega), rfl⟩
/-- .. with the opposite sign -/
def flc (b : Nat) : Nat := if kd b = 4 then NAN else flp b
end Go.Proofs.YthpbaaanbimapaaGreatDoor

namespace Go.Proofs.YthpbaaanbimapaaGreatDoor
set_option maxRecDepth 100000
set_option linter.unusedVariables false
set_option linter.unusedSimpArgs false

@[irreducible] def K74 : Nat := 1074
def mant (b : Nat) : Nat := b % 9223372036854775808
/-- the double nearest to an exact number -/
def fromQ (X : Rat) : Nat := sg (neg_ X) (magR X.num.natAbs X.den 0)

end Go.Proofs.YthpbaaanbimapaaGreatDoor

namespace Go.Proofs.YthpbaaanbimapaaGreatDoor
set_option maxRecDepth 100000
set_option linter.unusedVariables false
set_option linter.unusedSimpArgs false

end Go.Proofs.YthpbaaanbimapaaGreatDoor
