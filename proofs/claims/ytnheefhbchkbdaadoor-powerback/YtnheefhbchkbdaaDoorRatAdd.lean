/-
  What rat.addSigned, rat.Add and rat.Sub do, told by Lean's own Rat. Conditions: both numbers of at most N words, N at most 1000.
-/
import Derived.Test.YtnheefhbchkbdaaDoorRatRun
namespace Go.Proofs.YtnheefhbchkbdaaDoor
set_option maxRecDepth 100000
open Go.RowKit
set_option linter.unusedVariables false
set_option linter.unusedSimpArgs false

theorem sI_abs (s : Bool) (p : Nat) (z : Int) (h : sI s p = z) : sI s z.natAbs = z ∧ z.natAbs = p := by
  have : z.natAbs = p := by rw [← h, sI_natAbs]
  exact ⟨by rw [this]; exact h, this⟩

set_option maxHeartbeats 1000000 in
theorem rat_addSigned {w : World} {A A' : Option Addr} {n n' c c' p q : Nat} (s t : Bool) (h : Sl w A n c (words p)) (h' : Sl w A' n' c' (words q)) (hn : n ≤ 100000) (hn' : n' ≤ 100000) :
    Calls Tryd.prog 38 #[.bool s, .slice A n c, .bool t, .slice A' n' c'] w (RetSB (sI s p + sI t q) w) := by
  by_cases hst : s = t
  · subst hst
    have N := nat_add h h' (by omega) (by omega)
    rw [val_words, val_words] at N
    obtain ⟨e1, e2⟩ := sI_abs s (p + q) _ (sI_add_same s p q)
    generalize sI s p + sI s q = z at *
    rw [← e2] at N
    have HN := Lib.hid N
    have H1 := Lib.hid e1
    clear N e1 e2
    go_enter Tryd.func38, Tryd.ntmps38
    go_wp2_with fail
    refine HN.out.mono ?_
    rintro _ w1 ⟨A1, n1, c1, rfl, t1, b1⟩
    go_wp2_with fail
    go_ret2
    exact ⟨_, _, _, _, rfl, H1.out, t1, b1⟩
  · have hne : (s == t) = false := by simpa using hst
    by_cases hle : q ≤ p
    · have N := nat_sub_yes h h' (by omega) (by omega) (by rw [val_words, val_words]; exact hle)
      rw [val_words, val_words] at N
      obtain ⟨e1, e2⟩ := sI_abs s (p - q) _ (sI_add_left hst hle)
      generalize sI s p + sI t q = z at *
      rw [← e2] at N
      have HN := Lib.hid N
      have H1 := Lib.hid e1
      clear N e1 e2 hst hle
      go_enter Tryd.func38, Tryd.ntmps38
      go_wp2_with fail
      refine HN.out.mono ?_
      rintro _ w1 ⟨A1, n1, c1, rfl, t1, b1⟩
      go_wp2_with fail
      go_ret2
      exact ⟨_, _, _, _, rfl, H1.out, t1, b1⟩
    · have N1 := nat_sub_no h h' (by omega) (by omega) (by rw [val_words, val_words]; omega)
      have N := fun w1 (hb : Below w.heap.size w w1) => nat_sub_yes (h'.below hb) (h.below hb) (by omega) (by omega) (by rw [val_words, val_words]; omega)
      rw [val_words, val_words] at N
      obtain ⟨e1, e2⟩ := sI_abs t (q - p) _ (sI_add_right hst (by omega : p ≤ q))
      generalize sI s p + sI t q = z at *
      rw [← e2] at N
      have HN := Lib.hid N
      have HN1 := Lib.hid N1
      have H1 := Lib.hid e1
      clear N N1 e1 e2 hst hle
      go_enter Tryd.func38, Tryd.ntmps38
      go_wp2_with fail
      refine HN1.out.mono ?_
      rintro _ w1 ⟨A1, n1, c1, rfl, t1, b1⟩
      go_wp2_with fail
      refine (HN.out _ b1).mono ?_
      rintro _ w2 ⟨A2, n2, c2, rfl, t2, b2⟩
      go_wp2_with fail
      go_ret2
      exact ⟨_, _, _, _, rfl, H1.out, t2, bb b1 b2⟩

set_option maxRecDepth 100000 in
set_option maxHeartbeats 4000000 in
theorem rat_add {w : World} {s t : Bool} {A A' B B' : Option Addr} {n n' c c' m m' d d' N : Nat} {X Y : Rat} (h : Q w s A n c A' n' c' X) (k : Q w t B m d B' m' d' Y) (hX : Sz X N) (hY : Sz Y N) (hN : N ≤ 1000) :
    Calls Tryd.prog 15 #[.agg #[.bool s, .slice A n c, .slice A' n' c'], .agg #[.bool t, .slice B m d, .slice B' m' d']] w (RetQ (X + Y) w) := by
  obtain ⟨V, hW, Ba, Bb, Br, hb0⟩ := boxes2 24 w #[.bool s, .slice A n c, .slice A' n' c'] #[.bool t, .slice B m d, .slice B' m' d'] #[.bool false, .slice none 0 0, .slice none 0 0]
  have l1 : n ≤ N := h.2.1.small hX.1
  have l2 : n' ≤ N := h.2.2.small hX.2
  have l3 : m ≤ N := k.2.1.small hY.1
  have l4 : m' ≤ N := k.2.2.small hY.2
  have RD := fun w1 (hb : Below V.heap.size V w1) => gcd_reduce (N := N) (h.2.2.below (bb hb0 hb)) (k.2.2.below (bb hb0 hb)) (by omega) (by omega) (by omega)
  rw [val_words, val_words] at RD
  have M1 := fun w1 (hb : Below V.heap.size V w1) (C : Option Addr) (nc cc v : Nat) (a : Sl w1 C nc cc (words v)) (hl : nc ≤ N) => prod_mul (h.2.1.below (bb hb0 hb)) a (by omega)
  have M2 := fun w1 (hb : Below V.heap.size V w1) (C : Option Addr) (nc cc v : Nat) (a : Sl w1 C nc cc (words v)) (hl : nc ≤ N) => prod_mul (k.2.1.below (bb hb0 hb)) a (by omega)
  have M3 := fun w1 (hb : Below V.heap.size V w1) (C : Option Addr) (nc cc v : Nat) (a : Sl w1 C nc cc (words v)) (hl : nc ≤ N) => prod_mul (h.2.2.below (bb hb0 hb)) a (by omega)
  simp only [val_words] at M1 M2 M3
  have hden := add_den_ne X Y
  have hadd := fun (z : Int) (sz : Bool) (e : sI sz z.natAbs = z) (e2 : z = sI s (X.num.natAbs * (Y.den / Nat.gcd X.den Y.den)) + sI t (Y.num.natAbs * (X.den / Nat.gcd X.den Y.den))) => add_rq X Y (s := sz) (m := z.natAbs) (by rw [e, e2, sI_mul_nat, sI_mul_nat, h.1, k.1, sI_num, sI_num])
  have hu : X.den / Nat.gcd X.den Y.den < W ^ N := Nat.lt_of_le_of_lt (Nat.div_le_self _ _) hX.2
  have hv : Y.den / Nat.gcd X.den Y.den < W ^ N := Nat.lt_of_le_of_lt (Nat.div_le_self _ _) hY.2
  generalize X.den / Nat.gcd X.den Y.den = u at *
  generalize Y.den / Nat.gcd X.den Y.den = v at *
  have z1 := mul_lt_powW hX.1 hv
  have z2 := mul_lt_powW hY.1 hu
  have z3 := mul_lt_powW hX.2 hv
  have z4 : (sI s (X.num.natAbs * v) + sI t (Y.num.natAbs * u)).natAbs < W ^ (N + N + 1) := by
    have := two_pow_W (N + N)
    have := Int.natAbs_add_le (sI s (X.num.natAbs * v)) (sI t (Y.num.natAbs * u))
    rw [sI_natAbs, sI_natAbs] at this
    omega
  have hS : ∀ w', Below V.heap.size V w' → (w'.cell? ⟨w.heap.size, 0, none⟩ = some (.bool s) ∧ w'.cell? ⟨w.heap.size, 1, none⟩ = some (.slice A n c) ∧ w'.cell? ⟨w.heap.size, 2, none⟩ = some (.slice A' n' c')) ∧ (w'.cell? ⟨w.heap.size + 1, 0, none⟩ = some (.bool t) ∧ w'.cell? ⟨w.heap.size + 1, 1, none⟩ = some (.slice B m d) ∧ w'.cell? ⟨w.heap.size + 1, 2, none⟩ = some (.slice B' m' d')) := fun w' hb => ⟨(Ba.below' hb).three.1, (Bb.below' hb).three.1⟩
  generalize X + Y = Z at *
  generalize X.num.natAbs = p at *
  generalize Y.num.natAbs = q at *
  generalize X.den = p' at *
  have HRD := Lib.hid RD
  have HM1 := Lib.hid M1
  have HM2 := Lib.hid M2
  have HM3 := Lib.hid M3
  have HS := Lib.hid hS
  have HBr := Lib.hid Br
  have HW := Lib.hid hW
  have HA := Lib.hid hadd
  have Hu := Lib.hid hu
  have Hv := Lib.hid hv
  have Hz1 := Lib.hid z1
  have Hz2 := Lib.hid z2
  have Hz3 := Lib.hid z3
  have Hz4 := Lib.hid z4
  have HD := Lib.hid hden
  clear RD M1 M2 M3 hS Ba Bb Br hW hadd hu hv z1 z2 z3 z4 h k hX hY hden
  go_enter Tryd.func15, Tryd.ntmps15
  go_wp2_with fail
  refine (HRD.out _ (by rw [HW.out]; exact Below.refl _ _)).mono ?_
  rintro _ w1 ⟨A1, n1, c1, A2, n2, c2, rfl, t1, t2, b1⟩
  rw [HW.out] at b1
  have l5 : n1 ≤ N := t1.small Hu.out
  have l6 : n2 ≤ N := t2.small Hv.out
  obtain ⟨⟨k0, k1, k2⟩, j0, j1, j2⟩ := HS.out _ b1
  clear HRD HW
  go_wp2_with fail
  go_region_held3 (fun w' => (w'.cell? ⟨w.heap.size, 0, none⟩ = some (.bool s) ∧ w'.cell? ⟨w.heap.size, 1, none⟩ = some (.slice A n c) ∧ w'.cell? ⟨w.heap.size, 2, none⟩ = some (.slice A' n' c')) ∧ (w'.cell? ⟨w.heap.size + 1, 0, none⟩ = some (.bool t) ∧ w'.cell? ⟨w.heap.size + 1, 1, none⟩ = some (.slice B m d) ∧ w'.cell? ⟨w.heap.size + 1, 2, none⟩ = some (.slice B' m' d'))) (first | exact HS.out _ b1.drew | exact HS.out _ x4 | exact HS.out _ x3 | exact HS.out _ x2 | fail)
    (first
      | (go_at_call 27; (with_reducible refine (HM1.out _ ?hb1 _ _ _ v ?hc1 l6).mono ?_); (case hb1 => exact b1.drew); (case hc1 => exact t2); rintro _ w2 ⟨A3, n3, c3, rfl, t3, b2⟩; have x2 : Below V.heap.size V w2 := bb b1 (Below.undrew b2))
      | (go_at_call 27; (with_reducible refine (HM2.out _ ?hb2 _ _ _ u ?hc2 l5).mono ?_); (case hb2 => exact x2); (case hc2 => exact t1.below (Below.undrew b2)); rintro _ w3 ⟨A4, n4, c4, rfl, t4, b3⟩; have x3 : Below V.heap.size V w3 := bb x2 b3)
      | (go_at_call 38; (with_reducible refine (rat_addSigned s t (t3.below b3) t4 (by have := t3.small Hz1.out; omega) (by have := t4.small Hz2.out; omega)).mono ?_); rintro _ w4 ⟨s5, A5, n5, c5, rfl, e5, t5, b4⟩; have x4 : Below V.heap.size V w4 := bb x3 b4; have t24 := ((t2.below (Below.undrew b2)).below b3).below b4; have HE5 := Lib.hid e5; clear e5))
  all_goals
    obtain ⟨⟨k0, k1, k2⟩, j0, j1, j2⟩ := HS.out _ x4
    go_wp2_with fail
    refine (HM3.out _ x4 _ _ _ v t24 l6).mono ?_
    rintro _ w5 ⟨A6, n6, c6, rfl, t6, b5⟩
    have MK := rat_make s5 (t5.below b5) t6 (by have := t5.small Hz4.out; omega) (by have := t6.small Hz3.out; omega) (by rw [val_words]; exact HD.out)
    rw [val_words, val_words, HA.out _ s5 HE5.out rfl] at MK
    have HMK := Lib.hid MK
    clear MK
    go_wp2_with fail
    refine HMK.out.mono ?_
    rintro _ w6 ⟨s7, A7, n7, c7, A8, n8, c8, rfl, q7, b6⟩
    have x6 := bb x4 (bb b5 b6)
    have B6 := HBr.out.below' x6
    have hz6 : w.heap.size + 1 + 1 < w6.heap.size := B6.lt
    have hne6 : ¬ (w.heap.size + 1 + 1 = w6.heap.size) := by omega
    obtain ⟨⟨r0, r1, r2⟩, f0, f1, f2⟩ := B6.three
    go_wp2_with fail
    refine bodyPost_ret (v := .agg #[.bool s7, .slice A7 n7 c7, .slice A8 n8 c8]) (by simp [results, Tryd.results15, go_sem, r0, r1, r2, hz6, hne6]) rfl ?_
    have y6 := below_put3 (bb hb0 x6) (show w.heap.size ≤ w.heap.size + 1 + 1 by omega) (Nat.le_refl _) (.bool s7) (.slice A7 n7 c7) (.slice A8 n8 c8)
    exact ⟨_, _, _, _, _, _, _, rfl, (q7.put3 ⟨_, _, _, _, _, _, _, B6⟩).below (below_alloc _ _), y6.alloc y6.size _⟩

end Go.Proofs.YtnheefhbchkbdaaDoor
