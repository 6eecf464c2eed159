/-
  What gradineref07's Make, Neg, Sign, Zero, Add, Sub, Mul, Div and Cmp do, told by Lean's own Rat. Conditions: the numbers of at most N words, N at most 400; of Add, N at most 40000, if the powers of two of the denominators are at most 2^65536 together.
-/
import Derived.Test.YtfhihapgjiaobaaGreatRefGcdAllB
namespace Go.Proofs.YtfhihapgjiaobaaGreat
set_option maxRecDepth 100000
open Go.RowKit
set_option linter.unusedVariables false
set_option linter.unusedSimpArgs false

theorem sI_abs (s : Bool) (p : Nat) (z : Int) (h : sI s p = z) : sI s z.natAbs = z ∧ z.natAbs = p := by
  have : z.natAbs = p := by rw [← h, sI_natAbs]
  exact ⟨by rw [this]; exact h, this⟩

set_option maxHeartbeats 1000000 in
theorem rat_addSigned {w : World} {A A' : Option Addr} {n n' c c' p q : Nat} (s t : Bool) (h : Sl w A n c (words p)) (h' : Sl w A' n' c' (words q)) (hn : n ≤ 100000) (hn' : n' ≤ 100000) :
    Calls Tryz.prog 47 #[.bool s, .slice A n c, .bool t, .slice A' n' c'] w (RetSB (sI s p + sI t q) w) := by
  by_cases hst : s = t
  · subst hst
    have N := nat_add h h' (by omega) (by omega)
    rw [val_words, val_words] at N
    obtain ⟨e1, e2⟩ := sI_abs s (p + q) _ (sI_add_same s p q)
    generalize sI s p + sI s q = z at *
    rw [← e2] at N
    have HN := Lib.hid N
    have H1 := Lib.hid e1
    clear N e1 e2
    go_enter Tryz.func47, Tryz.ntmps47
    go_wp2_with fail
    refine HN.out.mono ?_
    rintro _ w1 ⟨A1, n1, c1, rfl, t1, b1⟩
    go_wp2_with fail
    go_ret2
    exact ⟨_, _, _, _, rfl, H1.out, t1, b1⟩
  · have hne : (s == t) = false := by simpa using hst
    by_cases hle : q ≤ p
    · have N := nat_sub_yes h h' (by omega) (by omega) (by rw [val_words, val_words]; exact hle)
      rw [val_words, val_words] at N
      obtain ⟨e1, e2⟩ := sI_abs s (p - q) _ (sI_add_left hst hle)
      generalize sI s p + sI t q = z at *
      rw [← e2] at N
      have HN := Lib.hid N
      have H1 := Lib.hid e1
      clear N e1 e2 hst hle
      go_enter Tryz.func47, Tryz.ntmps47
      go_wp2_with fail
      refine HN.out.mono ?_
      rintro _ w1 ⟨A1, n1, c1, rfl, t1, b1⟩
      go_wp2_with fail
      go_ret2
      exact ⟨_, _, _, _, rfl, H1.out, t1, b1⟩
    · have N1 := nat_sub_no h h' (by omega) (by omega) (by rw [val_words, val_words]; omega)
      have N := fun w1 (hb : Below w.heap.size w w1) => nat_sub_yes (h'.below hb) (h.below hb) (by omega) (by omega) (by rw [val_words, val_words]; omega)
      rw [val_words, val_words] at N
      obtain ⟨e1, e2⟩ := sI_abs t (q - p) _ (sI_add_right hst (by omega : p ≤ q))
      generalize sI s p + sI t q = z at *
      rw [← e2] at N
      have HN := Lib.hid N
      have HN1 := Lib.hid N1
      have H1 := Lib.hid e1
      clear N N1 e1 e2 hst hle
      go_enter Tryz.func47, Tryz.ntmps47
      go_wp2_with fail
      refine HN1.out.mono ?_
      rintro _ w1 ⟨A1, n1, c1, rfl, t1, b1⟩
      go_wp2_with fail
      refine (HN.out _ b1).mono ?_
      rintro _ w2 ⟨A2, n2, c2, rfl, t2, b2⟩
      go_wp2_with fail
      go_ret2
      exact ⟨_, _, _, _, rfl, H1.out, t2, bb b1 b2⟩

set_option maxRecDepth 100000 in
set_option maxHeartbeats 4000000 in
theorem rat_add {w : World} {s t : Bool} {A A' B B' : Option Addr} {n n' c c' m m' d d' N : Nat} {X Y : Rat} (h : Q w s A n c A' n' c' X) (k : Q w t B m d B' m' d' Y) (hX : Sz X N) (hY : Sz Y N) (hN : N ≤ 40000) :
    Calls Tryz.prog 18 #[.agg #[.bool s, .slice A n c, .slice A' n' c'], .agg #[.bool t, .slice B m d, .slice B' m' d']] w (RetQ (X + Y) w) := by
  obtain ⟨V, hW, Ba, Bb, Br, hb0⟩ := boxes2 45 w #[.bool s, .slice A n c, .slice A' n' c'] #[.bool t, .slice B m d, .slice B' m' d'] #[.bool false, .slice none 0 0, .slice none 0 0]
  have l1 : n ≤ N := h.2.1.small hX.1
  have l2 : n' ≤ N := h.2.2.small hX.2
  have l3 : m ≤ N := k.2.1.small hY.1
  have l4 : m' ≤ N := k.2.2.small hY.2
  have RD := fun w1 (hb : Below V.heap.size V w1) => gcd_reduce (N := N) (h.2.2.below (bb hb0 hb)) (k.2.2.below (bb hb0 hb)) (by omega) (by omega) (by omega)
  rw [val_words, val_words] at RD
  have M1 := fun w1 (hb : Below V.heap.size V w1) (C : Option Addr) (nc cc v : Nat) (a : Sl w1 C nc cc (words v)) (hl : nc ≤ N) => prod_mul (h.2.1.below (bb hb0 hb)) a (by omega)
  have M2 := fun w1 (hb : Below V.heap.size V w1) (C : Option Addr) (nc cc v : Nat) (a : Sl w1 C nc cc (words v)) (hl : nc ≤ N) => prod_mul (k.2.1.below (bb hb0 hb)) a (by omega)
  have M3 := fun w1 (hb : Below V.heap.size V w1) (C : Option Addr) (nc cc v : Nat) (a : Sl w1 C nc cc (words v)) (hl : nc ≤ N) => prod_mul (h.2.2.below (bb hb0 hb)) a (by omega)
  simp only [val_words] at M1 M2 M3
  have hden := add_den_ne X Y
  have hadd := fun (z : Int) (sz : Bool) (e : sI sz z.natAbs = z) (e2 : z = sI s (X.num.natAbs * (Y.den / Nat.gcd X.den Y.den)) + sI t (Y.num.natAbs * (X.den / Nat.gcd X.den Y.den))) => add_rq X Y (s := sz) (m := z.natAbs) (by rw [e, e2, sI_mul_nat, sI_mul_nat, h.1, k.1, sI_num, sI_num])
  have hu : X.den / Nat.gcd X.den Y.den < W ^ N := Nat.lt_of_le_of_lt (Nat.div_le_self _ _) hX.2
  have hv : Y.den / Nat.gcd X.den Y.den < W ^ N := Nat.lt_of_le_of_lt (Nat.div_le_self _ _) hY.2
  generalize X.den / Nat.gcd X.den Y.den = u at *
  generalize Y.den / Nat.gcd X.den Y.den = v at *
  have z1 := mul_lt_powW hX.1 hv
  have z2 := mul_lt_powW hY.1 hu
  have z3 := mul_lt_powW hX.2 hv
  have z4 : (sI s (X.num.natAbs * v) + sI t (Y.num.natAbs * u)).natAbs < W ^ (N + N + 1) := by
    have := two_pow_W (N + N)
    have := Int.natAbs_add_le (sI s (X.num.natAbs * v)) (sI t (Y.num.natAbs * u))
    rw [sI_natAbs, sI_natAbs] at this
    omega
  have hS : ∀ w', Below V.heap.size V w' → (w'.cell? ⟨w.heap.size, 0, none⟩ = some (.bool s) ∧ w'.cell? ⟨w.heap.size, 1, none⟩ = some (.slice A n c) ∧ w'.cell? ⟨w.heap.size, 2, none⟩ = some (.slice A' n' c')) ∧ (w'.cell? ⟨w.heap.size + 1, 0, none⟩ = some (.bool t) ∧ w'.cell? ⟨w.heap.size + 1, 1, none⟩ = some (.slice B m d) ∧ w'.cell? ⟨w.heap.size + 1, 2, none⟩ = some (.slice B' m' d')) := fun w' hb => ⟨(Ba.below' hb).three.1, (Bb.below' hb).three.1⟩
  generalize X + Y = Z at *
  generalize X.num.natAbs = p at *
  generalize Y.num.natAbs = q at *
  generalize X.den = p' at *
  have HRD := Lib.hid RD
  have HM1 := Lib.hid M1
  have HM2 := Lib.hid M2
  have HM3 := Lib.hid M3
  have HS := Lib.hid hS
  have HBr := Lib.hid Br
  have HW := Lib.hid hW
  have HA := Lib.hid hadd
  have Hu := Lib.hid hu
  have Hv := Lib.hid hv
  have Hz1 := Lib.hid z1
  have Hz2 := Lib.hid z2
  have Hz3 := Lib.hid z3
  have Hz4 := Lib.hid z4
  have HD := Lib.hid hden
  clear RD M1 M2 M3 hS Ba Bb Br hW hadd hu hv z1 z2 z3 z4 h k hX hY hden
  go_enter Tryz.func18, Tryz.ntmps18
  go_wp2_with fail
  refine (HRD.out _ (by rw [HW.out]; exact Below.refl _ _)).mono ?_
  rintro _ w1 ⟨A1, n1, c1, A2, n2, c2, rfl, t1, t2, b1⟩
  rw [HW.out] at b1
  have l5 : n1 ≤ N := t1.small Hu.out
  have l6 : n2 ≤ N := t2.small Hv.out
  obtain ⟨⟨k0, k1, k2⟩, j0, j1, j2⟩ := HS.out _ b1
  clear HRD HW
  go_wp2_with fail
  go_region_held3 (fun w' => (w'.cell? ⟨w.heap.size, 0, none⟩ = some (.bool s) ∧ w'.cell? ⟨w.heap.size, 1, none⟩ = some (.slice A n c) ∧ w'.cell? ⟨w.heap.size, 2, none⟩ = some (.slice A' n' c')) ∧ (w'.cell? ⟨w.heap.size + 1, 0, none⟩ = some (.bool t) ∧ w'.cell? ⟨w.heap.size + 1, 1, none⟩ = some (.slice B m d) ∧ w'.cell? ⟨w.heap.size + 1, 2, none⟩ = some (.slice B' m' d'))) (first | exact HS.out _ b1.drew | exact HS.out _ x4 | exact HS.out _ x3 | exact HS.out _ x2 | fail)
    (first
      | (go_at_call 48; (with_reducible refine (HM1.out _ ?hb1 _ _ _ v ?hc1 l6).mono ?_); (case hb1 => exact b1.drew); (case hc1 => exact t2); rintro _ w2 ⟨A3, n3, c3, rfl, t3, b2⟩; have x2 : Below V.heap.size V w2 := bb b1 (Below.undrew b2))
      | (go_at_call 48; (with_reducible refine (HM2.out _ ?hb2 _ _ _ u ?hc2 l5).mono ?_); (case hb2 => exact x2); (case hc2 => exact t1.below (Below.undrew b2)); rintro _ w3 ⟨A4, n4, c4, rfl, t4, b3⟩; have x3 : Below V.heap.size V w3 := bb x2 b3)
      | (go_at_call 47; (with_reducible refine (rat_addSigned s t (t3.below b3) t4 (by have := t3.small Hz1.out; omega) (by have := t4.small Hz2.out; omega)).mono ?_); rintro _ w4 ⟨s5, A5, n5, c5, rfl, e5, t5, b4⟩; have x4 : Below V.heap.size V w4 := bb x3 b4; have t24 := ((t2.below (Below.undrew b2)).below b3).below b4; have HE5 := Lib.hid e5; clear e5))
  all_goals
    obtain ⟨⟨k0, k1, k2⟩, j0, j1, j2⟩ := HS.out _ x4
    go_wp2_with fail
    refine (HM3.out _ x4 _ _ _ v t24 l6).mono ?_
    rintro _ w5 ⟨A6, n6, c6, rfl, t6, b5⟩
    have MK := rat_make s5 (t5.below b5) t6 (by have := t5.small Hz4.out; omega) (by have := t6.small Hz3.out; omega) (by rw [val_words]; exact HD.out)
    rw [val_words, val_words, HA.out _ s5 HE5.out rfl] at MK
    have HMK := Lib.hid MK
    clear MK
    go_wp2_with fail
    refine HMK.out.mono ?_
    rintro _ w6 ⟨s7, A7, n7, c7, A8, n8, c8, rfl, q7, b6⟩
    have x6 := bb x4 (bb b5 b6)
    have B6 := HBr.out.below' x6
    have hz6 : w.heap.size + 1 + 1 < w6.heap.size := B6.lt
    have hne6 : ¬ (w.heap.size + 1 + 1 = w6.heap.size) := by omega
    obtain ⟨⟨r0, r1, r2⟩, f0, f1, f2⟩ := B6.three
    go_wp2_with fail
    refine bodyPost_ret (v := .agg #[.bool s7, .slice A7 n7 c7, .slice A8 n8 c8]) (by simp [results, Tryz.results18, go_sem, r0, r1, r2, hz6, hne6]) rfl ?_
    have y6 := below_put3 (bb hb0 x6) (show w.heap.size ≤ w.heap.size + 1 + 1 by omega) (Nat.le_refl _) (.bool s7) (.slice A7 n7 c7) (.slice A8 n8 c8)
    exact ⟨_, _, _, _, _, _, _, rfl, (q7.put3 ⟨_, _, _, _, _, _, _, B6⟩).below (below_alloc _ _), y6.alloc y6.size _⟩

end Go.Proofs.YtfhihapgjiaobaaGreat

namespace Go.Proofs.YtfhihapgjiaobaaGreat
set_option maxRecDepth 100000
open Go.RowKit
set_option linter.unusedVariables false
set_option linter.unusedSimpArgs false

theorem words_nil_iff' {R n : Nat} (h : n = (words R).length) : n = 0 ↔ R = 0 := by
  have := words_len0 R
  rw [← h] at this
  rw [Bool.eq_iff_iff] at this
  simp at this
  exact this

set_option maxRecDepth 100000 in
set_option maxHeartbeats 4000000 in
theorem ref_makeT {w : World} {A A' : Option Addr} {n n' c c' N : Nat} {xs ys : List Int} (s : Bool) (h : Sl w A n c xs) (h' : Sl w A' n' c' ys) (hn : n ≤ N) (hn' : n' ≤ N) (hN : N ≤ 90000) (h0 : val ys ≠ 0) (htz : tz (val ys) ≤ 65536) :
    Calls Tryz.prog 45 #[.bool s, .slice A n c, .slice A' n' c'] w (RetQ (rq s (val xs) (val ys)) w) := by
  have za : val xs = 0 ↔ sz xs = 0 := valB_zero_iff W_pos (Dg_U h.us)
  have Z := fun w1 (hb : Below w.heap.size w w1) => ref_size (h.below hb) (by omega)
  obtain ⟨r1, r2, r3⟩ := rq_num s (val xs) (val ys) h0
  by_cases hz : val xs = 0
  · rw [za.1 hz] at Z
    have e1 : rq s (val xs) (val ys) = 0 := by
      unfold rq; rw [hz, sI_zero]; exact Rat.zero_mkRat _
    rw [e1]
    have HZ := Lib.hid Z
    clear htz Z r1 r2 r3 hz za e1
    have hs := sl_lit (w.alloc (.cells #[.bool false, .slice none 0 0, .slice (some ⟨w.heap.size + 1, 0, none⟩) 1 1] 45)) 1 U_1
    rw [show (w.alloc (.cells #[.bool false, .slice none 0 0, .slice (some ⟨w.heap.size + 1, 0, none⟩) 1 1] 45)).heap.size = w.heap.size + 1 from by simp] at hs
    have HSL := Lib.hid hs
    clear hs
    go_enter Tryz.func45, Tryz.ntmps45
    go_wp2_with fail
    refine (HZ.out _ (below_alloc _ _)).mono ?_
    rintro _ _ ⟨rfl, rfl⟩
    go_wp2_with fail
    refine bodyPost_ret (v := .agg #[.bool false, .slice none 0 0, .slice (some ⟨w.heap.size + 1, 0, none⟩) 1 1]) (by simp [results, Tryz.results45, go_sem]) rfl ?_
    refine ⟨_, _, _, _, _, _, _, rfl, ⟨rfl, Sl.nil _ _ _, ?_⟩, (below_alloc _ _).alloc (by simp) _⟩
    rw [show (0 : Rat).den = 1 from rfl, words_one]
    exact HSL.out
  · have hne : ((sz xs : Int) == 0) = false := by
      have : sz xs ≠ 0 := fun e => hz (za.2 e)
      simp; omega
    have G := fun w1 (hb : Below w.heap.size w w1) => ref_gcdT (N := N) (h.below hb) (h'.below hb) hn hn' hN (by omega)
    have P1 := fun w1 (hb : Below w.heap.size w w1) (C : Option Addr) (a b g : Nat) (x : Sl w1 C a b (words g)) (hl : a ≤ N) => ref_part (N := N) (h.below hb) x hn hl hN
    have P2 := fun w1 (hb : Below w.heap.size w w1) (C : Option Addr) (a b g : Nat) (x : Sl w1 C a b (words g)) (hl : a ≤ N) => ref_part (N := N) (h'.below hb) x hn' hl hN
    simp only [val_words] at P1 P2
    have va : val xs < W ^ N := val_lt_pow h.us (by have := h.len; omega)
    have vb : val ys < W ^ N := val_lt_pow h'.us (by have := h'.len; omega)
    have vg := gcd_lt va vb
    have hpz : val xs / Nat.gcd (val xs) (val ys) ≠ 0 := by
      have hg : 0 < Nat.gcd (val xs) (val ys) := Nat.pos_of_ne_zero fun e => h0 (Nat.eq_zero_of_gcd_eq_zero_right e)
      have := Nat.div_pos (Nat.le_of_dvd (Nat.pos_of_ne_zero hz) (Nat.gcd_dvd_left (val xs) (val ys))) hg
      omega
    rw [decide_eq_true hpz, Bool.and_true] at r3
    have hq : ∀ (w1 : World) (C C' : Option Addr) (a b a' b' : Nat), Sl w1 C a b (words (val xs / Nat.gcd (val xs) (val ys))) → Sl w1 C' a' b' (words (val ys / Nat.gcd (val xs) (val ys))) → Q w1 s C a b C' a' b' (rq s (val xs) (val ys)) := fun w1 C C' a b a' b' x y => ⟨r3.symm, by rw [r1]; exact x, by rw [r2]; exact y⟩
    generalize rq s (val xs) (val ys) = X at *
    generalize Nat.gcd (val xs) (val ys) = g at *
    generalize val xs = p at *
    generalize val ys = q at *
    generalize ((sz xs : Nat) : Int) = zz at *
    have HZ := Lib.hid Z
    have HG := Lib.hid G
    have HP1 := Lib.hid P1
    have HP2 := Lib.hid P2
    have HQ := Lib.hid hq
    have HVG := Lib.hid vg
    have Br := Box.new w 45 #[.bool false, .slice none 0 0, .slice none 0 0]
    have HBr := Lib.hid Br
    clear htz Z G P1 P2 hq vg va vb hpz r1 r2 r3 za hz Br h h' h0
    go_enter Tryz.func45, Tryz.ntmps45
    go_wp2_with fail
    refine (HZ.out _ (below_alloc _ _)).mono ?_
    rintro _ _ ⟨rfl, rfl⟩
    go_wp2_with fail
    refine (HG.out _ (below_alloc _ _)).mono ?_
    rintro _ w1 ⟨A1, n1, c1, rfl, t1, b1⟩
    have l1 : n1 ≤ N := t1.small HVG.out
    have x1 := bb (below_alloc w _) b1
    go_wp2_with fail
    refine (HP1.out _ x1 _ _ _ _ t1 l1).mono ?_
    rintro _ w2 ⟨A2, n2, c2, rfl, t2, b2⟩
    have x2 := bb x1 b2
    go_wp2_with fail
    refine (HP2.out _ x2 _ _ _ _ (t1.below b2) l1).mono ?_
    rintro _ w3 ⟨A3, n3, c3, rfl, t3, b3⟩
    have x3 := bb x2 b3
    have B9 := HBr.out.below' (bb b1 (bb b2 b3))
    have q7 := HQ.out _ _ _ _ _ _ _ (t2.below b3) t3
    obtain ⟨⟨r0, r1, r2⟩, f0, f1, f2⟩ := B9.three
    go_wp2_with fail
    refine bodyPost_ret (v := .agg #[.bool s, .slice A2 n2 c2, .slice A3 n3 c3]) (by simp [results, Tryz.results45, go_sem, r0, r1, r2]) rfl ?_
    exact ⟨_, _, _, _, _, _, _, rfl, q7.put3 ⟨_, _, _, _, _, _, _, B9⟩, below_put3 x3 (by omega) (Nat.le_refl _) _ _ _⟩

theorem ref_make {w : World} {A A' : Option Addr} {n n' c c' N : Nat} {xs ys : List Int} (s : Bool) (h : Sl w A n c xs) (h' : Sl w A' n' c' ys) (hn : n ≤ N) (hn' : n' ≤ N) (hN : N ≤ 1000) (h0 : val ys ≠ 0) :
    Calls Tryz.prog 45 #[.bool s, .slice A n c, .slice A' n' c'] w (RetQ (rq s (val xs) (val ys)) w) :=
  ref_makeT s h h' hn hn' (by omega) h0 (tz_small (val_lt_pow h'.us (by have := h'.len; omega)) hN)

set_option maxRecDepth 100000 in
set_option maxHeartbeats 4000000 in
theorem ref_neg {w : World} {s : Bool} {A A' : Option Addr} {n n' c c' N : Nat} {X : Rat} (h : Q w s A n c A' n' c' X) (hX : Sz X N) (hN : N ≤ 400) :
    Calls Tryz.prog 76 #[.agg #[.bool s, .slice A n c, .slice A' n' c']] w (RetQ (-X) w) := by
  obtain ⟨V, hW, Ba, Br, hb0⟩ := boxes1 45 w #[.bool s, .slice A n c, .slice A' n' c'] #[.bool false, .slice none 0 0, .slice none 0 0]
  have l1 : n ≤ N := h.2.1.small hX.1
  have l2 : n' ≤ N := h.2.2.small hX.2
  have MK := fun w1 (hb : Below V.heap.size V w1) => ref_make (N := N) (!s) (h.2.1.below (bb hb0 hb)) (h.2.2.below (bb hb0 hb)) l1 l2 (by omega) (by rw [val_words]; exact den_ne X)
  have hneg := neg_rq X
  rw [← h.1] at hneg
  simp only [val_words] at MK
  rw [hneg] at MK
  have HMK := Lib.hid MK
  have HW := Lib.hid hW
  have HBr := Lib.hid Br
  clear MK hW Br Ba h hX hneg
  go_enter Tryz.func76, Tryz.ntmps76
  go_wp2_with fail
  refine (HMK.out _ (by rw [HW.out]; exact Below.refl _ _)).mono ?_
  rintro _ w3 ⟨s7, A7, n7, c7, A8, n8, c8, rfl, q7, b1⟩
  rw [HW.out] at b1
  have B9 := HBr.out.below' b1
  obtain ⟨⟨r0, r1, r2⟩, f0, f1, f2⟩ := B9.three
  have x3 := b1
  go_wp2_with fail
  refine bodyPost_ret (v := .agg #[.bool s7, .slice A7 n7 c7, .slice A8 n8 c8]) (by simp [results, Tryz.results76, go_sem, r0, r1, r2]) rfl ?_
  exact ⟨_, _, _, _, _, _, _, rfl, q7.put3 ⟨_, _, _, _, _, _, _, B9⟩, below_put3 (bb hb0 x3) (by omega) (Nat.le_refl _) _ _ _⟩

set_option maxHeartbeats 1000000 in
theorem ref_zero {w : World} {s : Bool} {A A' : Option Addr} {n n' c c' : Nat} {X : Rat} (h : Q w s A n c A' n' c' X) :
    Calls Tryz.prog 78 #[.agg #[.bool s, .slice A n c, .slice A' n' c']] w (RetBl (decide (X = 0)) w) := by
  have hl := h.2.1.len
  have hlz := words_nil_iff' hl
  have hz := rat_zero_iff X
  by_cases h0 : X = 0
  · have hn : n = 0 := hlz.2 (hz.1 h0)
    subst hn
    rw [decide_eq_true h0]
    clear h0 hl hlz h hz
    go_enter Tryz.func78, Tryz.ntmps78
    go_wp2_with fail
    go_ret
    exact ⟨rfl, below_alloc _ _⟩
  · have hn : ¬ n = 0 := fun e => h0 (hz.2 (hlz.1 e))
    have hn2 : ((n : Int) == 0) = false := by simp; omega
    have hn3 : decide (n = 0) = false := decide_eq_false hn
    rw [decide_eq_false h0]
    clear h0 hl hlz h hz
    go_enter Tryz.func78, Tryz.ntmps78
    go_wp2_with fail
    go_ret
    exact ⟨rfl, below_alloc _ _⟩

set_option maxRecDepth 100000 in
set_option maxHeartbeats 4000000 in
theorem ref_qaddT {w : World} {s t : Bool} {A A' B B' : Option Addr} {n n' c c' m m' d d' N : Nat} {X Y : Rat} (h : Q w s A n c A' n' c' X) (k : Q w t B m d B' m' d' Y) (hX : Sz X N) (hY : Sz Y N) (hN : N ≤ 40000) (htz : tz (X.den * Y.den) ≤ 65536) :
    Calls Tryz.prog 21 #[.agg #[.bool s, .slice A n c, .slice A' n' c'], .agg #[.bool t, .slice B m d, .slice B' m' d']] w (RetQ (X + Y) w) := by
  obtain ⟨V, hW, Ba, Bb, Br, hb0⟩ := boxes2 45 w #[.bool s, .slice A n c, .slice A' n' c'] #[.bool t, .slice B m d, .slice B' m' d'] #[.bool false, .slice none 0 0, .slice none 0 0]
  have l1 : n ≤ N := h.2.1.small hX.1
  have l2 : n' ≤ N := h.2.2.small hX.2
  have l3 : m ≤ N := k.2.1.small hY.1
  have l4 : m' ≤ N := k.2.2.small hY.2
  have M1 := fun w1 (hb : Below V.heap.size V w1) => ref_nmul (h.2.1.below (bb hb0 hb)) (k.2.2.below (bb hb0 hb)) (by omega) (by omega)
  have M2 := fun w1 (hb : Below V.heap.size V w1) => ref_nmul (k.2.1.below (bb hb0 hb)) (h.2.2.below (bb hb0 hb)) (by omega) (by omega)
  have M3 := fun w1 (hb : Below V.heap.size V w1) => ref_nmul (h.2.2.below (bb hb0 hb)) (k.2.2.below (bb hb0 hb)) (by omega) (by omega)
  simp only [val_words] at M1 M2 M3
  have z1 := mul_lt_powW hX.1 hY.2
  have z2 := mul_lt_powW hY.1 hX.2
  have z3 := mul_lt_powW hX.2 hY.2
  have z4 := two_pow_W (N + N)
  have hR : X.den * Y.den ≠ 0 := Nat.mul_ne_zero (den_ne X) (den_ne Y)
  have hadd := fun (sg : Bool) (u : Nat) (e : sI sg u = sI s (X.num.natAbs * Y.den) + sI t (Y.num.natAbs * X.den)) => add_rq' X Y (s := sg) (m := u) (by rw [e, sI_mul_nat, sI_mul_nat, h.1, k.1, sI_num, sI_num])
  have hS : ∀ w', Below V.heap.size V w' → (w'.cell? ⟨w.heap.size, 0, none⟩ = some (.bool s) ∧ w'.cell? ⟨w.heap.size, 1, none⟩ = some (.slice A n c) ∧ w'.cell? ⟨w.heap.size, 2, none⟩ = some (.slice A' n' c')) ∧ (w'.cell? ⟨w.heap.size + 1, 0, none⟩ = some (.bool t) ∧ w'.cell? ⟨w.heap.size + 1, 1, none⟩ = some (.slice B m d) ∧ w'.cell? ⟨w.heap.size + 1, 2, none⟩ = some (.slice B' m' d')) := fun w' hb => ⟨(Ba.below' hb).three.1, (Bb.below' hb).three.1⟩
  clear h k
  generalize X + Y = Z at *
  generalize X.num.natAbs * Y.den = P at *
  generalize Y.num.natAbs * X.den = R at *
  generalize X.den * Y.den = D at *
  have MK : ∀ (w1 : World) (C C' : Option Addr) (a b a' b' u : Nat) (sg : Bool) (e : sI sg u = sI s P + sI t R) (hu : u ≤ P + R) (x : Sl w1 C a b (words u)) (y : Sl w1 C' a' b' (words D)), Calls Tryz.prog 45 #[.bool sg, .slice C a b, .slice C' a' b'] w1 (RetQ Z w1) := by
    intro w1 C C' a b a' b' u sg e hu x y
    have := ref_makeT (N := N + N + 1) sg x y (x.small (by omega)) (y.small (by omega)) (by omega) (by rw [val_words]; exact hR) (by rw [val_words]; exact htz)
    rw [val_words, val_words, hadd sg u e] at this
    exact this
  have AD := fun (w1 : World) (C C' : Option Addr) (a b a' b' : Nat) (x : Sl w1 C a b (words P)) (y : Sl w1 C' a' b' (words R)) => ref_nadd x y (by have := x.small z1; omega) (by have := y.small z2; omega)
  have CM := fun (w1 : World) (C C' : Option Addr) (a b a' b' : Nat) (x : Sl w1 C a b (words P)) (y : Sl w1 C' a' b' (words R)) => ref_cmp x y (by have := x.small z1; omega) (by have := y.small z2; omega)
  have SB := fun (w1 : World) (C C' : Option Addr) (a b a' b' : Nat) (x : Sl w1 C a b (words P)) (y : Sl w1 C' a' b' (words R)) (hle : R ≤ P) => ref_nsub x y (by have := x.small z1; omega) (by have := y.small z2; omega) (by rw [val_words, val_words]; exact hle)
  have SC := fun (w1 : World) (C C' : Option Addr) (a b a' b' : Nat) (x : Sl w1 C a b (words R)) (y : Sl w1 C' a' b' (words P)) (hle : P ≤ R) => ref_nsub x y (by have := x.small z2; omega) (by have := y.small z1; omega) (by rw [val_words, val_words]; exact hle)
  simp only [val_words] at AD CM SB SC
  have HM1 := Lib.hid M1
  have HM2 := Lib.hid M2
  have HM3 := Lib.hid M3
  have HMK := Lib.hid MK
  have HAD := Lib.hid AD
  have HCM := Lib.hid CM
  have HSB := Lib.hid SB
  have HSC := Lib.hid SC
  have HS := Lib.hid hS
  have HBa := Lib.hid Ba
  have HBb := Lib.hid Bb
  have HBr := Lib.hid Br
  have HW := Lib.hid hW
  clear htz M1 M2 M3 MK AD CM SB SC hS Ba Bb Br hW hadd hR z1 z2 z3 z4
  by_cases hst : s = t
  · subst hst
    go_enter Tryz.func21, Tryz.ntmps21
    go_wp2_with fail
    refine (HM1.out _ (by rw [HW.out]; exact Below.refl _ _)).mono ?_
    rintro _ w1 ⟨A1, n1, c1, rfl, t1, b1⟩
    rw [HW.out] at b1
    clear HW
    obtain ⟨⟨k0, k1, k2⟩, j0, j1, j2⟩ := HS.out _ b1
    go_wp2_with fail
    refine (HM2.out _ b1).mono ?_
    rintro _ w2 ⟨A2, n2, c2, rfl, t2, b2⟩
    have x2 := bb b1 b2
    clear k0 k1 k2 j0 j1 j2
    obtain ⟨⟨k0, k1, k2⟩, j0, j1, j2⟩ := HS.out _ x2
    go_wp2_with fail
    refine (HM3.out _ x2).mono ?_
    rintro _ w3 ⟨A3, n3, c3, rfl, t3, b3⟩
    have x3 := bb x2 b3
    have t13 := (t1.below b2).below b3
    have t23 := t2.below b3
    clear k0 k1 k2 j0 j1 j2 t1 t2
    obtain ⟨⟨k0, k1, k2⟩, j0, j1, j2⟩ := HS.out _ x3
    go_wp2_with fail
    go_region_held3 (fun w' => (w'.cell? ⟨w.heap.size, 0, none⟩ = some (.bool s) ∧ w'.cell? ⟨w.heap.size, 1, none⟩ = some (.slice A n c) ∧ w'.cell? ⟨w.heap.size, 2, none⟩ = some (.slice A' n' c')) ∧ (w'.cell? ⟨w.heap.size + 1, 0, none⟩ = some (.bool s) ∧ w'.cell? ⟨w.heap.size + 1, 1, none⟩ = some (.slice B m d) ∧ w'.cell? ⟨w.heap.size + 1, 2, none⟩ = some (.slice B' m' d'))) (first | exact HS.out _ x3.drew | exact HS4.out | exact HS.out _ x5 | exact HS.out _ x4 | fail)
      (first
        | (go_at_call 53; (with_reducible refine (HAD.out _ _ _ _ _ _ _ ?ha1 ?ha2).mono ?_); (case ha1 => exact t13); (case ha2 => exact t23); rintro _ w4 ⟨A4, n4, c4, rfl, t4, b4⟩; have x4 : Below V.heap.size V w4 := bb x3 (Below.undrew b4))
        | (go_at_call 45; (with_reducible refine (HMK.out _ _ _ _ _ _ _ _ s (sI_add_same s P R) (Nat.le_refl _) t4 (t3.below (Below.undrew b4))).mono ?_); rintro _ w5 ⟨s7, A7, n7, c7, A8, n8, c8, rfl, q7, b5⟩; have x5 : Below V.heap.size V w5 := bb x4 b5; have HS4 := Lib.hid (And.intro ((HBa.out.below' x5).put3 (show w.heap.size ≠ w.heap.size + 1 + 1 by omega) (.bool s7) (.slice A7 n7 c7) (.slice A8 n8 c8)).three.1 ((HBb.out.below' x5).put3 (show w.heap.size + 1 ≠ w.heap.size + 1 + 1 by omega) (.bool s7) (.slice A7 n7 c7) (.slice A8 n8 c8)).three.1); have B9 := HBr.out.below' x5; obtain ⟨⟨r0, r1, r2⟩, f0, f1, f2⟩ := B9.three))
    all_goals
      go_wp2_with fail
      refine bodyPost_ret (v := .agg #[.bool s7, .slice A7 n7 c7, .slice A8 n8 c8]) (by simp [results, Tryz.results21, go_sem, r0, r1, r2]) rfl ?_
      exact ⟨_, _, _, _, _, _, _, rfl, q7.put3 ⟨_, _, _, _, _, _, _, B9⟩, below_put3 (bb hb0 x5) (by omega) (Nat.le_refl _) _ _ _⟩
  · have hne : (s == t) = false := by simpa using hst
    have HST := Lib.hid hst
    clear hst
    rcases Nat.lt_or_ge P R with hlt | hge
    · rw [cmpN_lt hlt] at HCM
      go_enter Tryz.func21, Tryz.ntmps21
      go_wp2_with fail
      refine (HM1.out _ (by rw [HW.out]; exact Below.refl _ _)).mono ?_
      rintro _ w1 ⟨A1, n1, c1, rfl, t1, b1⟩
      rw [HW.out] at b1
      clear HW
      obtain ⟨⟨k0, k1, k2⟩, j0, j1, j2⟩ := HS.out _ b1
      go_wp2_with fail
      refine (HM2.out _ b1).mono ?_
      rintro _ w2 ⟨A2, n2, c2, rfl, t2, b2⟩
      have x2 := bb b1 b2
      clear k0 k1 k2 j0 j1 j2
      obtain ⟨⟨k0, k1, k2⟩, j0, j1, j2⟩ := HS.out _ x2
      go_wp2_with fail
      refine (HM3.out _ x2).mono ?_
      rintro _ w3 ⟨A3, n3, c3, rfl, t3, b3⟩
      have x3 := bb x2 b3
      have t13 := (t1.below b2).below b3
      have t23 := t2.below b3
      clear k0 k1 k2 j0 j1 j2 t1 t2
      obtain ⟨⟨k0, k1, k2⟩, j0, j1, j2⟩ := HS.out _ x3
      go_wp2_with fail
      refine (HCM.out _ _ _ _ _ _ _ t13 t23).mono ?_
      rintro _ _ ⟨rfl, rfl⟩
      go_wp2_with fail
      go_region_held3 (fun w' => (w'.cell? ⟨w.heap.size, 0, none⟩ = some (.bool s) ∧ w'.cell? ⟨w.heap.size, 1, none⟩ = some (.slice A n c) ∧ w'.cell? ⟨w.heap.size, 2, none⟩ = some (.slice A' n' c')) ∧ (w'.cell? ⟨w.heap.size + 1, 0, none⟩ = some (.bool t) ∧ w'.cell? ⟨w.heap.size + 1, 1, none⟩ = some (.slice B m d) ∧ w'.cell? ⟨w.heap.size + 1, 2, none⟩ = some (.slice B' m' d'))) (first | exact HS.out _ x3.drew | exact HS4.out | exact HS.out _ x5 | exact HS.out _ x4 | fail)
        (first
          | (go_at_call 55; (with_reducible refine (HSC.out _ _ _ _ _ _ _ ?hb1 ?hb2 (by omega)).mono ?_); (case hb1 => exact t23); (case hb2 => exact t13); rintro _ w4 ⟨A4, n4, c4, rfl, t4, b4⟩; have x4 : Below V.heap.size V w4 := bb x3 (Below.undrew b4))
          | (go_at_call 45; (with_reducible refine (HMK.out _ _ _ _ _ _ _ _ t (sI_add_right HST.out (by omega)) (by omega) t4 (t3.below (Below.undrew b4))).mono ?_); rintro _ w5 ⟨s7, A7, n7, c7, A8, n8, c8, rfl, q7, b5⟩; have x5 : Below V.heap.size V w5 := bb x4 b5; have HS4 := Lib.hid (And.intro ((HBa.out.below' x5).put3 (show w.heap.size ≠ w.heap.size + 1 + 1 by omega) (.bool s7) (.slice A7 n7 c7) (.slice A8 n8 c8)).three.1 ((HBb.out.below' x5).put3 (show w.heap.size + 1 ≠ w.heap.size + 1 + 1 by omega) (.bool s7) (.slice A7 n7 c7) (.slice A8 n8 c8)).three.1); have B9 := HBr.out.below' x5; obtain ⟨⟨r0, r1, r2⟩, f0, f1, f2⟩ := B9.three))
      all_goals
        go_wp2_with fail
        refine bodyPost_ret (v := .agg #[.bool s7, .slice A7 n7 c7, .slice A8 n8 c8]) (by simp [results, Tryz.results21, go_sem, r0, r1, r2]) rfl ?_
        exact ⟨_, _, _, _, _, _, _, rfl, q7.put3 ⟨_, _, _, _, _, _, _, B9⟩, below_put3 (bb hb0 x5) (by omega) (Nat.le_refl _) _ _ _⟩
    · have hcm : 0 ≤ cmpN P R := by have := cmpN_neg P R; omega
      generalize cmpN P R = cm at *
      go_enter Tryz.func21, Tryz.ntmps21
      go_wp2_with fail
      refine (HM1.out _ (by rw [HW.out]; exact Below.refl _ _)).mono ?_
      rintro _ w1 ⟨A1, n1, c1, rfl, t1, b1⟩
      rw [HW.out] at b1
      clear HW
      obtain ⟨⟨k0, k1, k2⟩, j0, j1, j2⟩ := HS.out _ b1
      go_wp2_with fail
      refine (HM2.out _ b1).mono ?_
      rintro _ w2 ⟨A2, n2, c2, rfl, t2, b2⟩
      have x2 := bb b1 b2
      clear k0 k1 k2 j0 j1 j2
      obtain ⟨⟨k0, k1, k2⟩, j0, j1, j2⟩ := HS.out _ x2
      go_wp2_with fail
      refine (HM3.out _ x2).mono ?_
      rintro _ w3 ⟨A3, n3, c3, rfl, t3, b3⟩
      have x3 := bb x2 b3
      have t13 := (t1.below b2).below b3
      have t23 := t2.below b3
      clear k0 k1 k2 j0 j1 j2 t1 t2
      obtain ⟨⟨k0, k1, k2⟩, j0, j1, j2⟩ := HS.out _ x3
      go_wp2_with fail
      refine (HCM.out _ _ _ _ _ _ _ t13 t23).mono ?_
      rintro _ _ ⟨rfl, rfl⟩
      go_wp2_with fail
      go_region_held3 (fun w' => (w'.cell? ⟨w.heap.size, 0, none⟩ = some (.bool s) ∧ w'.cell? ⟨w.heap.size, 1, none⟩ = some (.slice A n c) ∧ w'.cell? ⟨w.heap.size, 2, none⟩ = some (.slice A' n' c')) ∧ (w'.cell? ⟨w.heap.size + 1, 0, none⟩ = some (.bool t) ∧ w'.cell? ⟨w.heap.size + 1, 1, none⟩ = some (.slice B m d) ∧ w'.cell? ⟨w.heap.size + 1, 2, none⟩ = some (.slice B' m' d'))) (first | exact HS.out _ x3.drew | exact HS4.out | exact HS.out _ x5 | exact HS.out _ x4 | fail)
        (first
          | (go_at_call 55; (with_reducible refine (HSB.out _ _ _ _ _ _ _ ?hc1 ?hc2 (by omega)).mono ?_); (case hc1 => exact t13); (case hc2 => exact t23); rintro _ w4 ⟨A4, n4, c4, rfl, t4, b4⟩; have x4 : Below V.heap.size V w4 := bb x3 (Below.undrew b4))
          | (go_at_call 45; (with_reducible refine (HMK.out _ _ _ _ _ _ _ _ s (sI_add_left HST.out (by omega)) (by omega) t4 (t3.below (Below.undrew b4))).mono ?_); rintro _ w5 ⟨s7, A7, n7, c7, A8, n8, c8, rfl, q7, b5⟩; have x5 : Below V.heap.size V w5 := bb x4 b5; have HS4 := Lib.hid (And.intro ((HBa.out.below' x5).put3 (show w.heap.size ≠ w.heap.size + 1 + 1 by omega) (.bool s7) (.slice A7 n7 c7) (.slice A8 n8 c8)).three.1 ((HBb.out.below' x5).put3 (show w.heap.size + 1 ≠ w.heap.size + 1 + 1 by omega) (.bool s7) (.slice A7 n7 c7) (.slice A8 n8 c8)).three.1); have B9 := HBr.out.below' x5; obtain ⟨⟨r0, r1, r2⟩, f0, f1, f2⟩ := B9.three))
      all_goals
        go_wp2_with fail
        refine bodyPost_ret (v := .agg #[.bool s7, .slice A7 n7 c7, .slice A8 n8 c8]) (by simp [results, Tryz.results21, go_sem, r0, r1, r2]) rfl ?_
        exact ⟨_, _, _, _, _, _, _, rfl, q7.put3 ⟨_, _, _, _, _, _, _, B9⟩, below_put3 (bb hb0 x5) (by omega) (Nat.le_refl _) _ _ _⟩

theorem ref_qadd {w : World} {s t : Bool} {A A' B B' : Option Addr} {n n' c c' m m' d d' N : Nat} {X Y : Rat} (h : Q w s A n c A' n' c' X) (k : Q w t B m d B' m' d' Y) (hX : Sz X N) (hY : Sz Y N) (hN : N ≤ 400) :
    Calls Tryz.prog 21 #[.agg #[.bool s, .slice A n c, .slice A' n' c'], .agg #[.bool t, .slice B m d, .slice B' m' d']] w (RetQ (X + Y) w) :=
  ref_qaddT h k hX hY (by omega) (tz_small (N := N + N) (mul_lt_powW hX.2 hY.2) (by omega))

set_option maxRecDepth 100000 in
set_option maxHeartbeats 4000000 in
theorem ref_qsub {w : World} {s t : Bool} {A A' B B' : Option Addr} {n n' c c' m m' d d' N : Nat} {X Y : Rat} (h : Q w s A n c A' n' c' X) (k : Q w t B m d B' m' d' Y) (hX : Sz X N) (hY : Sz Y N) (hN : N ≤ 400) :
    Calls Tryz.prog 77 #[.agg #[.bool s, .slice A n c, .slice A' n' c'], .agg #[.bool t, .slice B m d, .slice B' m' d']] w (RetQ (X - Y) w) := by
  obtain ⟨V, hW, Ba, Bb, Br, hb0⟩ := boxes2 45 w #[.bool s, .slice A n c, .slice A' n' c'] #[.bool t, .slice B m d, .slice B' m' d'] #[.bool false, .slice none 0 0, .slice none 0 0]
  have NG := fun w1 (hb : Below V.heap.size V w1) => ref_neg (k.below (bb hb0 hb)) hY hN
  have AD := fun w1 (hb : Below V.heap.size V w1) (t1 : Bool) (C C' : Option Addr) (a b a' b' : Nat) (q : Q w1 t1 C a b C' a' b' (-Y)) => ref_qadd (h.below (bb hb0 hb)) q hX hY.neg hN
  rw [← Rat.sub_eq_add_neg] at AD
  have hS : ∀ w', Below V.heap.size V w' → (w'.cell? ⟨w.heap.size, 0, none⟩ = some (.bool s) ∧ w'.cell? ⟨w.heap.size, 1, none⟩ = some (.slice A n c) ∧ w'.cell? ⟨w.heap.size, 2, none⟩ = some (.slice A' n' c')) ∧ (w'.cell? ⟨w.heap.size + 1, 0, none⟩ = some (.bool t) ∧ w'.cell? ⟨w.heap.size + 1, 1, none⟩ = some (.slice B m d) ∧ w'.cell? ⟨w.heap.size + 1, 2, none⟩ = some (.slice B' m' d')) := fun w' hb => ⟨(Ba.below' hb).three.1, (Bb.below' hb).three.1⟩
  have HNG := Lib.hid NG
  have HAD := Lib.hid AD
  have HS := Lib.hid hS
  have HBa := Lib.hid Ba
  have HBb := Lib.hid Bb
  have HBr := Lib.hid Br
  have HW := Lib.hid hW
  clear NG AD hS Ba Bb Br hW h k hX hY
  go_enter Tryz.func77, Tryz.ntmps77
  go_wp2_with fail
  rw [HW.out]
  obtain ⟨⟨k0, k1, k2⟩, j0, j1, j2⟩ := HS.out _ (Below.refl _ V)
  go_region_held3 (fun w' => (w'.cell? ⟨w.heap.size, 0, none⟩ = some (.bool s) ∧ w'.cell? ⟨w.heap.size, 1, none⟩ = some (.slice A n c) ∧ w'.cell? ⟨w.heap.size, 2, none⟩ = some (.slice A' n' c')) ∧ (w'.cell? ⟨w.heap.size + 1, 0, none⟩ = some (.bool t) ∧ w'.cell? ⟨w.heap.size + 1, 1, none⟩ = some (.slice B m d) ∧ w'.cell? ⟨w.heap.size + 1, 2, none⟩ = some (.slice B' m' d'))) (first | exact HS.out _ (Below.refl _ V).drew | exact HS4.out | exact HS.out _ x2 | exact HS.out _ x1 | fail)
    (first
      | (go_at_call 76; (with_reducible refine (HNG.out _ ?hb1).mono ?_); (case hb1 => exact (Below.refl _ V).drew); rintro _ w1 ⟨s1, A1, n1, c1, A2, n2, c2, rfl, q1, b1⟩; have x1 : Below V.heap.size V w1 := Below.undrew b1)
      | (go_at_call 21; (with_reducible refine (HAD.out _ x1 _ _ _ _ _ _ _ q1).mono ?_); rintro _ w2 ⟨s7, A7, n7, c7, A8, n8, c8, rfl, q7, b2⟩; have x2 : Below V.heap.size V w2 := bb x1 b2; have HS4 := Lib.hid (And.intro ((HBa.out.below' x2).put3 (show w.heap.size ≠ w.heap.size + 1 + 1 by omega) (.bool s7) (.slice A7 n7 c7) (.slice A8 n8 c8)).three.1 ((HBb.out.below' x2).put3 (show w.heap.size + 1 ≠ w.heap.size + 1 + 1 by omega) (.bool s7) (.slice A7 n7 c7) (.slice A8 n8 c8)).three.1); have B9 := HBr.out.below' x2; obtain ⟨⟨r0, r1, r2⟩, f0, f1, f2⟩ := B9.three))
  all_goals
    go_wp2_with fail
    refine bodyPost_ret (v := .agg #[.bool s7, .slice A7 n7 c7, .slice A8 n8 c8]) (by simp [results, Tryz.results77, go_sem, r0, r1, r2]) rfl ?_
    exact ⟨_, _, _, _, _, _, _, rfl, q7.put3 ⟨_, _, _, _, _, _, _, B9⟩, below_put3 (bb hb0 x2) (by omega) (Nat.le_refl _) _ _ _⟩

set_option maxRecDepth 100000 in
set_option maxHeartbeats 4000000 in
theorem ref_qmul {w : World} {s t : Bool} {A A' B B' : Option Addr} {n n' c c' m m' d d' N : Nat} {X Y : Rat} (h : Q w s A n c A' n' c' X) (k : Q w t B m d B' m' d' Y) (hX : Sz X N) (hY : Sz Y N) (hN : N ≤ 400) :
    Calls Tryz.prog 22 #[.agg #[.bool s, .slice A n c, .slice A' n' c'], .agg #[.bool t, .slice B m d, .slice B' m' d']] w (RetQ (X * Y) w) := by
  obtain ⟨V, hW, Ba, Bb, Br, hb0⟩ := boxes2 45 w #[.bool s, .slice A n c, .slice A' n' c'] #[.bool t, .slice B m d, .slice B' m' d'] #[.bool false, .slice none 0 0, .slice none 0 0]
  have l1 : n ≤ N := h.2.1.small hX.1
  have l2 : n' ≤ N := h.2.2.small hX.2
  have l3 : m ≤ N := k.2.1.small hY.1
  have l4 : m' ≤ N := k.2.2.small hY.2
  have M1 := fun w1 (hb : Below V.heap.size V w1) => ref_nmul (h.2.1.below (bb hb0 hb)) (k.2.1.below (bb hb0 hb)) (by omega) (by omega)
  have M2 := fun w1 (hb : Below V.heap.size V w1) => ref_nmul (h.2.2.below (bb hb0 hb)) (k.2.2.below (bb hb0 hb)) (by omega) (by omega)
  simp only [val_words] at M1 M2
  have e1 := mul_rq' X Y
  rw [← h.1, ← k.1] at e1
  have z1 := mul_lt_powW hX.1 hY.1
  have z2 := mul_lt_powW hX.2 hY.2
  have hR : X.den * Y.den ≠ 0 := Nat.mul_ne_zero (den_ne X) (den_ne Y)
  clear h k
  generalize X.num.natAbs * Y.num.natAbs = P at *
  generalize X.den * Y.den = R at *
  have MK : ∀ (w1 : World) (C C' : Option Addr) (a b a' b' : Nat) (sg : Bool) (hsg : sg = (s != t)) (x : Sl w1 C a b (words P)) (y : Sl w1 C' a' b' (words R)), Calls Tryz.prog 45 #[.bool sg, .slice C a b, .slice C' a' b'] w1 (RetQ (X * Y) w1) := by
    intro w1 C C' a b a' b' sg hsg x y
    have := ref_make (N := N + N) sg x y (x.small z1) (y.small z2) (by omega) (by rw [val_words]; exact hR)
    rw [val_words, val_words, hsg, e1] at this
    rw [hsg]; exact this
  have hS : ∀ w', Below V.heap.size V w' → (w'.cell? ⟨w.heap.size, 0, none⟩ = some (.bool s) ∧ w'.cell? ⟨w.heap.size, 1, none⟩ = some (.slice A n c) ∧ w'.cell? ⟨w.heap.size, 2, none⟩ = some (.slice A' n' c')) ∧ (w'.cell? ⟨w.heap.size + 1, 0, none⟩ = some (.bool t) ∧ w'.cell? ⟨w.heap.size + 1, 1, none⟩ = some (.slice B m d) ∧ w'.cell? ⟨w.heap.size + 1, 2, none⟩ = some (.slice B' m' d')) := fun w' hb => ⟨(Ba.below' hb).three.1, (Bb.below' hb).three.1⟩
  generalize X * Y = Z at *
  have HM1 := Lib.hid M1
  have HM2 := Lib.hid M2
  have HMK := Lib.hid MK
  have HS := Lib.hid hS
  have HBa := Lib.hid Ba
  have HBb := Lib.hid Bb
  have HBr := Lib.hid Br
  have HW := Lib.hid hW
  clear M1 M2 MK hS Ba Bb Br hW e1 z1 z2 hR
  go_enter Tryz.func22, Tryz.ntmps22
  go_wp2_with fail
  rw [HW.out]
  clear HW
  obtain ⟨⟨k0, k1, k2⟩, j0, j1, j2⟩ := HS.out _ (Below.refl _ V)
  go_region_held3 (fun w' => (w'.cell? ⟨w.heap.size, 0, none⟩ = some (.bool s) ∧ w'.cell? ⟨w.heap.size, 1, none⟩ = some (.slice A n c) ∧ w'.cell? ⟨w.heap.size, 2, none⟩ = some (.slice A' n' c')) ∧ (w'.cell? ⟨w.heap.size + 1, 0, none⟩ = some (.bool t) ∧ w'.cell? ⟨w.heap.size + 1, 1, none⟩ = some (.slice B m d) ∧ w'.cell? ⟨w.heap.size + 1, 2, none⟩ = some (.slice B' m' d'))) (first | exact HS.out _ (Below.refl _ V).drew | exact HS4.out | exact HS.out _ x3 | exact HS.out _ x2 | exact HS.out _ x1 | fail)
    (first
      | (go_at_call 52; (with_reducible refine (HM1.out _ ?h1).mono ?_); (case h1 => exact (Below.refl _ V).drew); rintro _ w1 ⟨A5, n5, c5, rfl, t5, b1⟩; have x1 : Below V.heap.size V w1 := Below.undrew b1)
      | (go_at_call 52; (with_reducible refine (HM2.out _ ?h3).mono ?_); (case h3 => exact x1); rintro _ w2 ⟨A6, n6, c6, rfl, t6, b2⟩; have x2 : Below V.heap.size V w2 := bb x1 b2)
      | (go_at_call 45; (with_reducible refine (HMK.out _ _ _ _ _ _ _ _ ?he (t5.below b2) t6).mono ?_); (case he => first | rfl | (cases s <;> cases t <;> rfl)); rintro _ w3 ⟨s7, A7, n7, c7, A8, n8, c8, rfl, q7, b3⟩; have x3 : Below V.heap.size V w3 := bb x2 b3; have HS4 := Lib.hid (And.intro ((HBa.out.below' x3).put3 (show w.heap.size ≠ w.heap.size + 1 + 1 by omega) (.bool s7) (.slice A7 n7 c7) (.slice A8 n8 c8)).three.1 ((HBb.out.below' x3).put3 (show w.heap.size + 1 ≠ w.heap.size + 1 + 1 by omega) (.bool s7) (.slice A7 n7 c7) (.slice A8 n8 c8)).three.1); have B9 := HBr.out.below' x3; obtain ⟨⟨r0, r1, r2⟩, f0, f1, f2⟩ := B9.three))
  all_goals
    go_wp2_with fail
    refine bodyPost_ret (v := .agg #[.bool s7, .slice A7 n7 c7, .slice A8 n8 c8]) (by simp [results, Tryz.results22, go_sem, r0, r1, r2]) rfl ?_
    exact ⟨_, _, _, _, _, _, _, rfl, q7.put3 ⟨_, _, _, _, _, _, _, B9⟩, below_put3 (bb hb0 x3) (by omega) (Nat.le_refl _) _ _ _⟩

set_option maxRecDepth 100000 in
set_option maxHeartbeats 4000000 in
theorem ref_qdiv {w : World} {s t : Bool} {A A' B B' : Option Addr} {n n' c c' m m' d d' N : Nat} {X Y : Rat} (h : Q w s A n c A' n' c' X) (k : Q w t B m d B' m' d' Y) (hX : Sz X N) (hY : Sz Y N) (hN : N ≤ 400) (h0 : Y ≠ 0) :
    Calls Tryz.prog 79 #[.agg #[.bool s, .slice A n c, .slice A' n' c'], .agg #[.bool t, .slice B m d, .slice B' m' d']] w (RetQ (X / Y) w) := by
  obtain ⟨V, hW, Ba, Bb, Br, hb0⟩ := boxes2 45 w #[.bool s, .slice A n c, .slice A' n' c'] #[.bool t, .slice B m d, .slice B' m' d'] #[.bool false, .slice none 0 0, .slice none 0 0]
  have l1 : n ≤ N := h.2.1.small hX.1
  have l2 : n' ≤ N := h.2.2.small hX.2
  have l3 : m ≤ N := k.2.1.small hY.1
  have l4 : m' ≤ N := k.2.2.small hY.2
  have M1 := fun w1 (hb : Below V.heap.size V w1) => ref_nmul (h.2.1.below (bb hb0 hb)) (k.2.2.below (bb hb0 hb)) (by omega) (by omega)
  have M2 := fun w1 (hb : Below V.heap.size V w1) => ref_nmul (h.2.2.below (bb hb0 hb)) (k.2.1.below (bb hb0 hb)) (by omega) (by omega)
  simp only [val_words] at M1 M2
  have e1 := div_rq X Y h0
  rw [← h.1, ← k.1] at e1
  have z1 := mul_lt_powW hX.1 hY.2
  have z2 := mul_lt_powW hX.2 hY.1
  have hR : X.den * Y.num.natAbs ≠ 0 := Nat.mul_ne_zero (den_ne X) (by have := num_ne h0; omega)
  clear h k
  generalize X.num.natAbs * Y.den = P at *
  generalize X.den * Y.num.natAbs = R at *
  have MK : ∀ (w1 : World) (C C' : Option Addr) (a b a' b' : Nat) (sg : Bool) (hsg : sg = (s != t)) (x : Sl w1 C a b (words P)) (y : Sl w1 C' a' b' (words R)), Calls Tryz.prog 45 #[.bool sg, .slice C a b, .slice C' a' b'] w1 (RetQ (X / Y) w1) := by
    intro w1 C C' a b a' b' sg hsg x y
    have := ref_make (N := N + N) sg x y (x.small z1) (y.small z2) (by omega) (by rw [val_words]; exact hR)
    rw [val_words, val_words, hsg, e1] at this
    rw [hsg]; exact this
  have hS : ∀ w', Below V.heap.size V w' → (w'.cell? ⟨w.heap.size, 0, none⟩ = some (.bool s) ∧ w'.cell? ⟨w.heap.size, 1, none⟩ = some (.slice A n c) ∧ w'.cell? ⟨w.heap.size, 2, none⟩ = some (.slice A' n' c')) ∧ (w'.cell? ⟨w.heap.size + 1, 0, none⟩ = some (.bool t) ∧ w'.cell? ⟨w.heap.size + 1, 1, none⟩ = some (.slice B m d) ∧ w'.cell? ⟨w.heap.size + 1, 2, none⟩ = some (.slice B' m' d')) := fun w' hb => ⟨(Ba.below' hb).three.1, (Bb.below' hb).three.1⟩
  generalize X / Y = Z at *
  have HM1 := Lib.hid M1
  have HM2 := Lib.hid M2
  have HMK := Lib.hid MK
  have HS := Lib.hid hS
  have HBa := Lib.hid Ba
  have HBb := Lib.hid Bb
  have HBr := Lib.hid Br
  have HW := Lib.hid hW
  clear M1 M2 MK hS Ba Bb Br hW e1 z1 z2 hR
  go_enter Tryz.func79, Tryz.ntmps79
  go_wp2_with fail
  rw [HW.out]
  clear HW
  obtain ⟨⟨k0, k1, k2⟩, j0, j1, j2⟩ := HS.out _ (Below.refl _ V)
  go_region_held3 (fun w' => (w'.cell? ⟨w.heap.size, 0, none⟩ = some (.bool s) ∧ w'.cell? ⟨w.heap.size, 1, none⟩ = some (.slice A n c) ∧ w'.cell? ⟨w.heap.size, 2, none⟩ = some (.slice A' n' c')) ∧ (w'.cell? ⟨w.heap.size + 1, 0, none⟩ = some (.bool t) ∧ w'.cell? ⟨w.heap.size + 1, 1, none⟩ = some (.slice B m d) ∧ w'.cell? ⟨w.heap.size + 1, 2, none⟩ = some (.slice B' m' d'))) (first | exact HS.out _ (Below.refl _ V).drew | exact HS4.out | exact HS.out _ x3 | exact HS.out _ x2 | exact HS.out _ x1 | fail)
    (first
      | (go_at_call 52; (with_reducible refine (HM1.out _ ?h1).mono ?_); (case h1 => exact (Below.refl _ V).drew); rintro _ w1 ⟨A5, n5, c5, rfl, t5, b1⟩; have x1 : Below V.heap.size V w1 := Below.undrew b1)
      | (go_at_call 52; (with_reducible refine (HM2.out _ ?h3).mono ?_); (case h3 => exact x1); rintro _ w2 ⟨A6, n6, c6, rfl, t6, b2⟩; have x2 : Below V.heap.size V w2 := bb x1 b2)
      | (go_at_call 45; (with_reducible refine (HMK.out _ _ _ _ _ _ _ _ ?he (t5.below b2) t6).mono ?_); (case he => first | rfl | (cases s <;> cases t <;> rfl)); rintro _ w3 ⟨s7, A7, n7, c7, A8, n8, c8, rfl, q7, b3⟩; have x3 : Below V.heap.size V w3 := bb x2 b3; have HS4 := Lib.hid (And.intro ((HBa.out.below' x3).put3 (show w.heap.size ≠ w.heap.size + 1 + 1 by omega) (.bool s7) (.slice A7 n7 c7) (.slice A8 n8 c8)).three.1 ((HBb.out.below' x3).put3 (show w.heap.size + 1 ≠ w.heap.size + 1 + 1 by omega) (.bool s7) (.slice A7 n7 c7) (.slice A8 n8 c8)).three.1); have B9 := HBr.out.below' x3; obtain ⟨⟨r0, r1, r2⟩, f0, f1, f2⟩ := B9.three))
  all_goals
    go_wp2_with fail
    refine bodyPost_ret (v := .agg #[.bool s7, .slice A7 n7 c7, .slice A8 n8 c8]) (by simp [results, Tryz.results79, go_sem, r0, r1, r2]) rfl ?_
    exact ⟨_, _, _, _, _, _, _, rfl, q7.put3 ⟨_, _, _, _, _, _, _, B9⟩, below_put3 (bb hb0 x3) (by omega) (Nat.le_refl _) _ _ _⟩

end Go.Proofs.YtfhihapgjiaobaaGreat
