/-
  Words that the laws of exact numbers use: what is known to be so; gradinelaw07.same and right.
-/
import Derived.Test.YtmoahgiklgicgaaRatAdd
import Derived.IntWalk
namespace Go.Proofs.Ytmoahgiklgicgaa
set_option maxRecDepth 100000
open Go.RowKit
set_option linter.unusedVariables false
set_option linter.unusedSimpArgs false

end Go.Proofs.Ytmoahgiklgicgaa

namespace Go.Proofs.Ytmoahgiklgicgaa
set_option maxRecDepth 100000
open Go.RowKit
set_option linter.unusedVariables false
set_option linter.unusedSimpArgs false

/-- -1, 0 or 1 -/
def cmpI (a b : Int) : Int := if a < b then -1 else if b < a then 1 else 0
theorem same_Q {w : World} {s t : Bool} {A A' B B' : Option Addr} {n n' c c' m m' d d' : Nat} {X Y : Rat} (h : Q w s A n c A' n' c' X) (k : Q w t B m d B' m' d' Y) :
    decide (s = t ∧ words X.num.natAbs = words Y.num.natAbs ∧ words X.den = words Y.den) = decide (X = Y) := by
  rw [Bool.eq_iff_iff]
  simp only [decide_eq_true_eq]
  constructor
  · rintro ⟨e1, e2, e3⟩
    exact rat_ext (by rw [← h.1, ← k.1, e1]) (words_inj e2) (words_inj e3)
  · rintro rfl
    exact ⟨by rw [h.1, k.1], rfl, rfl⟩
end Go.Proofs.Ytmoahgiklgicgaa

namespace Go.Proofs.Ytmoahgiklgicgaa
set_option maxRecDepth 100000
open Go.RowKit
set_option linter.unusedVariables false
set_option linter.unusedSimpArgs false

theorem words_nil_iff' {R n : Nat} (h : n = (words R).length) : n = 0 ↔ R = 0 := by
  have := words_len0 R
  rw [← h] at this
  rw [Bool.eq_iff_iff] at this
  simp at this
  exact this

set_option maxRecDepth 100000 in
set_option maxHeartbeats 4000000 in
theorem ref_make {w : World} {A A' : Option Addr} {n n' c c' N : Nat} {xs ys : List Int} (s : Bool) (h : Sl w A n c xs) (h' : Sl w A' n' c' ys) (hn : n ≤ N) (hn' : n' ≤ N) (hN : N ≤ 1000) (h0 : val ys ≠ 0) :
    Calls Try.prog 39 #[.bool s, .slice A n c, .slice A' n' c'] w (RetQ (rq s (val xs) (val ys)) w) := by
  have za : val xs = 0 ↔ sz xs = 0 := valB_zero_iff W_pos (Dg_U h.us)
  have Z := fun w1 (hb : Below w.heap.size w w1) => ref_size (h.below hb) (by omega)
  obtain ⟨r1, r2, r3⟩ := rq_num s (val xs) (val ys) h0
  by_cases hz : val xs = 0
  · rw [za.1 hz] at Z
    have e1 : rq s (val xs) (val ys) = 0 := by
      unfold rq; rw [hz, sI_zero]; exact Rat.zero_mkRat _
    rw [e1]
    have HZ := Lib.hid Z
    clear Z r1 r2 r3 hz za e1
    have hs := sl_lit (w.alloc (.cells #[.bool false, .slice none 0 0, .slice (some ⟨w.heap.size + 1, 0, none⟩) 1 1] 36)) 1 U_1
    rw [show (w.alloc (.cells #[.bool false, .slice none 0 0, .slice (some ⟨w.heap.size + 1, 0, none⟩) 1 1] 36)).heap.size = w.heap.size + 1 from by simp] at hs
    have HSL := Lib.hid hs
    clear hs
    go_enter Try.func39, Try.ntmps39
    go_wp2_with fail
    refine (HZ.out _ (below_alloc _ _)).mono ?_
    rintro _ _ ⟨rfl, rfl⟩
    go_wp2_with fail
    refine bodyPost_ret (v := .agg #[.bool false, .slice none 0 0, .slice (some ⟨w.heap.size + 1, 0, none⟩) 1 1]) (by simp [results, Try.results39, go_sem]) rfl ?_
    refine ⟨_, _, _, _, _, _, _, rfl, ⟨rfl, Sl.nil _ _ _, ?_⟩, (below_alloc _ _).alloc (by simp) _⟩
    rw [show (0 : Rat).den = 1 from rfl, words_one]
    exact HSL.out
  · have hne : ((sz xs : Int) == 0) = false := by
      have : sz xs ≠ 0 := fun e => hz (za.2 e)
      simp; omega
    have G := fun w1 (hb : Below w.heap.size w w1) => ref_gcd (N := N) (h.below hb) (h'.below hb) hn hn' hN
    have P1 := fun w1 (hb : Below w.heap.size w w1) (C : Option Addr) (a b g : Nat) (x : Sl w1 C a b (words g)) (hl : a ≤ N) => ref_part (N := N) (h.below hb) x hn hl hN
    have P2 := fun w1 (hb : Below w.heap.size w w1) (C : Option Addr) (a b g : Nat) (x : Sl w1 C a b (words g)) (hl : a ≤ N) => ref_part (N := N) (h'.below hb) x hn' hl hN
    simp only [val_words] at P1 P2
    have va : val xs < W ^ N := val_lt_pow h.us (by have := h.len; omega)
    have vb : val ys < W ^ N := val_lt_pow h'.us (by have := h'.len; omega)
    have vg := gcd_lt va vb
    have hpz : val xs / Nat.gcd (val xs) (val ys) ≠ 0 := by
      have hg : 0 < Nat.gcd (val xs) (val ys) := Nat.pos_of_ne_zero fun e => h0 (Nat.eq_zero_of_gcd_eq_zero_right e)
      have := Nat.div_pos (Nat.le_of_dvd (Nat.pos_of_ne_zero hz) (Nat.gcd_dvd_left (val xs) (val ys))) hg
      omega
    rw [decide_eq_true hpz, Bool.and_true] at r3
    have hq : ∀ (w1 : World) (C C' : Option Addr) (a b a' b' : Nat), Sl w1 C a b (words (val xs / Nat.gcd (val xs) (val ys))) → Sl w1 C' a' b' (words (val ys / Nat.gcd (val xs) (val ys))) → Q w1 s C a b C' a' b' (rq s (val xs) (val ys)) := fun w1 C C' a b a' b' x y => ⟨r3.symm, by rw [r1]; exact x, by rw [r2]; exact y⟩
    generalize rq s (val xs) (val ys) = X at *
    generalize Nat.gcd (val xs) (val ys) = g at *
    generalize val xs = p at *
    generalize val ys = q at *
    generalize ((sz xs : Nat) : Int) = zz at *
    have HZ := Lib.hid Z
    have HG := Lib.hid G
    have HP1 := Lib.hid P1
    have HP2 := Lib.hid P2
    have HQ := Lib.hid hq
    have HVG := Lib.hid vg
    have Br := Box.new w 36 #[.bool false, .slice none 0 0, .slice none 0 0]
    have HBr := Lib.hid Br
    clear Z G P1 P2 hq vg va vb hpz r1 r2 r3 za hz Br h h' h0
    go_enter Try.func39, Try.ntmps39
    go_wp2_with fail
    refine (HZ.out _ (below_alloc _ _)).mono ?_
    rintro _ _ ⟨rfl, rfl⟩
    go_wp2_with fail
    refine (HG.out _ (below_alloc _ _)).mono ?_
    rintro _ w1 ⟨A1, n1, c1, rfl, t1, b1⟩
    have l1 : n1 ≤ N := t1.small HVG.out
    have x1 := bb (below_alloc w _) b1
    go_wp2_with fail
    refine (HP1.out _ x1 _ _ _ _ t1 l1).mono ?_
    rintro _ w2 ⟨A2, n2, c2, rfl, t2, b2⟩
    have x2 := bb x1 b2
    go_wp2_with fail
    refine (HP2.out _ x2 _ _ _ _ (t1.below b2) l1).mono ?_
    rintro _ w3 ⟨A3, n3, c3, rfl, t3, b3⟩
    have x3 := bb x2 b3
    have B9 := HBr.out.below' (bb b1 (bb b2 b3))
    have q7 := HQ.out _ _ _ _ _ _ _ (t2.below b3) t3
    obtain ⟨⟨r0, r1, r2⟩, f0, f1, f2⟩ := B9.three
    go_wp2_with fail
    refine bodyPost_ret (v := .agg #[.bool s, .slice A2 n2 c2, .slice A3 n3 c3]) (by simp [results, Try.results39, go_sem, r0, r1, r2]) rfl ?_
    exact ⟨_, _, _, _, _, _, _, rfl, q7.put3 ⟨_, _, _, _, _, _, _, B9⟩, below_put3 x3 (by omega) (Nat.le_refl _) _ _ _⟩

set_option maxRecDepth 100000 in
set_option maxHeartbeats 4000000 in
theorem ref_neg {w : World} {s : Bool} {A A' : Option Addr} {n n' c c' N : Nat} {X : Rat} (h : Q w s A n c A' n' c' X) (hX : Sz X N) (hN : N ≤ 400) :
    Calls Try.prog 60 #[.agg #[.bool s, .slice A n c, .slice A' n' c']] w (RetQ (-X) w) := by
  obtain ⟨V, hW, Ba, Br, hb0⟩ := boxes1 36 w #[.bool s, .slice A n c, .slice A' n' c'] #[.bool false, .slice none 0 0, .slice none 0 0]
  have l1 : n ≤ N := h.2.1.small hX.1
  have l2 : n' ≤ N := h.2.2.small hX.2
  have MK := fun w1 (hb : Below V.heap.size V w1) => ref_make (N := N) (!s) (h.2.1.below (bb hb0 hb)) (h.2.2.below (bb hb0 hb)) l1 l2 (by omega) (by rw [val_words]; exact den_ne X)
  have hneg := neg_rq X
  rw [← h.1] at hneg
  simp only [val_words] at MK
  rw [hneg] at MK
  have HMK := Lib.hid MK
  have HW := Lib.hid hW
  have HBr := Lib.hid Br
  clear MK hW Br Ba h hX hneg
  go_enter Try.func60, Try.ntmps60
  go_wp2_with fail
  refine (HMK.out _ (by rw [HW.out]; exact Below.refl _ _)).mono ?_
  rintro _ w3 ⟨s7, A7, n7, c7, A8, n8, c8, rfl, q7, b1⟩
  rw [HW.out] at b1
  have B9 := HBr.out.below' b1
  obtain ⟨⟨r0, r1, r2⟩, f0, f1, f2⟩ := B9.three
  have x3 := b1
  go_wp2_with fail
  refine bodyPost_ret (v := .agg #[.bool s7, .slice A7 n7 c7, .slice A8 n8 c8]) (by simp [results, Try.results60, go_sem, r0, r1, r2]) rfl ?_
  exact ⟨_, _, _, _, _, _, _, rfl, q7.put3 ⟨_, _, _, _, _, _, _, B9⟩, below_put3 (bb hb0 x3) (by omega) (Nat.le_refl _) _ _ _⟩

set_option maxRecDepth 100000 in
set_option maxHeartbeats 4000000 in
theorem ref_sign {w : World} {s : Bool} {A A' : Option Addr} {n n' c c' : Nat} {X : Rat} (h : Q w s A n c A' n' c' X) :
    Calls Try.prog 37 #[.agg #[.bool s, .slice A n c, .slice A' n' c']] w (RetI (sgnQ X) w) := by
  have hs := h.1
  have hl := h.2.1.len
  have hlz := words_nil_iff' hl
  unfold neg_ at hs
  by_cases h0 : X.num = 0
  · have e : sgnQ X = 0 := by unfold sgnQ; rw [if_neg (by omega), if_neg (by omega)]
    have hn : n = 0 := hlz.2 (by omega)
    subst hn
    rw [e]
    clear e h0 hs hl hlz h
    go_enter Try.func37, Try.ntmps37
    go_wp2_with fail
    go_ret
    exact ⟨rfl, below_alloc _ _⟩
  · have hn : ¬ n = 0 := fun e => h0 (by have := hlz.1 e; omega)
    have hn2 : ((n : Int) == 0) = false := by simp; omega
    have hn3 : decide (n = 0) = false := decide_eq_false hn
    by_cases h1 : X.num < 0
    · have e : sgnQ X = -1 := by unfold sgnQ; rw [if_pos h1]
      rw [decide_eq_true h1] at hs
      subst hs
      rw [e]
      clear e h0 h1 h hl hlz
      go_enter Try.func37, Try.ntmps37
      go_wp2_with fail
      go_ret
      exact ⟨rfl, below_alloc _ _⟩
    · have e : sgnQ X = 1 := by unfold sgnQ; rw [if_neg h1, if_pos (by omega)]
      rw [decide_eq_false h1] at hs
      subst hs
      rw [e]
      clear e h0 h1 h hl hlz
      go_enter Try.func37, Try.ntmps37
      go_wp2_with fail
      go_ret
      exact ⟨rfl, below_alloc _ _⟩

set_option maxRecDepth 100000 in
set_option maxHeartbeats 4000000 in
theorem ref_qadd {w : World} {s t : Bool} {A A' B B' : Option Addr} {n n' c c' m m' d d' N : Nat} {X Y : Rat} (h : Q w s A n c A' n' c' X) (k : Q w t B m d B' m' d' Y) (hX : Sz X N) (hY : Sz Y N) (hN : N ≤ 400) :
    Calls Try.prog 59 #[.agg #[.bool s, .slice A n c, .slice A' n' c'], .agg #[.bool t, .slice B m d, .slice B' m' d']] w (RetQ (X + Y) w) := by
  obtain ⟨V, hW, Ba, Bb, Br, hb0⟩ := boxes2 36 w #[.bool s, .slice A n c, .slice A' n' c'] #[.bool t, .slice B m d, .slice B' m' d'] #[.bool false, .slice none 0 0, .slice none 0 0]
  have l1 : n ≤ N := h.2.1.small hX.1
  have l2 : n' ≤ N := h.2.2.small hX.2
  have l3 : m ≤ N := k.2.1.small hY.1
  have l4 : m' ≤ N := k.2.2.small hY.2
  have M1 := fun w1 (hb : Below V.heap.size V w1) => ref_nmul (h.2.1.below (bb hb0 hb)) (k.2.2.below (bb hb0 hb)) (by omega) (by omega)
  have M2 := fun w1 (hb : Below V.heap.size V w1) => ref_nmul (k.2.1.below (bb hb0 hb)) (h.2.2.below (bb hb0 hb)) (by omega) (by omega)
  have M3 := fun w1 (hb : Below V.heap.size V w1) => ref_nmul (h.2.2.below (bb hb0 hb)) (k.2.2.below (bb hb0 hb)) (by omega) (by omega)
  simp only [val_words] at M1 M2 M3
  have z1 := mul_lt_powW hX.1 hY.2
  have z2 := mul_lt_powW hY.1 hX.2
  have z3 := mul_lt_powW hX.2 hY.2
  have z4 := two_pow_W (N + N)
  have hR : X.den * Y.den ≠ 0 := Nat.mul_ne_zero (den_ne X) (den_ne Y)
  have hadd := fun (sg : Bool) (u : Nat) (e : sI sg u = sI s (X.num.natAbs * Y.den) + sI t (Y.num.natAbs * X.den)) => add_rq' X Y (s := sg) (m := u) (by rw [e, sI_mul_nat, sI_mul_nat, h.1, k.1, sI_num, sI_num])
  have hS : ∀ w', Below V.heap.size V w' → (w'.cell? ⟨w.heap.size, 0, none⟩ = some (.bool s) ∧ w'.cell? ⟨w.heap.size, 1, none⟩ = some (.slice A n c) ∧ w'.cell? ⟨w.heap.size, 2, none⟩ = some (.slice A' n' c')) ∧ (w'.cell? ⟨w.heap.size + 1, 0, none⟩ = some (.bool t) ∧ w'.cell? ⟨w.heap.size + 1, 1, none⟩ = some (.slice B m d) ∧ w'.cell? ⟨w.heap.size + 1, 2, none⟩ = some (.slice B' m' d')) := fun w' hb => ⟨(Ba.below' hb).three.1, (Bb.below' hb).three.1⟩
  clear h k
  generalize X + Y = Z at *
  generalize X.num.natAbs * Y.den = P at *
  generalize Y.num.natAbs * X.den = R at *
  generalize X.den * Y.den = D at *
  have MK : ∀ (w1 : World) (C C' : Option Addr) (a b a' b' u : Nat) (sg : Bool) (e : sI sg u = sI s P + sI t R) (hu : u ≤ P + R) (x : Sl w1 C a b (words u)) (y : Sl w1 C' a' b' (words D)), Calls Try.prog 39 #[.bool sg, .slice C a b, .slice C' a' b'] w1 (RetQ Z w1) := by
    intro w1 C C' a b a' b' u sg e hu x y
    have := ref_make (N := N + N + 1) sg x y (x.small (by omega)) (y.small (by omega)) (by omega) (by rw [val_words]; exact hR)
    rw [val_words, val_words, hadd sg u e] at this
    exact this
  have AD := fun (w1 : World) (C C' : Option Addr) (a b a' b' : Nat) (x : Sl w1 C a b (words P)) (y : Sl w1 C' a' b' (words R)) => ref_nadd x y (by have := x.small z1; omega) (by have := y.small z2; omega)
  have CM := fun (w1 : World) (C C' : Option Addr) (a b a' b' : Nat) (x : Sl w1 C a b (words P)) (y : Sl w1 C' a' b' (words R)) => ref_cmp x y (by have := x.small z1; omega) (by have := y.small z2; omega)
  have SB := fun (w1 : World) (C C' : Option Addr) (a b a' b' : Nat) (x : Sl w1 C a b (words P)) (y : Sl w1 C' a' b' (words R)) (hle : R ≤ P) => ref_nsub x y (by have := x.small z1; omega) (by have := y.small z2; omega) (by rw [val_words, val_words]; exact hle)
  have SC := fun (w1 : World) (C C' : Option Addr) (a b a' b' : Nat) (x : Sl w1 C a b (words R)) (y : Sl w1 C' a' b' (words P)) (hle : P ≤ R) => ref_nsub x y (by have := x.small z2; omega) (by have := y.small z1; omega) (by rw [val_words, val_words]; exact hle)
  simp only [val_words] at AD CM SB SC
  have HM1 := Lib.hid M1
  have HM2 := Lib.hid M2
  have HM3 := Lib.hid M3
  have HMK := Lib.hid MK
  have HAD := Lib.hid AD
  have HCM := Lib.hid CM
  have HSB := Lib.hid SB
  have HSC := Lib.hid SC
  have HS := Lib.hid hS
  have HBa := Lib.hid Ba
  have HBb := Lib.hid Bb
  have HBr := Lib.hid Br
  have HW := Lib.hid hW
  clear M1 M2 M3 MK AD CM SB SC hS Ba Bb Br hW hadd hR z1 z2 z3 z4
  by_cases hst : s = t
  · subst hst
    go_enter Try.func59, Try.ntmps59
    go_wp2_with fail
    refine (HM1.out _ (by rw [HW.out]; exact Below.refl _ _)).mono ?_
    rintro _ w1 ⟨A1, n1, c1, rfl, t1, b1⟩
    rw [HW.out] at b1
    clear HW
    obtain ⟨⟨k0, k1, k2⟩, j0, j1, j2⟩ := HS.out _ b1
    go_wp2_with fail
    refine (HM2.out _ b1).mono ?_
    rintro _ w2 ⟨A2, n2, c2, rfl, t2, b2⟩
    have x2 := bb b1 b2
    clear k0 k1 k2 j0 j1 j2
    obtain ⟨⟨k0, k1, k2⟩, j0, j1, j2⟩ := HS.out _ x2
    go_wp2_with fail
    refine (HM3.out _ x2).mono ?_
    rintro _ w3 ⟨A3, n3, c3, rfl, t3, b3⟩
    have x3 := bb x2 b3
    have t13 := (t1.below b2).below b3
    have t23 := t2.below b3
    clear k0 k1 k2 j0 j1 j2 t1 t2
    obtain ⟨⟨k0, k1, k2⟩, j0, j1, j2⟩ := HS.out _ x3
    go_wp2_with fail
    go_region_held3 (fun w' => (w'.cell? ⟨w.heap.size, 0, none⟩ = some (.bool s) ∧ w'.cell? ⟨w.heap.size, 1, none⟩ = some (.slice A n c) ∧ w'.cell? ⟨w.heap.size, 2, none⟩ = some (.slice A' n' c')) ∧ (w'.cell? ⟨w.heap.size + 1, 0, none⟩ = some (.bool s) ∧ w'.cell? ⟨w.heap.size + 1, 1, none⟩ = some (.slice B m d) ∧ w'.cell? ⟨w.heap.size + 1, 2, none⟩ = some (.slice B' m' d'))) (first | exact HS.out _ x3.drew | exact HS4.out | exact HS.out _ x5 | exact HS.out _ x4 | fail)
      (first
        | (go_at_call 57; (with_reducible refine (HAD.out _ _ _ _ _ _ _ ?ha1 ?ha2).mono ?_); (case ha1 => exact t13); (case ha2 => exact t23); rintro _ w4 ⟨A4, n4, c4, rfl, t4, b4⟩; have x4 : Below V.heap.size V w4 := bb x3 (Below.undrew b4))
        | (go_at_call 39; (with_reducible refine (HMK.out _ _ _ _ _ _ _ _ s (sI_add_same s P R) (Nat.le_refl _) t4 (t3.below (Below.undrew b4))).mono ?_); rintro _ w5 ⟨s7, A7, n7, c7, A8, n8, c8, rfl, q7, b5⟩; have x5 : Below V.heap.size V w5 := bb x4 b5; have HS4 := Lib.hid (And.intro ((HBa.out.below' x5).put3 (show w.heap.size ≠ w.heap.size + 1 + 1 by omega) (.bool s7) (.slice A7 n7 c7) (.slice A8 n8 c8)).three.1 ((HBb.out.below' x5).put3 (show w.heap.size + 1 ≠ w.heap.size + 1 + 1 by omega) (.bool s7) (.slice A7 n7 c7) (.slice A8 n8 c8)).three.1); have B9 := HBr.out.below' x5; obtain ⟨⟨r0, r1, r2⟩, f0, f1, f2⟩ := B9.three))
    all_goals
      go_wp2_with fail
      refine bodyPost_ret (v := .agg #[.bool s7, .slice A7 n7 c7, .slice A8 n8 c8]) (by simp [results, Try.results59, go_sem, r0, r1, r2]) rfl ?_
      exact ⟨_, _, _, _, _, _, _, rfl, q7.put3 ⟨_, _, _, _, _, _, _, B9⟩, below_put3 (bb hb0 x5) (by omega) (Nat.le_refl _) _ _ _⟩
  · have hne : (s == t) = false := by simpa using hst
    have HST := Lib.hid hst
    clear hst
    rcases Nat.lt_or_ge P R with hlt | hge
    · rw [cmpN_lt hlt] at HCM
      go_enter Try.func59, Try.ntmps59
      go_wp2_with fail
      refine (HM1.out _ (by rw [HW.out]; exact Below.refl _ _)).mono ?_
      rintro _ w1 ⟨A1, n1, c1, rfl, t1, b1⟩
      rw [HW.out] at b1
      clear HW
      obtain ⟨⟨k0, k1, k2⟩, j0, j1, j2⟩ := HS.out _ b1
      go_wp2_with fail
      refine (HM2.out _ b1).mono ?_
      rintro _ w2 ⟨A2, n2, c2, rfl, t2, b2⟩
      have x2 := bb b1 b2
      clear k0 k1 k2 j0 j1 j2
      obtain ⟨⟨k0, k1, k2⟩, j0, j1, j2⟩ := HS.out _ x2
      go_wp2_with fail
      refine (HM3.out _ x2).mono ?_
      rintro _ w3 ⟨A3, n3, c3, rfl, t3, b3⟩
      have x3 := bb x2 b3
      have t13 := (t1.below b2).below b3
      have t23 := t2.below b3
      clear k0 k1 k2 j0 j1 j2 t1 t2
      obtain ⟨⟨k0, k1, k2⟩, j0, j1, j2⟩ := HS.out _ x3
      go_wp2_with fail
      refine (HCM.out _ _ _ _ _ _ _ t13 t23).mono ?_
      rintro _ _ ⟨rfl, rfl⟩
      go_wp2_with fail
      go_region_held3 (fun w' => (w'.cell? ⟨w.heap.size, 0, none⟩ = some (.bool s) ∧ w'.cell? ⟨w.heap.size, 1, none⟩ = some (.slice A n c) ∧ w'.cell? ⟨w.heap.size, 2, none⟩ = some (.slice A' n' c')) ∧ (w'.cell? ⟨w.heap.size + 1, 0, none⟩ = some (.bool t) ∧ w'.cell? ⟨w.heap.size + 1, 1, none⟩ = some (.slice B m d) ∧ w'.cell? ⟨w.heap.size + 1, 2, none⟩ = some (.slice B' m' d'))) (first | exact HS.out _ x3.drew | exact HS4.out | exact HS.out _ x5 | exact HS.out _ x4 | fail)
        (first
          | (go_at_call 29; (with_reducible refine (HSC.out _ _ _ _ _ _ _ ?hb1 ?hb2 (by omega)).mono ?_); (case hb1 => exact t23); (case hb2 => exact t13); rintro _ w4 ⟨A4, n4, c4, rfl, t4, b4⟩; have x4 : Below V.heap.size V w4 := bb x3 (Below.undrew b4))
          | (go_at_call 39; (with_reducible refine (HMK.out _ _ _ _ _ _ _ _ t (sI_add_right HST.out (by omega)) (by omega) t4 (t3.below (Below.undrew b4))).mono ?_); rintro _ w5 ⟨s7, A7, n7, c7, A8, n8, c8, rfl, q7, b5⟩; have x5 : Below V.heap.size V w5 := bb x4 b5; have HS4 := Lib.hid (And.intro ((HBa.out.below' x5).put3 (show w.heap.size ≠ w.heap.size + 1 + 1 by omega) (.bool s7) (.slice A7 n7 c7) (.slice A8 n8 c8)).three.1 ((HBb.out.below' x5).put3 (show w.heap.size + 1 ≠ w.heap.size + 1 + 1 by omega) (.bool s7) (.slice A7 n7 c7) (.slice A8 n8 c8)).three.1); have B9 := HBr.out.below' x5; obtain ⟨⟨r0, r1, r2⟩, f0, f1, f2⟩ := B9.three))
      all_goals
        go_wp2_with fail
        refine bodyPost_ret (v := .agg #[.bool s7, .slice A7 n7 c7, .slice A8 n8 c8]) (by simp [results, Try.results59, go_sem, r0, r1, r2]) rfl ?_
        exact ⟨_, _, _, _, _, _, _, rfl, q7.put3 ⟨_, _, _, _, _, _, _, B9⟩, below_put3 (bb hb0 x5) (by omega) (Nat.le_refl _) _ _ _⟩
    · have hcm : 0 ≤ cmpN P R := by have := cmpN_neg P R; omega
      generalize cmpN P R = cm at *
      go_enter Try.func59, Try.ntmps59
      go_wp2_with fail
      refine (HM1.out _ (by rw [HW.out]; exact Below.refl _ _)).mono ?_
      rintro _ w1 ⟨A1, n1, c1, rfl, t1, b1⟩
      rw [HW.out] at b1
      clear HW
      obtain ⟨⟨k0, k1, k2⟩, j0, j1, j2⟩ := HS.out _ b1
      go_wp2_with fail
      refine (HM2.out _ b1).mono ?_
      rintro _ w2 ⟨A2, n2, c2, rfl, t2, b2⟩
      have x2 := bb b1 b2
      clear k0 k1 k2 j0 j1 j2
      obtain ⟨⟨k0, k1, k2⟩, j0, j1, j2⟩ := HS.out _ x2
      go_wp2_with fail
      refine (HM3.out _ x2).mono ?_
      rintro _ w3 ⟨A3, n3, c3, rfl, t3, b3⟩
      have x3 := bb x2 b3
      have t13 := (t1.below b2).below b3
      have t23 := t2.below b3
      clear k0 k1 k2 j0 j1 j2 t1 t2
      obtain ⟨⟨k0, k1, k2⟩, j0, j1, j2⟩ := HS.out _ x3
      go_wp2_with fail
      refine (HCM.out _ _ _ _ _ _ _ t13 t23).mono ?_
      rintro _ _ ⟨rfl, rfl⟩
      go_wp2_with fail
      go_region_held3 (fun w' => (w'.cell? ⟨w.heap.size, 0, none⟩ = some (.bool s) ∧ w'.cell? ⟨w.heap.size, 1, none⟩ = some (.slice A n c) ∧ w'.cell? ⟨w.heap.size, 2, none⟩ = some (.slice A' n' c')) ∧ (w'.cell? ⟨w.heap.size + 1, 0, none⟩ = some (.bool t) ∧ w'.cell? ⟨w.heap.size + 1, 1, none⟩ = some (.slice B m d) ∧ w'.cell? ⟨w.heap.size + 1, 2, none⟩ = some (.slice B' m' d'))) (first | exact HS.out _ x3.drew | exact HS4.out | exact HS.out _ x5 | exact HS.out _ x4 | fail)
        (first
          | (go_at_call 29; (with_reducible refine (HSB.out _ _ _ _ _ _ _ ?hc1 ?hc2 (by omega)).mono ?_); (case hc1 => exact t13); (case hc2 => exact t23); rintro _ w4 ⟨A4, n4, c4, rfl, t4, b4⟩; have x4 : Below V.heap.size V w4 := bb x3 (Below.undrew b4))
          | (go_at_call 39; (with_reducible refine (HMK.out _ _ _ _ _ _ _ _ s (sI_add_left HST.out (by omega)) (by omega) t4 (t3.below (Below.undrew b4))).mono ?_); rintro _ w5 ⟨s7, A7, n7, c7, A8, n8, c8, rfl, q7, b5⟩; have x5 : Below V.heap.size V w5 := bb x4 b5; have HS4 := Lib.hid (And.intro ((HBa.out.below' x5).put3 (show w.heap.size ≠ w.heap.size + 1 + 1 by omega) (.bool s7) (.slice A7 n7 c7) (.slice A8 n8 c8)).three.1 ((HBb.out.below' x5).put3 (show w.heap.size + 1 ≠ w.heap.size + 1 + 1 by omega) (.bool s7) (.slice A7 n7 c7) (.slice A8 n8 c8)).three.1); have B9 := HBr.out.below' x5; obtain ⟨⟨r0, r1, r2⟩, f0, f1, f2⟩ := B9.three))
      all_goals
        go_wp2_with fail
        refine bodyPost_ret (v := .agg #[.bool s7, .slice A7 n7 c7, .slice A8 n8 c8]) (by simp [results, Try.results59, go_sem, r0, r1, r2]) rfl ?_
        exact ⟨_, _, _, _, _, _, _, rfl, q7.put3 ⟨_, _, _, _, _, _, _, B9⟩, below_put3 (bb hb0 x5) (by omega) (Nat.le_refl _) _ _ _⟩

set_option maxRecDepth 100000 in
set_option maxHeartbeats 4000000 in
theorem ref_qsub {w : World} {s t : Bool} {A A' B B' : Option Addr} {n n' c c' m m' d d' N : Nat} {X Y : Rat} (h : Q w s A n c A' n' c' X) (k : Q w t B m d B' m' d' Y) (hX : Sz X N) (hY : Sz Y N) (hN : N ≤ 400) :
    Calls Try.prog 38 #[.agg #[.bool s, .slice A n c, .slice A' n' c'], .agg #[.bool t, .slice B m d, .slice B' m' d']] w (RetQ (X - Y) w) := by
  obtain ⟨V, hW, Ba, Bb, Br, hb0⟩ := boxes2 36 w #[.bool s, .slice A n c, .slice A' n' c'] #[.bool t, .slice B m d, .slice B' m' d'] #[.bool false, .slice none 0 0, .slice none 0 0]
  have NG := fun w1 (hb : Below V.heap.size V w1) => ref_neg (k.below (bb hb0 hb)) hY hN
  have AD := fun w1 (hb : Below V.heap.size V w1) (t1 : Bool) (C C' : Option Addr) (a b a' b' : Nat) (q : Q w1 t1 C a b C' a' b' (-Y)) => ref_qadd (h.below (bb hb0 hb)) q hX hY.neg hN
  rw [← Rat.sub_eq_add_neg] at AD
  have hS : ∀ w', Below V.heap.size V w' → (w'.cell? ⟨w.heap.size, 0, none⟩ = some (.bool s) ∧ w'.cell? ⟨w.heap.size, 1, none⟩ = some (.slice A n c) ∧ w'.cell? ⟨w.heap.size, 2, none⟩ = some (.slice A' n' c')) ∧ (w'.cell? ⟨w.heap.size + 1, 0, none⟩ = some (.bool t) ∧ w'.cell? ⟨w.heap.size + 1, 1, none⟩ = some (.slice B m d) ∧ w'.cell? ⟨w.heap.size + 1, 2, none⟩ = some (.slice B' m' d')) := fun w' hb => ⟨(Ba.below' hb).three.1, (Bb.below' hb).three.1⟩
  have HNG := Lib.hid NG
  have HAD := Lib.hid AD
  have HS := Lib.hid hS
  have HBa := Lib.hid Ba
  have HBb := Lib.hid Bb
  have HBr := Lib.hid Br
  have HW := Lib.hid hW
  clear NG AD hS Ba Bb Br hW h k hX hY
  go_enter Try.func38, Try.ntmps38
  go_wp2_with fail
  rw [HW.out]
  obtain ⟨⟨k0, k1, k2⟩, j0, j1, j2⟩ := HS.out _ (Below.refl _ V)
  go_region_held3 (fun w' => (w'.cell? ⟨w.heap.size, 0, none⟩ = some (.bool s) ∧ w'.cell? ⟨w.heap.size, 1, none⟩ = some (.slice A n c) ∧ w'.cell? ⟨w.heap.size, 2, none⟩ = some (.slice A' n' c')) ∧ (w'.cell? ⟨w.heap.size + 1, 0, none⟩ = some (.bool t) ∧ w'.cell? ⟨w.heap.size + 1, 1, none⟩ = some (.slice B m d) ∧ w'.cell? ⟨w.heap.size + 1, 2, none⟩ = some (.slice B' m' d'))) (first | exact HS.out _ (Below.refl _ V).drew | exact HS4.out | exact HS.out _ x2 | exact HS.out _ x1 | fail)
    (first
      | (go_at_call 60; (with_reducible refine (HNG.out _ ?hb1).mono ?_); (case hb1 => exact (Below.refl _ V).drew); rintro _ w1 ⟨s1, A1, n1, c1, A2, n2, c2, rfl, q1, b1⟩; have x1 : Below V.heap.size V w1 := Below.undrew b1)
      | (go_at_call 59; (with_reducible refine (HAD.out _ x1 _ _ _ _ _ _ _ q1).mono ?_); rintro _ w2 ⟨s7, A7, n7, c7, A8, n8, c8, rfl, q7, b2⟩; have x2 : Below V.heap.size V w2 := bb x1 b2; have HS4 := Lib.hid (And.intro ((HBa.out.below' x2).put3 (show w.heap.size ≠ w.heap.size + 1 + 1 by omega) (.bool s7) (.slice A7 n7 c7) (.slice A8 n8 c8)).three.1 ((HBb.out.below' x2).put3 (show w.heap.size + 1 ≠ w.heap.size + 1 + 1 by omega) (.bool s7) (.slice A7 n7 c7) (.slice A8 n8 c8)).three.1); have B9 := HBr.out.below' x2; obtain ⟨⟨r0, r1, r2⟩, f0, f1, f2⟩ := B9.three))
  all_goals
    go_wp2_with fail
    refine bodyPost_ret (v := .agg #[.bool s7, .slice A7 n7 c7, .slice A8 n8 c8]) (by simp [results, Try.results38, go_sem, r0, r1, r2]) rfl ?_
    exact ⟨_, _, _, _, _, _, _, rfl, q7.put3 ⟨_, _, _, _, _, _, _, B9⟩, below_put3 (bb hb0 x2) (by omega) (Nat.le_refl _) _ _ _⟩

set_option maxRecDepth 100000 in
set_option maxHeartbeats 4000000 in
theorem ref_cmpQ {w : World} {s t : Bool} {A A' B B' : Option Addr} {n n' c c' m m' d d' N : Nat} {X Y : Rat} (h : Q w s A n c A' n' c' X) (k : Q w t B m d B' m' d' Y) (hX : Sz X N) (hY : Sz Y N) (hN : N ≤ 400) :
    Calls Try.prog 17 #[.agg #[.bool s, .slice A n c, .slice A' n' c'], .agg #[.bool t, .slice B m d, .slice B' m' d']] w (RetI (cmpQ X Y) w) := by
  obtain ⟨V, hW, Ba, Bb, hb0⟩ := boxes1 36 w #[.bool s, .slice A n c, .slice A' n' c'] #[.bool t, .slice B m d, .slice B' m' d']
  have SB := fun w1 (hb : Below V.heap.size V w1) => ref_qsub (h.below (bb hb0 hb)) (k.below (bb hb0 hb)) hX hY hN
  have SG := fun (w1 : World) (t1 : Bool) (C C' : Option Addr) (a b a' b' : Nat) (q : Q w1 t1 C a b C' a' b' (X - Y)) => ref_sign q
  rw [sgnQ_sub] at SG
  generalize X - Y = Z at *
  generalize cmpQ X Y = res at *
  have HSB := Lib.hid SB
  have HSG := Lib.hid SG
  have HW := Lib.hid hW
  clear SB SG Ba Bb hW h k hX hY
  go_enter Try.func17, Try.ntmps17
  go_wp2_with fail
  refine (HSB.out _ (by rw [HW.out]; exact Below.refl _ _)).mono ?_
  rintro _ w1 ⟨s7, A7, n7, c7, A8, n8, c8, rfl, q7, b1⟩
  rw [HW.out] at b1
  go_wp2_with fail
  refine (HSG.out _ _ _ _ _ _ _ _ q7).mono ?_
  rintro _ w2 ⟨rfl, b2⟩
  go_wp2_with fail
  go_ret
  exact ⟨rfl, bb hb0 (bb b1 b2)⟩

end Go.Proofs.Ytmoahgiklgicgaa

namespace Go.Proofs.Ytmoahgiklgicgaa
set_option maxRecDepth 100000
open Go.RowKit
set_option linter.unusedVariables false
set_option linter.unusedSimpArgs false

/-- is a number valid? -/
def rightB (s : Bool) (xs ys : List Int) : Bool := decide (sz xs = xs.length ∧ sz ys = ys.length ∧ val ys ≠ 0 ∧ ¬ (s = true ∧ val xs = 0) ∧ Nat.gcd (val xs) (val ys) = 1)
theorem right_no1 {s : Bool} {xs ys : List Int} (h : ¬ sz xs = xs.length) : rightB s xs ys = false := decide_eq_false fun e => h e.1
theorem right_no2 {s : Bool} {xs ys : List Int} (h : ¬ sz ys = ys.length) : rightB s xs ys = false := decide_eq_false fun e => h e.2.1
theorem right_no3 {s : Bool} {xs ys : List Int} (h : val ys = 0) : rightB s xs ys = false := decide_eq_false fun e => e.2.2.1 h
theorem right_no4 {s : Bool} {xs ys : List Int} (h : s = true ∧ val xs = 0) : rightB s xs ys = false := decide_eq_false fun e => e.2.2.2.1 h
theorem right_yes {s : Bool} {xs ys : List Int} (h1 : sz xs = xs.length) (h2 : sz ys = ys.length) (h3 : val ys ≠ 0) (h4 : ¬ (s = true ∧ val xs = 0)) : rightB s xs ys = decide (Nat.gcd (val xs) (val ys) = 1) := by
  unfold rightB
  rw [Bool.eq_iff_iff]
  simp only [decide_eq_true_eq]
  exact ⟨fun e => e.2.2.2.2, fun e => ⟨h1, h2, h3, h4, e⟩⟩
/-- a valid number is a number of Lean's own -/
theorem right_Q {w : World} {s : Bool} {A A' : Option Addr} {n n' c c' N : Nat} {xs ys : List Int} (h : Sl w A n c xs) (h' : Sl w A' n' c' ys) (hn : n ≤ N) (hn' : n' ≤ N) (hr : rightB s xs ys = true) :
    ∃ X, Q w s A n c A' n' c' X ∧ Sz X N ∧ X = rq s (val xs) (val ys) := by
  unfold rightB at hr
  rw [decide_eq_true_eq] at hr
  obtain ⟨h1, h2, h3, h4, h5⟩ := hr
  obtain ⟨r1, r2, r3⟩ := rq_cop' (s := s) h3 h5
  have t1 : words (val xs) = xs := by rw [words_val (Dg_U h.us)]; unfold trim; rw [h1, List.take_length]
  have t2 : words (val ys) = ys := by rw [words_val (Dg_U h'.us)]; unfold trim; rw [h2, List.take_length]
  refine ⟨rq s (val xs) (val ys), ⟨?_, ?_, ?_⟩, ⟨?_, ?_⟩, rfl⟩
  · rw [r3]
    cases s
    · rfl
    · have : val xs ≠ 0 := fun e => h4 ⟨rfl, e⟩
      simp [this]
  · rw [r1, t1]; exact h
  · rw [r2, t2]; exact h'
  · rw [r1]; exact val_lt_pow h.us (by have := h.len; omega)
  · rw [r2]; exact val_lt_pow h'.us (by have := h'.len; omega)
/-- .. and back -/
theorem Q_right {w : World} {s : Bool} {A A' : Option Addr} {n n' c c' : Nat} {X : Rat} (h : Q w s A n c A' n' c' X) : rightB s (words X.num.natAbs) (words X.den) = true := by
  unfold rightB
  rw [decide_eq_true_eq, val_words, val_words]
  have sw : ∀ v, sz (words v) = (words v).length := fun v => by
    have e := words_trim v
    unfold trim at e
    have e2 := congrArg List.length e
    rw [List.length_take] at e2
    have := sz_le (words v)
    omega
  refine ⟨sw _, sw _, den_ne X, ?_, gcd_num_den X⟩
  rintro ⟨e1, e2⟩
  have := h.1
  rw [e1, neg_zero_ X e2] at this
  cases this

/-- the world behind a result's box and two words -/
theorem lits2 (w : World) (us : Array Value) (x y : Int) (hx : U x) (hy : U y) : ∃ V, ((w.alloc (.cells us 36)).alloc (.cells #[.int .u64 x] 22)).alloc (.cells #[.int .u64 y] 22) = V ∧ Box 36 V w.heap.size us ∧ Sl V (some ⟨w.heap.size + 1, 0, none⟩) 1 1 [x] ∧ Sl V (some ⟨w.heap.size + 1 + 1, 0, none⟩) 1 1 [y] ∧ Below w.heap.size w V := by
  refine ⟨_, rfl, ((Box.new w _ us).alloc _).alloc _, ?_, ?_, ((below_alloc _ _).alloc (by simp) _).alloc (by simp; omega) _⟩
  · have := (sl_lit (w.alloc (.cells us 36)) x hx).below (below_alloc _ (.cells #[.int .u64 y] 22))
    rw [show (w.alloc (.cells us 36)).heap.size = w.heap.size + 1 from by simp] at this
    exact this
  · have := sl_lit ((w.alloc (.cells us 36)).alloc (.cells #[.int .u64 x] 22)) y hy
    rw [show ((w.alloc (.cells us 36)).alloc (.cells #[.int .u64 x] 22)).heap.size = w.heap.size + 1 + 1 from by simp] at this
    exact this

end Go.Proofs.Ytmoahgiklgicgaa

namespace Go.Proofs.Ytmoahgiklgicgaa
set_option maxRecDepth 100000
open Go.RowKit
set_option linter.unusedVariables false
set_option linter.unusedSimpArgs false

theorem box0 (t : TypeId) (w : World) (vs : Array Value) : ∃ V, w.alloc (.cells vs t) = V ∧ Box t V w.heap.size vs ∧ Below w.heap.size w V := ⟨_, rfl, Box.new w t vs, below_alloc _ _⟩
theorem ref_cmpE {w : World} {s t : Bool} {A A' B B' : Option Addr} {n n' c c' m m' d d' N : Nat} {X Y : Rat} (h : Q w s A n c A' n' c' X) (k : Q w t B m d B' m' d' Y) (hX : Sz X N) (hY : Sz Y N) (hN : N ≤ 400) (r : Int) (e : cmpQ X Y = r) : Calls Try.prog 17 #[.agg #[.bool s, .slice A n c, .slice A' n' c'], .agg #[.bool t, .slice B m d, .slice B' m' d']] w (RetI r w) := by
  rw [← e]; exact ref_cmpQ h k hX hY hN
theorem ref_signE {w : World} {s : Bool} {A A' : Option Addr} {n n' c c' N : Nat} {X : Rat} (h : Q w s A n c A' n' c' X) (hX : Sz X N) (r : Int) (e : sgnQ X = r) : Calls Try.prog 37 #[.agg #[.bool s, .slice A n c, .slice A' n' c']] w (RetI r w) := by
  rw [← e]; exact ref_sign h
theorem sl_word {w : World} {A : Option Addr} {n c v : Nat} (h : Sl w A n c (words v)) (h0 : 0 < v) (h1 : v < W) : n = 1 ∧ ∃ p o, A = some ⟨p, o, none⟩ ∧ p < w.heap.size ∧ w.cell? ⟨p, o, none⟩ = some (.int .u64 (v : Int)) := by
  rw [words_small v h0 h1] at h
  have hl : n = 1 := h.len
  subst hl
  obtain ⟨b, off, e, hb, hc⟩ := h.at_ (k := 0) (by omega)
  exact ⟨rfl, b, off, e, hb, hc 0 (by omega)⟩
theorem sz_of (z : Int) (h1 : -9223372036854775808 ≤ z) (h2 : z ≤ 9223372036854775807) : Sz (z : Rat) 1 := by
  refine ⟨?_, ?_⟩
  · rw [Nat.pow_one, Rat.num_intCast]; unfold W; omega
  · rw [Nat.pow_one, Rat.den_intCast]; unfold W; omega
theorem lits (w : World) (x y : Int) (hx : U x) (hy : U y) : ∃ V, (w.alloc (.cells #[.int .u64 x] 22)).alloc (.cells #[.int .u64 y] 22) = V ∧ Sl V (some ⟨w.heap.size, 0, none⟩) 1 1 [x] ∧ Sl V (some ⟨w.heap.size + 1, 0, none⟩) 1 1 [y] ∧ Below w.heap.size w V := by
  refine ⟨_, rfl, ?_, ?_, ((below_alloc _ _).alloc (by simp) _)⟩
  · exact (sl_lit w x hx).below (below_alloc _ (.cells #[.int .u64 y] 22))
  · have := sl_lit (w.alloc (.cells #[.int .u64 x] 22)) y hy
    rw [show (w.alloc (.cells #[.int .u64 x] 22)).heap.size = w.heap.size + 1 from by simp] at this
    exact this

theorem right07_Q {w : World} {s : Bool} {A A' : Option Addr} {n n' c c' : Nat} {xs ys : List Int} (h : Sl w A n c xs) (h' : Sl w A' n' c' ys) (hr : (decide (n ≤ 6 ∧ n' ≤ 6) && rightB s xs ys) = true) :
    ∃ X, Q w s A n c A' n' c' X ∧ Sz X 6 := by
  rw [Bool.and_eq_true, decide_eq_true_eq] at hr
  obtain ⟨X, h1, h2, _⟩ := right_Q h h' hr.1.1 hr.1.2 hr.2
  exact ⟨X, h1, h2⟩

end Go.Proofs.Ytmoahgiklgicgaa
