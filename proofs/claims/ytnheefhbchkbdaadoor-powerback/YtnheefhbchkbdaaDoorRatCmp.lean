/-
  What slices.Equal, cmp.Compare, rat.Same and rat.Cmp do (gradineref07.Words and Same beside them), told by Lean's own Rat. Conditions: the numbers of at most N words, N at most 1000.
-/
import Derived.IntWalk
import Derived.Test.YtnheefhbchkbdaaDoorRatAdd
namespace Go.Proofs.YtnheefhbchkbdaaDoor
set_option maxRecDepth 100000
open Go.RowKit
set_option linter.unusedVariables false
set_option linter.unusedSimpArgs false

set_option maxHeartbeats 400000 in
theorem sl_equal {w : World} {A A' : Option Addr} {n n' c c' : Nat} {xs ys : List Int} (h : Sl w A n c xs) (h' : Sl w A' n' c' ys) (hn : n ≤ 1000000000) (hn' : n' ≤ 1000000000) :
    Calls Tryd.prog 24 #[.slice A n c, .slice A' n' c'] w (RetBl (decide (xs = ys)) w) := by
  by_cases hl : n = n'
  · subst hl
    go_enter Tryd.func24, Tryd.ntmps24
    go_wp2
    go_loopw [13] (fun i wr => ∃ k m : Nat, k ≤ n ∧ i = .int .i64 k ∧ SameTo xs ys k ∧ wr = w.drewN m) (fun i _ => n - mes i)
    case atStart => exact ⟨0, 0, by omega, rfl, fun j hj => by omega, rfl⟩
    case round =>
      obtain ⟨k, m, hk, rfl, hz, rfl⟩ := hrel
      by_cases hk2 : k < n
      · obtain ⟨b, off, rfl, hb, hc⟩ := h.at_ hk2
        obtain ⟨b', off', rfl, hb', hc'⟩ := h'.at_ hk2
        have g1 := hc k hk2
        have g2 := hc' k hk2
        obtain ⟨x, hx⟩ : ∃ x, xs.getD k 0 = x := ⟨_, rfl⟩
        obtain ⟨y, hy⟩ : ∃ y, ys.getD k 0 = y := ⟨_, rfl⟩
        rw [hx] at g1
        rw [hy] at g2
        have HX := Lib.hid hx
        have HY := Lib.hid hy
        clear hc hc' hx hy
        by_cases hxy : x = y
        · subst hxy
          go_wp2
          go_region
          all_goals try go_wp2
          go_roundw
          case rel => exact ⟨k + 1, m + 1, by omega, by go_num, hz.step (by rw [HX.out, HY.out]), rfl⟩
          case measure => simp [mes, intOf]; omega
        · have hne : (x != y) = true := by simpa using hxy
          go_wp2
          go_region
          all_goals try go_wp2
          go_ret
          refine ⟨retB ?_, below_drewN w (m + 1)⟩
          symm
          rw [decide_eq_false_iff_not]
          rintro rfl
          exact hxy (by rw [← HX.out, ← HY.out])
      · go_wp2
        go_ret
        refine ⟨retB ?_, below_drewN w m⟩
        symm
        rw [decide_eq_true_eq]
        have hkn : k = xs.length := by have := h.len; omega
        rw [hkn] at hz
        exact hz.all (by rw [← h.len, ← h'.len])
  · have hne : decide (n = n') = false := by simpa using hl
    have hne2 : ((n : Int) != (n' : Int)) = true := by simp; omega
    go_enter Tryd.func24, Tryd.ntmps24
    go_wp2
    go_ret
    refine ⟨retB ?_, Below.refl _ _⟩
    symm
    rw [decide_eq_false_iff_not]
    rintro rfl
    exact hl (by rw [h.len, h'.len])

set_option maxRecDepth 100000 in
set_option maxHeartbeats 4000000 in
theorem rat_same {w : World} {s t : Bool} {A A' B B' : Option Addr} {n n' c c' m m' d d' : Nat} {xs ys us vs : List Int} (h : Sl w A n c xs) (h' : Sl w A' n' c' ys) (k : Sl w B m d us) (k' : Sl w B' m' d' vs) (hn : n ≤ 1000000) (hn' : n' ≤ 1000000) (hm : m ≤ 1000000) (hm' : m' ≤ 1000000) :
    Calls Tryd.prog 9 #[.agg #[.bool s, .slice A n c, .slice A' n' c'], .agg #[.bool t, .slice B m d, .slice B' m' d']] w (RetBl (decide (s = t ∧ xs = us ∧ ys = vs)) w) := by
  obtain ⟨V, hW, Ba, Bb, hb0⟩ := boxes1 24 w #[.bool s, .slice A n c, .slice A' n' c'] #[.bool t, .slice B m d, .slice B' m' d']
  have E1 := fun w1 (hb : Below V.heap.size V w1) => sl_equal (h.below (bb hb0 hb)) (k.below (bb hb0 hb)) (by omega) (by omega)
  have E2 := fun w1 (hb : Below V.heap.size V w1) => sl_equal (h'.below (bb hb0 hb)) (k'.below (bb hb0 hb)) (by omega) (by omega)
  have hS : ∀ w', Below V.heap.size V w' → (w'.cell? ⟨w.heap.size, 0, none⟩ = some (.bool s) ∧ w'.cell? ⟨w.heap.size, 1, none⟩ = some (.slice A n c) ∧ w'.cell? ⟨w.heap.size, 2, none⟩ = some (.slice A' n' c')) ∧ (w'.cell? ⟨w.heap.size + 1, 0, none⟩ = some (.bool t) ∧ w'.cell? ⟨w.heap.size + 1, 1, none⟩ = some (.slice B m d) ∧ w'.cell? ⟨w.heap.size + 1, 2, none⟩ = some (.slice B' m' d')) := fun w' hb => ⟨(Ba.below' hb).three.1, (Bb.below' hb).three.1⟩
  have HS := Lib.hid hS
  have HW := Lib.hid hW
  clear hS Ba Bb hW h k h' k'
  by_cases hst : s = t
  · subst hst
    by_cases h1 : xs = us
    · rw [decide_eq_true h1] at E1
      obtain ⟨b2, hb2⟩ : ∃ b, decide (s = s ∧ xs = us ∧ ys = vs) = b := ⟨_, rfl⟩
      have e2 : decide (ys = vs) = b2 := by rw [← hb2]; simp [h1]
      rw [hb2]
      rw [e2] at E2
      have HE1 := Lib.hid E1
      have HE2 := Lib.hid E2
      clear E1 E2 hb2 e2 h1
      go_enter Tryd.func9, Tryd.ntmps9
      go_wp2_with fail
      refine (HE1.out _ (by rw [HW.out]; exact Below.refl _ _)).mono ?_
      rintro _ w1 ⟨rfl, b1⟩
      rw [HW.out] at b1
      clear HW
      obtain ⟨⟨k0, k1, k2⟩, j0, j1, j2⟩ := HS.out _ b1
      go_wp2_with fail
      refine (HE2.out _ b1).mono ?_
      rintro _ w2 ⟨rfl, b2⟩
      go_wp2_with fail
      go_ret
      exact ⟨rfl, bb hb0 (bb b1 b2)⟩
    · rw [decide_eq_false h1] at E1
      rw [decide_eq_false (fun e => h1 e.2.1)]
      have HE1 := Lib.hid E1
      clear E1 E2 h1
      go_enter Tryd.func9, Tryd.ntmps9
      go_wp2_with fail
      refine (HE1.out _ (by rw [HW.out]; exact Below.refl _ _)).mono ?_
      rintro _ w1 ⟨rfl, b1⟩
      rw [HW.out] at b1
      clear HW
      go_wp2_with fail
      go_ret
      exact ⟨rfl, bb hb0 b1⟩
  · rw [decide_eq_false (fun e => hst e.1)]
    have hne : (s == t) = false := by simpa using hst
    clear E1 E2 hst
    go_enter Tryd.func9, Tryd.ntmps9
    go_wp2_with fail
    rw [HW.out]
    go_ret
    exact ⟨rfl, hb0⟩

/-- -1, 0 or 1 -/
def cmpI (a b : Int) : Int := if a < b then -1 else if b < a then 1 else 0
set_option maxHeartbeats 400000 in
theorem cmp_isNaN (a : Int) (w : World) : Calls Tryd.prog 59 #[.int .i64 a] w fun e w' => e = .returned (.bool false) ∧ w = w' := by
  go_enter Tryd.func59, Tryd.ntmps59
  go_wp2
  go_ret
  simp
set_option maxHeartbeats 400000 in
theorem cmp_compare (a b : Int) (w : World) : Calls Tryd.prog 37 #[.int .i64 a, .int .i64 b] w fun e w' => e = .returned (.int .i64 (cmpI a b)) ∧ w = w' := by
  rcases Int.lt_trichotomy a b with h | h | h
  · have e : cmpI a b = -1 := by unfold cmpI; rw [if_pos h]
    rw [e]
    clear e
    go_enter Tryd.func37, Tryd.ntmps37
    go_wp2_with (refine (cmp_isNaN _ _).mono ?_; rintro e w' ⟨rfl, rfl⟩)
    go_ret
    exact ⟨rfl, rfl⟩
  · subst h
    have e : cmpI a a = 0 := by unfold cmpI; simp
    rw [e]
    clear e
    go_enter Tryd.func37, Tryd.ntmps37
    go_wp2_with (refine (cmp_isNaN _ _).mono ?_; rintro e w' ⟨rfl, rfl⟩)
    go_ret
    exact ⟨rfl, rfl⟩
  · have e : cmpI a b = 1 := by unfold cmpI; rw [if_neg (by omega), if_pos h]
    have h2 : ¬ a < b := by omega
    rw [e]
    clear e
    go_enter Tryd.func37, Tryd.ntmps37
    go_wp2_with (refine (cmp_isNaN _ _).mono ?_; rintro e w' ⟨rfl, rfl⟩)
    go_ret
    exact ⟨rfl, rfl⟩

set_option maxRecDepth 100000 in
set_option maxHeartbeats 4000000 in
theorem rat_cmp {w : World} {s t : Bool} {A A' B B' : Option Addr} {n n' c c' m m' d d' N : Nat} {X Y : Rat} (h : Q w s A n c A' n' c' X) (k : Q w t B m d B' m' d' Y) (hX : Sz X N) (hY : Sz Y N) (hN : N ≤ 1000) :
    Calls Tryd.prog 14 #[.agg #[.bool s, .slice A n c, .slice A' n' c'], .agg #[.bool t, .slice B m d, .slice B' m' d']] w (RetI (cmpQ X Y) w) := by
  obtain ⟨V, hW, Ba, Bb, hb0⟩ := boxes1 24 w #[.bool s, .slice A n c, .slice A' n' c'] #[.bool t, .slice B m d, .slice B' m' d']
  have l1 : n ≤ N := h.2.1.small hX.1
  have l2 : n' ≤ N := h.2.2.small hX.2
  have l3 : m ≤ N := k.2.1.small hY.1
  have l4 : m' ≤ N := k.2.2.small hY.2
  have SA := fun w1 (hb : Below V.heap.size V w1) => rat_sign (h.below (bb hb0 hb)) (by omega)
  have SB := fun w1 (hb : Below V.heap.size V w1) => rat_sign (k.below (bb hb0 hb)) (by omega)
  have M1 := fun w1 (hb : Below V.heap.size V w1) => prod_mul (h.2.1.below (bb hb0 hb)) (k.2.2.below (bb hb0 hb)) (by omega)
  have M2 := fun w1 (hb : Below V.heap.size V w1) => prod_mul (k.2.1.below (bb hb0 hb)) (h.2.2.below (bb hb0 hb)) (by omega)
  simp only [val_words] at M1 M2
  have z1 := mul_lt_powW hX.1 hY.2
  have z2 := mul_lt_powW hY.1 hX.2
  have hS : ∀ w', Below V.heap.size V w' → (w'.cell? ⟨w.heap.size, 0, none⟩ = some (.bool s) ∧ w'.cell? ⟨w.heap.size, 1, none⟩ = some (.slice A n c) ∧ w'.cell? ⟨w.heap.size, 2, none⟩ = some (.slice A' n' c')) ∧ (w'.cell? ⟨w.heap.size + 1, 0, none⟩ = some (.bool t) ∧ w'.cell? ⟨w.heap.size + 1, 1, none⟩ = some (.slice B m d) ∧ w'.cell? ⟨w.heap.size + 1, 2, none⟩ = some (.slice B' m' d')) := fun w' hb => ⟨(Ba.below' hb).three.1, (Bb.below' hb).three.1⟩
  have HS := Lib.hid hS
  have HW := Lib.hid hW
  have g1 := sgnQ_range X
  have g2 := sgnQ_range Y
  have HSA := Lib.hid SA
  have HSB := Lib.hid SB
  by_cases hs : sgnQ X = sgnQ Y
  · have hc := cmpQ_same X Y hs
    generalize X.num.natAbs * Y.den = p at *
    generalize Y.num.natAbs * X.den = q at *
    have CM := fun (w1 : World) (C C' : Option Addr) (a b a' b' : Nat) (x : Sl w1 C a b (words p)) (y : Sl w1 C' a' b' (words q)) => nat_cmp x y (by have := x.small z1; omega) (by have := y.small z2; omega)
    simp only [val_words] at CM
    have g3 := cmpN_range p q
    rw [← hs] at HSB
    have hwr : IntKind.i64.wrap (sgnQ X * cmpN p q) = cmpQ X Y := by
      rw [hc]
      have := cmpQ_range X Y
      exact IntWalk.i64_in _ (by omega)
    generalize sgnQ X = sg at *
    generalize cmpN p q = cm at *
    generalize cmpQ X Y = res at *
    have HM1 := Lib.hid M1
    have HM2 := Lib.hid M2
    have HCM := Lib.hid CM
    clear hS Ba Bb hW h k hX hY SA SB M1 M2 CM hc z1 z2 hs
    go_enter Tryd.func14, Tryd.ntmps14
    go_wp2_with fail
    refine (HSA.out _ (by rw [HW.out]; exact Below.refl _ _)).mono ?_
    rintro _ w1 ⟨rfl, b1⟩
    rw [HW.out] at b1
    clear HW
    obtain ⟨⟨k0, k1, k2⟩, j0, j1, j2⟩ := HS.out _ b1
    go_wp2_with fail
    refine (HSB.out _ b1).mono ?_
    rintro _ w2 ⟨rfl, b2⟩
    have x2 := bb b1 b2
    clear k0 k1 k2 j0 j1 j2
    obtain ⟨⟨k0, k1, k2⟩, j0, j1, j2⟩ := HS.out _ x2
    go_wp2_with fail
    go_region_held3 (fun w' => (w'.cell? ⟨w.heap.size, 0, none⟩ = some (.bool s) ∧ w'.cell? ⟨w.heap.size, 1, none⟩ = some (.slice A n c) ∧ w'.cell? ⟨w.heap.size, 2, none⟩ = some (.slice A' n' c')) ∧ (w'.cell? ⟨w.heap.size + 1, 0, none⟩ = some (.bool t) ∧ w'.cell? ⟨w.heap.size + 1, 1, none⟩ = some (.slice B m d) ∧ w'.cell? ⟨w.heap.size + 1, 2, none⟩ = some (.slice B' m' d'))) (first | exact HS.out _ x2.drew | exact HS.out _ x4 | exact HS.out _ x3 | fail)
      (first
        | (go_at_call 27; (with_reducible refine (HM1.out _ ?hb1).mono ?_); (case hb1 => exact x2.drew); rintro _ w3 ⟨A5, n5, c5, rfl, t5, b3⟩; have x3 : Below V.heap.size V w3 := bb x2 (Below.undrew b3))
        | (go_at_call 27; (with_reducible refine (HM2.out _ ?hb2).mono ?_); (case hb2 => exact x3); rintro _ w4 ⟨A6, n6, c6, rfl, t6, b4⟩; have x4 : Below V.heap.size V w4 := bb x3 b4)
        | (go_at_call 33; (with_reducible refine (HCM.out _ _ _ _ _ _ _ (t5.below b4) t6).mono ?_); rintro _ _ ⟨rfl, rfl⟩))
    all_goals
      go_wp2_with fail
      go_ret
      exact ⟨rfl, bb hb0 x4⟩
  · have hne : (sgnQ X != sgnQ Y) = true := by simpa using hs
    have hc : cmpI (sgnQ X) (sgnQ Y) = cmpQ X Y := by
      unfold cmpI
      by_cases hl : sgnQ X < sgnQ Y
      · rw [if_pos hl, cmpQ_less hl]
      · rw [if_neg hl, if_pos (by omega), cmpQ_more (by omega)]
    have CC := fun w1 => cmp_compare (sgnQ X) (sgnQ Y) w1
    rw [hc] at CC
    generalize sgnQ X = sg at *
    generalize sgnQ Y = sh at *
    generalize cmpQ X Y = res at *
    have HCC := Lib.hid CC
    clear hS Ba Bb hW h k hX hY SA SB M1 M2 hc z1 z2 hs CC
    go_enter Tryd.func14, Tryd.ntmps14
    go_wp2_with fail
    refine (HSA.out _ (by rw [HW.out]; exact Below.refl _ _)).mono ?_
    rintro _ w1 ⟨rfl, b1⟩
    rw [HW.out] at b1
    clear HW
    obtain ⟨⟨k0, k1, k2⟩, j0, j1, j2⟩ := HS.out _ b1
    go_wp2_with fail
    refine (HSB.out _ b1).mono ?_
    rintro _ w2 ⟨rfl, b2⟩
    have x2 := bb b1 b2
    clear k0 k1 k2 j0 j1 j2
    obtain ⟨⟨k0, k1, k2⟩, j0, j1, j2⟩ := HS.out _ x2
    go_wp2_with fail
    refine (HSB.out _ x2).mono ?_
    rintro _ w3 ⟨rfl, b3⟩
    have x3 := bb x2 b3
    go_wp2_with fail
    refine (HCC.out _).mono ?_
    rintro _ _ ⟨rfl, rfl⟩
    go_wp2_with fail
    go_ret
    exact ⟨rfl, bb hb0 x3⟩

theorem same_Q {w : World} {s t : Bool} {A A' B B' : Option Addr} {n n' c c' m m' d d' : Nat} {X Y : Rat} (h : Q w s A n c A' n' c' X) (k : Q w t B m d B' m' d' Y) :
    decide (s = t ∧ words X.num.natAbs = words Y.num.natAbs ∧ words X.den = words Y.den) = decide (X = Y) := by
  rw [Bool.eq_iff_iff]
  simp only [decide_eq_true_eq]
  constructor
  · rintro ⟨e1, e2, e3⟩
    exact rat_ext (by rw [← h.1, ← k.1, e1]) (words_inj e2) (words_inj e3)
  · rintro rfl
    exact ⟨by rw [h.1, k.1], rfl, rfl⟩
/-- both numbers are the same: rat.Same and the document's -/
theorem rat_sameQ {w : World} {s t : Bool} {A A' B B' : Option Addr} {n n' c c' m m' d d' N : Nat} {X Y : Rat} (h : Q w s A n c A' n' c' X) (k : Q w t B m d B' m' d' Y) (hX : Sz X N) (hY : Sz Y N) (hN : N ≤ 1000) : Calls Tryd.prog 9 #[.agg #[.bool s, .slice A n c, .slice A' n' c'], .agg #[.bool t, .slice B m d, .slice B' m' d']] w (RetBl (decide (X = Y)) w) := by
  have := rat_same (s := s) (t := t) h.2.1 h.2.2 k.2.1 k.2.2 (by have := h.2.1.small hX.1; omega) (by have := h.2.2.small hX.2; omega) (by have := k.2.1.small hY.1; omega) (by have := k.2.2.small hY.2; omega)
  rw [same_Q h k] at this
  exact this
end Go.Proofs.YtnheefhbchkbdaaDoor
