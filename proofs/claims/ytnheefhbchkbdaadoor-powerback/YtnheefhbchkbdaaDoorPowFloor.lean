/-
  What power.Floor does, told by Lean's own Rat. Conditions: the numbers of at most N words, N at most 100.
-/
import Derived.Test.YtnheefhbchkbdaaDoorPowRun
namespace Go.Proofs.YtnheefhbchkbdaaDoor
set_option maxRecDepth 100000
open Go.RowKit
set_option linter.unusedVariables false
set_option linter.unusedSimpArgs false

set_option maxRecDepth 100000 in
set_option maxHeartbeats 4000000 in
theorem pw_floor {w : World} {s : Bool} {A A' : Option Addr} {n n' c c' N : Nat} {X : Rat} (h : Q w s A n c A' n' c' X) (hX : Sz X N) (hN : N ≤ 100) :
    Calls Tryd.prog 13 #[.agg #[.bool s, .slice A n c, .slice A' n' c']] w (RetQ (flr X) w) := by
  obtain ⟨V, hW, Ba, Br, hb0⟩ := boxes1 24 w #[.bool s, .slice A n c, .slice A' n' c'] #[.bool false, .slice none 0 0, .slice none 0 0]
  have l1 : n ≤ N := h.2.1.small hX.1
  have l2 : n' ≤ N := h.2.2.small hX.2
  have hp : 0 < X.den := Nat.pos_of_ne_zero (den_ne X)
  have DV := fun w1 (hb : Below V.heap.size V w1) => quot_div (h.2.1.below (bb hb0 hb)) (h.2.2.below (bb hb0 hb)) (by omega) (by omega) (by rw [val_words]; exact hp)
  simp only [val_words] at DV
  have hfl := flr_rq X
  have hn := h.1
  have hfn : flN X = X.num.natAbs / X.den + if neg_ X && decide (X.num.natAbs % X.den ≠ 0) then 1 else 0 := rfl
  rw [← hn] at hfl hfn
  have hne : s = true → flN X ≠ 0 := by
    intro e
    have hpz : X.num.natAbs ≠ 0 := by
      intro e2
      have := neg_zero_ X e2
      rw [← hn, e] at this; cases this
    rw [hfn, e]
    by_cases h0 : X.num.natAbs % X.den = 0
    · have := Nat.div_add_mod X.num.natAbs X.den
      have h3 : X.num.natAbs / X.den ≠ 0 := by intro e3; rw [e3, h0] at this; simp at this; omega
      exact fun e4 => h3 (Nat.eq_zero_of_add_eq_zero_right e4)
    · simp [h0]
  obtain ⟨c1, c2, c3⟩ := rq_cop' (s := s) (p := flN X) (q := 1) (by omega) (Nat.gcd_one_right _)
  have vq : X.num.natAbs / X.den < W ^ N := Nat.lt_of_le_of_lt (Nat.div_le_self _ _) hX.1
  have O1 := fun w1 => nat_of 1 U_1 w1
  rw [show (1 : Int).toNat = 1 from rfl] at O1
  have AD := fun (w1 : World) (C C' : Option Addr) (a b a' b' : Nat) (x : Sl w1 C a b (words (X.num.natAbs / X.den))) (y : Sl w1 C' a' b' (words 1)) => nat_add x y (by have := x.small vq; omega) (by have := y.small (k := 1) (by rw [Nat.pow_one]; unfold W; omega); omega)
  simp only [val_words] at AD
  have hq : ∀ (w1 : World) (C C' : Option Addr) (a b a' b' : Nat), Sl w1 C a b (words (flN X)) → Sl w1 C' a' b' (words 1) → Q w1 s C a b C' a' b' (flr X) := fun w1 C C' a b a' b' x y => ⟨by
      rw [← hfl, c3]
      cases hs : s
      · rfl
      · rw [Bool.true_and, decide_eq_true (hne hs)], by rw [← hfl, c1]; exact x, by rw [← hfl, c2]; exact y⟩
  have hS : ∀ w', Below V.heap.size V w' → w'.cell? ⟨w.heap.size, 0, none⟩ = some (.bool s) ∧ w'.cell? ⟨w.heap.size, 1, none⟩ = some (.slice A n c) ∧ w'.cell? ⟨w.heap.size, 2, none⟩ = some (.slice A' n' c') := fun w' hb => (Ba.below' hb).three.1
  clear c1 c2 c3 hfl hn
  generalize flr X = Y at *
  generalize flN X = F at *
  generalize hd : X.num.natAbs / X.den = dv at *
  generalize hm : X.num.natAbs % X.den = md at *
  have HDV := Lib.hid DV
  have HO1 := Lib.hid O1
  have HAD := Lib.hid AD
  have HQ := Lib.hid hq
  have HS := Lib.hid hS
  have HBa := Lib.hid Ba
  have HBr := Lib.hid Br
  have HW := Lib.hid hW
  have HNE := Lib.hid hne
  clear DV O1 AD hq hS Ba Br hW h hX hp vq hd hm hne
  cases s
  · rw [Bool.false_and, if_neg (by simp), Nat.add_zero] at hfn
    subst hfn
    go_enter Tryd.func13, Tryd.ntmps13
    go_wp2_with fail
    refine (HDV.out _ (by rw [HW.out]; exact Below.refl _ _)).mono ?_
    rintro _ w1 ⟨A1, n1, c1, A2, n2, c2, rfl, t1, t2, b1⟩
    rw [HW.out] at b1
    clear HW
    obtain ⟨k0, k1, k2⟩ := HS.out _ b1
    go_wp2_with fail
    refine (HO1.out _).mono ?_
    rintro _ w9 ⟨A9, n9, c9, rfl, t9, b9⟩
    have x9 := bb b1 b9
    have q7 := HQ.out _ _ _ _ _ _ _ (t1.below b9) t9
    have B9 := HBr.out.below' x9
    obtain ⟨⟨r0, r1, r2⟩, f0, f1, f2⟩ := B9.three
    go_wp2_with fail
    refine bodyPost_ret (v := .agg #[.bool false, .slice A1 n1 c1, .slice A9 n9 c9]) (by simp [results, Tryd.results13, go_sem, r0, r1, r2]) rfl ?_
    exact ⟨_, _, _, _, _, _, _, rfl, q7.put3 ⟨_, _, _, _, _, _, _, B9⟩, below_put3 (bb hb0 x9) (by omega) (Nat.le_refl _) _ _ _⟩
  · by_cases h0 : md = 0
    · subst h0
      rw [decide_eq_false (by simp), Bool.and_false, if_neg (by simp), Nat.add_zero] at hfn
      subst hfn
      go_enter Tryd.func13, Tryd.ntmps13
      go_wp2_with fail
      refine (HDV.out _ (by rw [HW.out]; exact Below.refl _ _)).mono ?_
      rintro _ w1 ⟨A1, n1, c1, A2, n2, c2, rfl, t1, t2, b1⟩
      rw [HW.out] at b1
      clear HW
      obtain ⟨k0, k1, k2⟩ := HS.out _ b1
      have e2 := t2.len
      rw [words_zero] at e2
      obtain rfl : n2 = 0 := e2
      have e1 : ¬ n1 = 0 := fun e => HNE.out (by trivial) ((words_nil_iff' t1.len).1 e)
      have e3 : 0 < n1 := by omega
      have e4 : (0 : Int) < (n1 : Int) := by omega
      go_wp2_with fail
      refine (HO1.out _).mono ?_
      rintro _ w9 ⟨A9, n9, c9, rfl, t9, b9⟩
      have x9 := bb b1 b9
      have q7 := HQ.out _ _ _ _ _ _ _ (t1.below b9) t9
      have B9 := HBr.out.below' x9
      obtain ⟨⟨r0, r1, r2⟩, f0, f1, f2⟩ := B9.three
      go_wp2_with fail
      refine bodyPost_ret (v := .agg #[.bool true, .slice A1 n1 c1, .slice A9 n9 c9]) (by simp [results, Tryd.results13, go_sem, r0, r1, r2]) rfl ?_
      exact ⟨_, _, _, _, _, _, _, rfl, q7.put3 ⟨_, _, _, _, _, _, _, B9⟩, below_put3 (bb hb0 x9) (by omega) (Nat.le_refl _) _ _ _⟩
    · rw [decide_eq_true h0, Bool.and_true, if_pos rfl] at hfn
      go_enter Tryd.func13, Tryd.ntmps13
      go_wp2_with fail
      refine (HDV.out _ (by rw [HW.out]; exact Below.refl _ _)).mono ?_
      rintro _ w1 ⟨A1, n1, c1, A2, n2, c2, rfl, t1, t2, b1⟩
      rw [HW.out] at b1
      clear HW
      obtain ⟨k0, k1, k2⟩ := HS.out _ b1
      have e2 : ¬ n2 = 0 := fun e => h0 ((words_nil_iff' t2.len).1 e)
      have e3 : 0 < n2 := by omega
      have e4 : (0 : Int) < (n2 : Int) := by omega
      go_wp2_with fail
      refine (HO1.out _).mono ?_
      rintro _ w2 ⟨A3, n3, c3, rfl, t3, b2⟩
      go_wp2_with fail
      refine (HAD.out _ _ _ _ _ _ _ (t1.below b2) t3).mono ?_
      rintro _ w3 ⟨A4, n4, c4, rfl, t4, b3⟩
      rw [← hfn] at t4
      have x3 := bb b1 (bb b2 b3)
      have e5 : ¬ n4 = 0 := fun e => HNE.out (by trivial) ((words_nil_iff' t4.len).1 e)
      have e6 : 0 < n4 := by omega
      have e7 : (0 : Int) < (n4 : Int) := by omega
      clear k0 k1 k2
      obtain ⟨k0, k1, k2⟩ := HS.out _ x3
      go_wp2_with fail
      refine (HO1.out _).mono ?_
      rintro _ w9 ⟨A9, n9, c9, rfl, t9, b9⟩
      have x9 := bb x3 b9
      have q7 := HQ.out _ _ _ _ _ _ _ (t4.below b9) t9
      have B9 := HBr.out.below' x9
      obtain ⟨⟨r0, r1, r2⟩, f0, f1, f2⟩ := B9.three
      go_wp2_with fail
      refine bodyPost_ret (v := .agg #[.bool true, .slice A4 n4 c4, .slice A9 n9 c9]) (by simp [results, Tryd.results13, go_sem, r0, r1, r2]) rfl ?_
      exact ⟨_, _, _, _, _, _, _, rfl, q7.put3 ⟨_, _, _, _, _, _, _, B9⟩, below_put3 (bb hb0 x9) (by omega) (Nat.le_refl _) _ _ _⟩

end Go.Proofs.YtnheefhbchkbdaaDoor
