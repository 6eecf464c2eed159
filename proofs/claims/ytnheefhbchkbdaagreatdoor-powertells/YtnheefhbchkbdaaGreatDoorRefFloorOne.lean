/-
  What gradineref08.Floor does, told by Lean's own Rat. Conditions: the numbers of at most N words, N at most 100.
-/
import Derived.Test.YtnheefhbchkbdaaGreatDoorPowMathAll
namespace Go.Proofs.YtnheefhbchkbdaaGreatDoor
set_option maxRecDepth 100000
open Go.RowKit
set_option linter.unusedVariables false
set_option linter.unusedSimpArgs false

set_option maxRecDepth 100000 in
set_option maxHeartbeats 4000000 in
theorem ref_floor {w : World} {s : Bool} {A A' : Option Addr} {n n' c c' N : Nat} {X : Rat} (h : Q w s A n c A' n' c' X) (hX : Sz X N) (hN : N ≤ 100) :
    Calls Tryz.prog 15 #[.agg #[.bool s, .slice A n c, .slice A' n' c']] w (RetQ (flr X) w) := by
  obtain ⟨V, hW, Ba, Br, hb0⟩ := boxes1 24 w #[.bool s, .slice A n c, .slice A' n' c'] #[.bool false, .slice none 0 0, .slice none 0 0]
  have l1 : n ≤ N := h.2.1.small hX.1
  have l2 : n' ≤ N := h.2.2.small hX.2
  have hp : 0 < X.den := Nat.pos_of_ne_zero (den_ne X)
  have DV := fun w1 (hb : Below V.heap.size V w1) => ref_div (h.2.1.below (bb hb0 hb)) (h.2.2.below (bb hb0 hb)) (by omega) (by omega) (by rw [val_words]; exact hp)
  simp only [val_words] at DV
  have hfl := flr_rq X
  have hn := h.1
  have hfn : flN X = X.num.natAbs / X.den + if neg_ X && decide (X.num.natAbs % X.den ≠ 0) then 1 else 0 := rfl
  rw [← hn] at hfl hfn
  have vq : X.num.natAbs / X.den < W ^ N := Nat.lt_of_le_of_lt (Nat.div_le_self _ _) hX.1
  have vF : flN X < W ^ (N + 1) := by
    have t := two_pow_W N
    have p : 1 < W ^ N := hX.pos
    rw [hfn]; split <;> omega
  have v1 : val [(1 : Int)] = 1 := rfl
  have AD := fun (w1 : World) (C C' : Option Addr) (a b a' b' : Nat) (x : Sl w1 C a b (words (X.num.natAbs / X.den))) (y : Sl w1 C' a' b' [1]) => ref_nadd x y (by have := x.small vq; omega) (by have := y.len; simp at this; omega)
  have MK := fun (w1 : World) (C C' : Option Addr) (a b a' b' : Nat) (x : Sl w1 C a b (words (flN X))) (y : Sl w1 C' a' b' [1]) => ref_make (N := N + 1) s x y (x.small vF) (by have := y.len; simp at this; omega) (by omega) (by rw [v1]; omega)
  simp only [val_words, v1] at AD MK
  rw [hfl] at MK
  have hS : ∀ w', Below V.heap.size V w' → w'.cell? ⟨w.heap.size, 0, none⟩ = some (.bool s) ∧ w'.cell? ⟨w.heap.size, 1, none⟩ = some (.slice A n c) ∧ w'.cell? ⟨w.heap.size, 2, none⟩ = some (.slice A' n' c') := fun w' hb => (Ba.below' hb).three.1
  have hL : ∀ w', Below V.heap.size V w' → w.heap.size < w'.heap.size := fun w' hb => (Ba.below' hb).lt
  clear hfl hn vF vq v1
  generalize flr X = Y at *
  generalize flN X = F at *
  generalize hd : X.num.natAbs / X.den = dv at *
  generalize hm : X.num.natAbs % X.den = md at *
  have HDV := Lib.hid DV
  have HAD := Lib.hid AD
  have HMK := Lib.hid MK
  have HS := Lib.hid hS
  have HL := Lib.hid hL
  have HBr := Lib.hid Br
  have HW := Lib.hid hW
  clear DV AD MK hS hL Ba Br hW h hX hp hd hm
  have fin : True := trivial
  cases s
  · rw [Bool.false_and, if_neg (by simp), Nat.add_zero] at hfn
    subst hfn
    go_enter Tryz.func15, Tryz.ntmps15
    go_wp2_with fail
    refine (HDV.out _ (by rw [HW.out]; exact Below.refl _ _)).mono ?_
    rintro _ w1 ⟨A1, n1, c1, A2, n2, c2, rfl, t1, t2, b1⟩
    rw [HW.out] at b1
    clear HW
    obtain ⟨k0, k1, k2⟩ := HS.out _ b1
    go_wp2_with fail
    refine (HMK.out _ _ _ _ _ _ _ (t1.below (below_alloc _ _)) (sl_lit w1 1 U_1)).mono ?_
    rintro _ w9 ⟨s7, A7, n7, c7, A8, n8, c8, rfl, q7, b9⟩
    have x9 := bb (b1.alloc b1.size _) b9
    have B9 := HBr.out.below' x9
    obtain ⟨⟨r0, r1, r2⟩, f0, f1, f2⟩ := B9.three
    go_wp2_with fail
    refine bodyPost_ret (v := .agg #[.bool s7, .slice A7 n7 c7, .slice A8 n8 c8]) (by simp [results, Tryz.results15, go_sem, r0, r1, r2]) rfl ?_
    exact ⟨_, _, _, _, _, _, _, rfl, q7.put3 ⟨_, _, _, _, _, _, _, B9⟩, below_put3 (bb hb0 x9) (by omega) (Nat.le_refl _) _ _ _⟩
  · by_cases h0 : md = 0
    · subst h0
      rw [decide_eq_false (by simp), Bool.and_false, if_neg (by simp), Nat.add_zero] at hfn
      subst hfn
      go_enter Tryz.func15, Tryz.ntmps15
      go_wp2_with fail
      refine (HDV.out _ (by rw [HW.out]; exact Below.refl _ _)).mono ?_
      rintro _ w1 ⟨A1, n1, c1, A2, n2, c2, rfl, t1, t2, b1⟩
      rw [HW.out] at b1
      clear HW
      obtain ⟨k0, k1, k2⟩ := HS.out _ b1
      have e2 := t2.len
      rw [words_zero] at e2
      obtain rfl : n2 = 0 := e2
      go_wp2_with fail
      refine (HMK.out _ _ _ _ _ _ _ (t1.below (below_alloc _ _)) (sl_lit w1 1 U_1)).mono ?_
      rintro _ w9 ⟨s7, A7, n7, c7, A8, n8, c8, rfl, q7, b9⟩
      have x9 := bb (b1.alloc b1.size _) b9
      have B9 := HBr.out.below' x9
      obtain ⟨⟨r0, r1, r2⟩, f0, f1, f2⟩ := B9.three
      go_wp2_with fail
      refine bodyPost_ret (v := .agg #[.bool s7, .slice A7 n7 c7, .slice A8 n8 c8]) (by simp [results, Tryz.results15, go_sem, r0, r1, r2]) rfl ?_
      exact ⟨_, _, _, _, _, _, _, rfl, q7.put3 ⟨_, _, _, _, _, _, _, B9⟩, below_put3 (bb hb0 x9) (by omega) (Nat.le_refl _) _ _ _⟩
    · rw [decide_eq_true h0, Bool.and_true, if_pos rfl] at hfn
      go_enter Tryz.func15, Tryz.ntmps15
      go_wp2_with fail
      refine (HDV.out _ (by rw [HW.out]; exact Below.refl _ _)).mono ?_
      rintro _ w1 ⟨A1, n1, c1, A2, n2, c2, rfl, t1, t2, b1⟩
      rw [HW.out] at b1
      clear HW
      obtain ⟨k0, k1, k2⟩ := HS.out _ b1
      have e2 : ¬ n2 = 0 := fun e => h0 ((words_nil_iff' t2.len).1 e)
      have e3 : 0 < n2 := by omega
      have e4 : (0 : Int) < (n2 : Int) := by omega
      go_wp2_with fail
      refine (HAD.out _ _ _ _ _ _ _ (t1.below (below_alloc _ _)) (sl_lit w1 1 U_1)).mono ?_
      rintro _ w3 ⟨A4, n4, c4, rfl, t4, b3⟩
      rw [← hfn] at t4
      have x3 := bb (b1.alloc b1.size _) b3
      clear k0 k1 k2
      obtain ⟨k0, k1, k2⟩ := HS.out _ x3
      go_wp2_with fail
      refine (HMK.out _ _ _ _ _ _ _ (t4.below (below_alloc _ _)) (sl_lit w3 1 U_1)).mono ?_
      rintro _ w9 ⟨s7, A7, n7, c7, A8, n8, c8, rfl, q7, b9⟩
      have x9 := bb (x3.alloc x3.size _) b9
      have B9 := HBr.out.below' x9
      obtain ⟨⟨r0, r1, r2⟩, f0, f1, f2⟩ := B9.three
      go_wp2_with fail
      refine bodyPost_ret (v := .agg #[.bool s7, .slice A7 n7 c7, .slice A8 n8 c8]) (by simp [results, Tryz.results15, go_sem, r0, r1, r2]) rfl ?_
      exact ⟨_, _, _, _, _, _, _, rfl, q7.put3 ⟨_, _, _, _, _, _, _, B9⟩, below_put3 (bb hb0 x9) (by omega) (Nat.le_refl _) _ _ _⟩

end Go.Proofs.YtnheefhbchkbdaaGreatDoor
