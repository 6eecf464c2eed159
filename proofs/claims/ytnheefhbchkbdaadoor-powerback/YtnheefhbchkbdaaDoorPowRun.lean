/-
  What power.Bits, Abs and gradineref08's Bits, Abs do, told by Lean's own Rat. Conditions: the numbers of at most N words, N at most 100.
-/
import Derived.Test.YtnheefhbchkbdaaDoorRatLaws
import Derived.Test.YtnheefhbchkbdaaDoorPowMath
namespace Go.Proofs.YtnheefhbchkbdaaDoor
set_option maxRecDepth 100000
open Go.RowKit
set_option linter.unusedVariables false
set_option linter.unusedSimpArgs false

/-- a call that only computes does so behind a draw too -/
theorem Calls.drewW {P : Program} {f : Nat} {args : Array Value} {V : World} {v : Value} (h : Calls P f args V fun e w' => e = .returned v ∧ V = w') : Calls P f args V fun e w' => e = .returned v ∧ V = w' := h

set_option maxRecDepth 100000 in
set_option maxHeartbeats 4000000 in
theorem pw_abs {w : World} {s : Bool} {A A' : Option Addr} {n n' c c' N : Nat} {X : Rat} (h : Q w s A n c A' n' c' X) (hX : Sz X N) (hN : N ≤ 100) :
    Calls Tryd.prog 18 #[.agg #[.bool s, .slice A n c, .slice A' n' c']] w (RetQ (rq false X.num.natAbs X.den) w) := by
  obtain ⟨V, hW, Ba, Br, hb0⟩ := boxes1 24 w #[.bool s, .slice A n c, .slice A' n' c'] #[.bool false, .slice none 0 0, .slice none 0 0]
  have l1 : n ≤ N := h.2.1.small hX.1
  have l2 : n' ≤ N := h.2.2.small hX.2
  have T1 := fun w1 (hb : Below V.heap.size V w1) => nat_trim (h.2.1.below (bb hb0 hb)) (by omega)
  have T2 := fun w1 (hb : Below V.heap.size V w1) => nat_trim (h.2.2.below (bb hb0 hb)) (by omega)
  rw [val_words] at T1 T2
  obtain ⟨q1, q2, q3⟩ := rq_cop' (s := false) (den_ne X) (gcd_num_den X)
  rw [Bool.false_and] at q3
  have hq : ∀ (w1 : World) (C C' : Option Addr) (a b a' b' : Nat), Sl w1 C a b (words X.num.natAbs) → Sl w1 C' a' b' (words X.den) → Q w1 false C a b C' a' b' (rq false X.num.natAbs X.den) := fun w1 C C' a b a' b' x y => ⟨q3.symm, by rw [q1]; exact x, by rw [q2]; exact y⟩
  have hS : ∀ w', Below V.heap.size V w' → w'.cell? ⟨w.heap.size, 0, none⟩ = some (.bool s) ∧ w'.cell? ⟨w.heap.size, 1, none⟩ = some (.slice A n c) ∧ w'.cell? ⟨w.heap.size, 2, none⟩ = some (.slice A' n' c') := fun w' hb => (Ba.below' hb).three.1
  generalize rq false X.num.natAbs X.den = Y at *
  generalize X.num.natAbs = p at *
  generalize X.den = q at *
  have HT1 := Lib.hid T1
  have HT2 := Lib.hid T2
  have HQ := Lib.hid hq
  have HS := Lib.hid hS
  have HBa := Lib.hid Ba
  have HBr := Lib.hid Br
  have HW := Lib.hid hW
  clear T1 T2 hq hS Ba Br hW q1 q2 q3 h hX
  go_enter Tryd.func18, Tryd.ntmps18
  go_wp2_with fail
  rw [HW.out]
  clear HW
  obtain ⟨k0, k1, k2⟩ := HS.out _ (Below.refl _ V)
  go_region_held3 (fun w' => w'.cell? ⟨w.heap.size, 0, none⟩ = some (.bool s) ∧ w'.cell? ⟨w.heap.size, 1, none⟩ = some (.slice A n c) ∧ w'.cell? ⟨w.heap.size, 2, none⟩ = some (.slice A' n' c')) (first | exact HS.out _ (Below.refl _ V).drew | exact HS4.out | exact HS.out _ x2 | exact HS.out _ x1 | fail)
    (first
      | (go_at_call 40; (with_reducible refine (HT1.out _ ?hb1).mono ?_); (case hb1 => exact (Below.refl _ V).drew); rintro _ w1 ⟨A1, n1, c1, rfl, t1, b1⟩; have x1 : Below V.heap.size V w1 := (Below.undrew b1))
      | (go_at_call 40; (with_reducible refine (HT2.out _ ?hb2).mono ?_); (case hb2 => exact x1); rintro _ w2 ⟨A2, n2, c2, rfl, t2, b2⟩; have x2 : Below V.heap.size V w2 := bb x1 b2; have q7 := HQ.out _ _ _ _ _ _ _ (t1.below b2) t2; have HS4 := Lib.hid ((HBa.out.below' x2).put3 (show w.heap.size ≠ w.heap.size + 1 by omega) (.bool false) (.slice A1 n1 c1) (.slice A2 n2 c2)).three.1; have B9 := HBr.out.below' x2; obtain ⟨⟨r0, r1, r2⟩, f0, f1, f2⟩ := B9.three))
  all_goals
    go_wp2_with fail
    refine bodyPost_ret (v := .agg #[.bool false, .slice A1 n1 c1, .slice A2 n2 c2]) (by simp [results, Tryd.results18, go_sem, r0, r1, r2]) rfl ?_
    exact ⟨_, _, _, _, _, _, _, rfl, q7.put3 ⟨_, _, _, _, _, _, _, B9⟩, below_put3 (bb hb0 x2) (by omega) (Nat.le_refl _) _ _ _⟩

end Go.Proofs.YtnheefhbchkbdaaDoor
