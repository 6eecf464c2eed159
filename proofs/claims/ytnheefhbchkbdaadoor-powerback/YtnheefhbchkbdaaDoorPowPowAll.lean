/-
  What power.Pow does for a negative exponent, told by Lean's own Rat. Conditions: the numbers of at most N words, N at most 100.
-/
import Derived.Test.YtnheefhbchkbdaaDoorPowMathAll
namespace Go.Proofs.YtnheefhbchkbdaaDoor
set_option maxRecDepth 100000
open Go.RowKit
set_option linter.unusedVariables false
set_option linter.unusedSimpArgs false

theorem clampP_nat {k : Nat} (h : k ≤ 64) : clampP (k : Int) = k := by rw [clampP_mid (by omega) (by omega)]; simp

set_option maxRecDepth 100000 in
set_option maxHeartbeats 4000000 in
theorem pw_pow_out {w : World} {s : Bool} {A A' : Option Addr} {n n' c c' : Nat} (i : Int) (hi : i < -64 ∨ 64 < i) :
    Calls Tryd.prog 8 #[.agg #[.bool s, .slice A n c, .slice A' n' c'], .int .i64 i] w (RetNo 1 w) := by
  rcases hi with hi | hi
  · go_enter Tryd.func8, Tryd.ntmps8
    go_wp2_with fail
    exact bodyPost_ret (v := .tuple #[.agg #[.bool false, .slice none 0 0, .slice none 0 0], .int .i64 1]) (by simp [results, Tryd.results8, go_sem]) rfl ⟨rfl, (below_alloc _ _).alloc (by simp) _⟩
  · have h1 : ¬ i < -64 := by omega
    have h2 : decide (i < -64) = false := decide_eq_false h1
    go_enter Tryd.func8, Tryd.ntmps8
    go_wp2_with fail
    exact bodyPost_ret (v := .tuple #[.agg #[.bool false, .slice none 0 0, .slice none 0 0], .int .i64 1]) (by simp [results, Tryd.results8, go_sem]) rfl ⟨rfl, (below_alloc _ _).alloc (by simp) _⟩

set_option maxRecDepth 100000 in
set_option maxHeartbeats 4000000 in
theorem pw_pow_nat {w : World} {s : Bool} {A A' : Option Addr} {n n' c c' N : Nat} {X : Rat} (h : Q w s A n c A' n' c' X) (hX : Sz X N) (hN : N ≤ 100) (k : Nat) (hk : k ≤ 64) :
    Calls Tryd.prog 8 #[.agg #[.bool s, .slice A n c, .slice A' n' c'], .int .i64 (k : Int)] w (RetQE (X ^ k) 0 w) := by
  obtain ⟨V, hW, Bp, Br, hb0⟩ := boxes1 24 w #[.bool s, .slice A n c, .slice A' n' c'] #[.bool false, .slice none 0 0, .slice none 0 0]
  have hY := hX
  have P1 := fun (w1 : World) (C : Option Addr) (a b : Nat) (x : Sl w1 C a b (words X.num.natAbs)) => prod_pow x (by have := x.small hY.1; omega) (k : Int)
  have P2 := fun (w1 : World) (C : Option Addr) (a b : Nat) (x : Sl w1 C a b (words X.den)) => prod_pow x (by have := x.small hY.2; omega) (k : Int)
  rw [clampP_nat hk] at P1 P2
  simp only [val_words] at P1 P2
  have ng := neg_pow X k
  have hq : ∀ (sg : Bool), sg = neg_ (X ^ k) → ∀ (w1 : World) (C C' : Option Addr) (a b a' b' : Nat), Sl w1 C a b (words (X.num.natAbs ^ k)) → Sl w1 C' a' b' (words (X.den ^ k)) → Q w1 sg C a b C' a' b' (X ^ k) := fun sg hs w1 C C' a b a' b' x y => ⟨hs, by rw [num_pow_abs]; exact x, by rw [den_pow_]; exact y⟩
  rw [← h.1] at ng
  have g1 := h.2.1.below hb0
  have g2 := h.2.2.below hb0
  have HP1 := Lib.hid (fun w1 x => P1 w1 A n c x)
  have HP2 := Lib.hid (fun w1 x => P2 w1 A' n' c' x)
  have HBp := Lib.hid Bp
  have HBr := Lib.hid Br
  have HW := Lib.hid hW
  have i1 : ¬ (k : Int) < -64 := by omega
  have i2 : ¬ 64 < (k : Int) := by omega
  have i3 : ¬ (k : Int) < 0 := by omega
  have i4 : decide ((k : Int) < -64) = false := decide_eq_false i1
  have i5 : decide (64 < (k : Int)) = false := decide_eq_false i2
  have i6 : decide (64 < k) = false := decide_eq_false (by omega)
  have i7 : decide ((k : Int) < 0) = false := decide_eq_false i3
  clear Bp Br hW h hX hY P1 P2
  cases s
  · rw [Bool.false_and] at ng
    have HQ := Lib.hid (hq false ng.symm)
    clear hq ng
    go_enter Tryd.func8, Tryd.ntmps8
    go_wp2_with fail
    rw [HW.out]
    clear HW
    have HS := Lib.hid (fun (w' : World) (hb : Below V.heap.size V w') => (HBp.out.below' hb).three.1)
    obtain ⟨k0, k1, k2⟩ := HS.out _ (Below.refl _ V)
    refine wp_region_held_drew (S := fun w' => w'.cell? ⟨w.heap.size, 0, none⟩ = some (.bool false) ∧ w'.cell? ⟨w.heap.size, 1, none⟩ = some (.slice A n c) ∧ w'.cell? ⟨w.heap.size, 2, none⟩ = some (.slice A' n' c')) (by kernel_rfl) ?_ (fun hHeld => ?_)
    · exact HS.out _ (Below.refl _ V).drew
    refine wpAnyH_take (i := 0) (v := ?_) rfl (by kernel_rfl) (by kernel_rfl) (by kernel_rfl) (fun _ _ _ h => h) (Or.inl ⟨by kernel_rfl, ?_⟩) (by assumption) ?_
    rotate_left
    · intro w hSw
      (try dsimp only at hSw)
      go_simp
      (try with_reducible rfl)
    try simp only [Act.put, List.setIfInBounds_toArray, List.set_cons_zero, List.set_cons_succ, List.getElem_toArray, List.getElem_cons_zero, List.getElem_cons_succ]
    refine wpAnyH_take (i := 1) (v := ?_) rfl (by kernel_rfl) (by kernel_rfl) (by kernel_rfl) (fun _ _ _ h => h) (Or.inl ⟨by kernel_rfl, ?_⟩) (by assumption) ?_
    rotate_left
    · intro w hSw
      (try dsimp only at hSw)
      go_simp
      (try with_reducible rfl)
    try simp only [Act.put, List.setIfInBounds_toArray, List.set_cons_zero, List.set_cons_succ, List.getElem_toArray, List.getElem_cons_zero, List.getElem_cons_succ]
    refine wpAnyH_take (i := 2) (v := ?_) rfl (by kernel_rfl) (by kernel_rfl) (by kernel_rfl) (fun _ _ _ h => h) (Or.inl ⟨by kernel_rfl, ?_⟩) (by assumption) ?_
    rotate_left
    · intro w hSw
      (try dsimp only at hSw)
      go_simp
      (try with_reducible rfl)
    try simp only [Act.put, List.setIfInBounds_toArray, List.set_cons_zero, List.set_cons_succ, List.getElem_toArray, List.getElem_cons_zero, List.getElem_cons_succ]
    refine wpAnyH_take (i := 3) (v := undef) rfl (by kernel_rfl) (by kernel_rfl) (by kernel_rfl) (fun _ _ _ h => h) (Or.inr ⟨by kernel_rfl, rfl⟩) (by assumption) ?_
    try simp only [Act.put, List.setIfInBounds_toArray, List.set_cons_zero, List.set_cons_succ, List.getElem_toArray, List.getElem_cons_zero, List.getElem_cons_succ]
    refine wpAnyH_take (i := 4) (v := undef) rfl (by kernel_rfl) (by kernel_rfl) (by kernel_rfl) (fun _ _ _ h => h) (Or.inr ⟨by kernel_rfl, rfl⟩) (by assumption) ?_
    try simp only [Act.put, List.setIfInBounds_toArray, List.set_cons_zero, List.set_cons_succ, List.getElem_toArray, List.getElem_cons_zero, List.getElem_cons_succ]
    refine wpAnyH_take (i := 5) (v := undef) rfl (by kernel_rfl) (by kernel_rfl) (by kernel_rfl) (fun _ _ _ h => h) (Or.inr ⟨by kernel_rfl, rfl⟩) (by assumption) ?_
    try simp only [Act.put, List.setIfInBounds_toArray, List.set_cons_zero, List.set_cons_succ, List.getElem_toArray, List.getElem_cons_zero, List.getElem_cons_succ]
    refine wpAnyH_take (i := 6) (v := ?_) rfl (by kernel_rfl) (by kernel_rfl) (by kernel_rfl) (fun _ _ _ h => h) (Or.inl ⟨by kernel_rfl, ?_⟩) (by assumption) ?_
    rotate_left
    · intro w hSw
      (try dsimp only at hSw)
      go_simp
      (try with_reducible rfl)
    try simp only [Act.put, List.setIfInBounds_toArray, List.set_cons_zero, List.set_cons_succ, List.getElem_toArray, List.getElem_cons_zero, List.getElem_cons_succ]
    refine wpAnyH_take (i := 7) (v := ?_) rfl (by kernel_rfl) (by kernel_rfl) (by kernel_rfl) (fun _ _ _ h => h) (Or.inl ⟨by kernel_rfl, ?_⟩) (by assumption) ?_
    rotate_left
    · intro w hSw
      (try dsimp only at hSw)
      go_simp
      (try with_reducible rfl)
    try simp only [Act.put, List.setIfInBounds_toArray, List.set_cons_zero, List.set_cons_succ, List.getElem_toArray, List.getElem_cons_zero, List.getElem_cons_succ]
    refine wpAnyH_take (i := 8) (v := ?_) rfl (by kernel_rfl) (by kernel_rfl) (by kernel_rfl) (fun _ _ _ h => h) (Or.inl ⟨by kernel_rfl, ?_⟩) (by assumption) ?_
    rotate_left
    · intro w hSw
      (try dsimp only at hSw)
      go_simp
      (try with_reducible rfl)
    try simp only [Act.put, List.setIfInBounds_toArray, List.set_cons_zero, List.set_cons_succ, List.getElem_toArray, List.getElem_cons_zero, List.getElem_cons_succ]
    refine wpAnyH_take (i := 9) (v := ?_) rfl (by kernel_rfl) (by kernel_rfl) (by kernel_rfl) (fun _ _ _ h => h) (Or.inl ⟨by kernel_rfl, ?_⟩) (by assumption) ?_
    rotate_left
    · intro w hSw
      (try dsimp only at hSw)
      go_simp
      (try with_reducible rfl)
    try simp only [Act.put, List.setIfInBounds_toArray, List.set_cons_zero, List.set_cons_succ, List.getElem_toArray, List.getElem_cons_zero, List.getElem_cons_succ]
    refine wpAnyH_take (i := 11) (v := ?_) rfl (by kernel_rfl) (by kernel_rfl) (by kernel_rfl) (fun _ _ _ h => h) (Or.inl ⟨by kernel_rfl, ?_⟩) (by assumption) ?_
    rotate_left
    · intro w hSw
      (try dsimp only at hSw)
      go_simp
      (try with_reducible rfl)
    try simp only [Act.put, List.setIfInBounds_toArray, List.set_cons_zero, List.set_cons_succ, List.getElem_toArray, List.getElem_cons_zero, List.getElem_cons_succ]
    refine wpAnyH_take (i := 12) (v := ?_) rfl (by kernel_rfl) (by kernel_rfl) (by kernel_rfl) (fun _ _ _ h => h) (Or.inl ⟨by kernel_rfl, ?_⟩) (by assumption) ?_
    rotate_left
    · intro w hSw
      (try dsimp only at hSw)
      go_simp
      (try with_reducible rfl)
    try simp only [Act.put, List.setIfInBounds_toArray, List.set_cons_zero, List.set_cons_succ, List.getElem_toArray, List.getElem_cons_zero, List.getElem_cons_succ]
    refine wpAnyH_take (i := 13) (v := ?_) rfl (by kernel_rfl) (by kernel_rfl) (by kernel_rfl) (fun _ _ _ h => h) (Or.inl ⟨by kernel_rfl, ?_⟩) (by assumption) ?_
    rotate_left
    · intro w hSw
      (try dsimp only at hSw)
      go_simp
      (try with_reducible rfl)
    try simp only [Act.put, List.setIfInBounds_toArray, List.set_cons_zero, List.set_cons_succ, List.getElem_toArray, List.getElem_cons_zero, List.getElem_cons_succ]
    refine wpAnyH_ready (rs := [10]) (by kernel_rfl) (by simp) ?_
    refine AllReadyH.cons rfl (fun K hK => ?_) AllReadyH.nil
    go_simp
    refine (HP1.out _ ?h1na).mono ?_
    case h1na => (have hh := g1; exact hh)
    rintro _ w7 ⟨A7, n7, c7, rfl, t7, b7⟩; have b7 := Below.undrew b7
    (try go_wp2_with fail)
    refine hK.out _ _ ?_ (fun hHeld => ?_)
    · exact HS.out _ b7
    clear hK K
    try simp only [Act.put, List.setIfInBounds_toArray, List.set_cons_zero, List.set_cons_succ, List.getElem_toArray, List.getElem_cons_zero, List.getElem_cons_succ]
    refine wpAnyH_ready (rs := [14]) (by kernel_rfl) (by simp) ?_
    refine AllReadyH.cons rfl (fun K hK => ?_) AllReadyH.nil
    go_simp
    refine (HP2.out _ (g2.below b7)).mono ?_
    rintro _ w8 ⟨A8, n8, c8, rfl, t8, b8⟩; have x8 := bb b7 b8; have q9 := HQ.out _ _ _ _ _ _ _ (t7.below b8) t8; have HS4 := Lib.hid ((HBp.out.below' x8).put3 (show w.heap.size ≠ w.heap.size + 1 by omega) (.bool false) (.slice A7 n7 c7) (.slice A8 n8 c8)).three.1; have B9 := HBr.out.below' x8; obtain ⟨⟨r0, r1, r2⟩, f0, f1, f2⟩ := B9.three
    (try go_wp2_with fail)
    refine hK.out _ _ ?_ (fun hHeld => ?_)
    · exact HS.out _ x8
    clear hK K
    try simp only [Act.put, List.setIfInBounds_toArray, List.set_cons_zero, List.set_cons_succ, List.getElem_toArray, List.getElem_cons_zero, List.getElem_cons_succ]
    refine wpAnyH_take (i := 15) (v := ?_) rfl (by kernel_rfl) (by kernel_rfl) (by kernel_rfl) (fun _ _ _ h => h) (Or.inl ⟨by kernel_rfl, ?_⟩) (by assumption) ?_
    rotate_left
    · intro w hSw
      (try dsimp only at hSw)
      go_simp
      (try with_reducible rfl)
    try simp only [Act.put, List.setIfInBounds_toArray, List.set_cons_zero, List.set_cons_succ, List.getElem_toArray, List.getElem_cons_zero, List.getElem_cons_succ]
    refine wpAnyH_ready (rs := [16]) (by kernel_rfl) (by simp) ?_
    refine AllReadyH.cons rfl (fun K hK => ?_) AllReadyH.nil
    go_simp
    (try go_wp2_with fail)
    refine hK.out _ _ ?_ (fun hHeld => ?_)
    · exact HS4.out
    clear hK K
    try simp only [Act.put, List.setIfInBounds_toArray, List.set_cons_zero, List.set_cons_succ, List.getElem_toArray, List.getElem_cons_zero, List.getElem_cons_succ]
    refine wpAnyH_take (i := 17) (v := ?_) rfl (by kernel_rfl) (by kernel_rfl) (by kernel_rfl) (fun _ _ _ h => h) (Or.inl ⟨by kernel_rfl, ?_⟩) (by assumption) ?_
    rotate_left
    · intro w hSw
      (try dsimp only at hSw)
      go_simp
      (try with_reducible rfl)
    try simp only [Act.put, List.setIfInBounds_toArray, List.set_cons_zero, List.set_cons_succ, List.getElem_toArray, List.getElem_cons_zero, List.getElem_cons_succ]
    refine wpAnyH_done (by kernel_rfl) ?_ _
    all_goals
      go_wp2_with fail
      refine bodyPost_ret (v := .tuple #[.agg #[.bool false, .slice A7 n7 c7, .slice A8 n8 c8], .int .i64 0]) (by simp [results, Tryd.results8, go_sem, r0, r1, r2]) rfl ?_
      exact ⟨_, _, _, _, _, _, _, rfl, q9.put3 ⟨_, _, _, _, _, _, _, B9⟩, below_put3 (bb hb0 x8) (by omega) (Nat.le_refl _) _ _ _⟩
  · rw [Bool.true_and] at ng
    by_cases hodd : k % 2 = 1
    · rw [decide_eq_true hodd] at ng
      have HQ := Lib.hid (hq true ng.symm)
      have em : (k : Int) % 2 = 1 := by omega
      have et : Int.tmod (k : Int) 2 = 1 := by rw [Int.tmod_eq_emod_of_nonneg (by omega)]; exact em
      have en : k % 2 = 1 := by omega
      clear hq ng hodd
      go_enter Tryd.func8, Tryd.ntmps8
      go_wp2_with fail
      rw [HW.out]
      clear HW
      have HS := Lib.hid (fun (w' : World) (hb : Below V.heap.size V w') => (HBp.out.below' hb).three.1)
      obtain ⟨k0, k1, k2⟩ := HS.out _ (Below.refl _ V)
      go_region_held3 (fun w' => w'.cell? ⟨w.heap.size, 0, none⟩ = some (.bool true) ∧ w'.cell? ⟨w.heap.size, 1, none⟩ = some (.slice A n c) ∧ w'.cell? ⟨w.heap.size, 2, none⟩ = some (.slice A' n' c')) (first | exact HS.out _ (Below.refl _ V).drew | exact HS4.out | exact HS.out _ x8 | exact HS.out _ b7 | fail)
        (first
          | (go_at_call 23; (with_reducible refine (HP1.out _ ?h1nb).mono ?_); (case h1nb => (have hh := g1; exact hh)); rintro _ w7 ⟨A7, n7, c7, rfl, t7, b7⟩; have b7 := Below.undrew b7)
          | (go_at_call 23; (with_reducible refine (HP2.out _ (g2.below b7)).mono ?_); rintro _ w8 ⟨A8, n8, c8, rfl, t8, b8⟩; have x8 := bb b7 b8; have q9 := HQ.out _ _ _ _ _ _ _ (t7.below b8) t8; have HS4 := Lib.hid ((HBp.out.below' x8).put3 (show w.heap.size ≠ w.heap.size + 1 by omega) (.bool true) (.slice A7 n7 c7) (.slice A8 n8 c8)).three.1; have B9 := HBr.out.below' x8; obtain ⟨⟨r0, r1, r2⟩, f0, f1, f2⟩ := B9.three))
      all_goals
        go_wp2_with fail
        refine bodyPost_ret (v := .tuple #[.agg #[.bool true, .slice A7 n7 c7, .slice A8 n8 c8], .int .i64 0]) (by simp [results, Tryd.results8, go_sem, r0, r1, r2]) rfl ?_
        exact ⟨_, _, _, _, _, _, _, rfl, q9.put3 ⟨_, _, _, _, _, _, _, B9⟩, below_put3 (bb hb0 x8) (by omega) (Nat.le_refl _) _ _ _⟩
    · rw [decide_eq_false hodd] at ng
      have HQ := Lib.hid (hq false ng.symm)
      have em : (k : Int) % 2 = 0 := by omega
      have et : Int.tmod (k : Int) 2 = 0 := by rw [Int.tmod_eq_emod_of_nonneg (by omega)]; exact em
      have en : k % 2 = 0 := by omega
      clear hq ng hodd
      go_enter Tryd.func8, Tryd.ntmps8
      go_wp2_with fail
      rw [HW.out]
      clear HW
      have HS := Lib.hid (fun (w' : World) (hb : Below V.heap.size V w') => (HBp.out.below' hb).three.1)
      obtain ⟨k0, k1, k2⟩ := HS.out _ (Below.refl _ V)
      go_region_held3 (fun w' => w'.cell? ⟨w.heap.size, 0, none⟩ = some (.bool true) ∧ w'.cell? ⟨w.heap.size, 1, none⟩ = some (.slice A n c) ∧ w'.cell? ⟨w.heap.size, 2, none⟩ = some (.slice A' n' c')) (first | exact HS.out _ (Below.refl _ V).drew | exact HS4.out | exact HS.out _ x8 | exact HS.out _ b7 | fail)
        (first
          | (go_at_call 23; (with_reducible refine (HP1.out _ ?h1nc).mono ?_); (case h1nc => (have hh := g1; exact hh)); rintro _ w7 ⟨A7, n7, c7, rfl, t7, b7⟩; have b7 := Below.undrew b7)
          | (go_at_call 23; (with_reducible refine (HP2.out _ (g2.below b7)).mono ?_); rintro _ w8 ⟨A8, n8, c8, rfl, t8, b8⟩; have x8 := bb b7 b8; have q9 := HQ.out _ _ _ _ _ _ _ (t7.below b8) t8; have HS4 := Lib.hid ((HBp.out.below' x8).put3 (show w.heap.size ≠ w.heap.size + 1 by omega) (.bool false) (.slice A7 n7 c7) (.slice A8 n8 c8)).three.1; have B9 := HBr.out.below' x8; obtain ⟨⟨r0, r1, r2⟩, f0, f1, f2⟩ := B9.three))
      all_goals
        go_wp2_with fail
        refine bodyPost_ret (v := .tuple #[.agg #[.bool false, .slice A7 n7 c7, .slice A8 n8 c8], .int .i64 0]) (by simp [results, Tryd.results8, go_sem, r0, r1, r2]) rfl ?_
        exact ⟨_, _, _, _, _, _, _, rfl, q9.put3 ⟨_, _, _, _, _, _, _, B9⟩, below_put3 (bb hb0 x8) (by omega) (Nat.le_refl _) _ _ _⟩

end Go.Proofs.YtnheefhbchkbdaaDoor

namespace Go.Proofs.YtnheefhbchkbdaaDoor
set_option maxRecDepth 100000
open Go.RowKit
set_option linter.unusedVariables false
set_option linter.unusedSimpArgs false

theorem box_put {t : TypeId} {w : World} {g : Nat} {y0 y1 y2 : Value} (h : Box t w g #[y0, y1, y2]) (x0 x1 x2 : Value) : Box t (put3 w g x0 x1 x2) g #[x0, x1, x2] := by
  unfold Box at *
  simp [put3, World.setCell, Array.getElem?_modify, h]

set_option maxRecDepth 100000 in
set_option maxHeartbeats 4000000 in
theorem pw_pow_zero {w : World} {s : Bool} {A A' : Option Addr} {n n' c c' N : Nat} {X : Rat} (h : Q w s A n c A' n' c' X) (hX : Sz X N) (hN : N ≤ 100) (h0 : X = 0) (k : Nat) (hk : k ≤ 64) (hk0 : 0 < k) :
    Calls Tryd.prog 8 #[.agg #[.bool s, .slice A n c, .slice A' n' c'], .int .i64 (-(k : Int))] w (RetNo 4 w) := by
  obtain ⟨V, hW, Bp, Br, hb0⟩ := boxes1 24 w #[.bool s, .slice A n c, .slice A' n' c'] #[.bool false, .slice none 0 0, .slice none 0 0]
  have i1 : ¬ (-(k : Int)) < -64 := by omega
  have i2 : ¬ 64 < (-(k : Int)) := by omega
  have i3 : (-(k : Int)) < 0 := by omega
  have i4 : decide ((-(k : Int)) < -64) = false := decide_eq_false i1
  have i5 : decide (64 < (-(k : Int))) = false := decide_eq_false i2
  have i6 : decide (64 < k) = false := decide_eq_false (by omega)
  have i8 : ¬ 64 < k := by omega
  have i9 : 0 < k := by omega
  have I := fun w1 (hb : Below V.heap.size V w1) => rat_inv_zero (h.below (bb hb0 hb)) hX (by omega) h0
  have HI := Lib.hid I
  have HBr := Lib.hid Br
  have HW := Lib.hid hW
  clear I Bp Br hW h hX h0
  go_enter Tryd.func8, Tryd.ntmps8
  go_wp2_with fail
  refine (HI.out _ (by rw [HW.out]; exact Below.refl _ _)).mono ?_
  rintro _ w1 ⟨rfl, b1⟩
  rw [HW.out] at b1
  have B9 := HBr.out.below' b1
  have hz1 := B9.lt
  obtain ⟨⟨r0, r1, r2⟩, f0, f1, f2⟩ := B9.three
  clear HW HI
  go_wp2_with fail
  refine bodyPost_ret (v := .tuple #[.agg #[.bool false, .slice none 0 0, .slice none 0 0], .int .i64 4]) (by simp [results, Tryd.results8, go_sem, r0, r1, r2, hz1, (show ¬ (w.heap.size + 1 = w1.heap.size) by omega)]) rfl ?_
  have y6 := below_put3 (bb hb0 b1) (show w.heap.size ≤ w.heap.size + 1 by omega) (Nat.le_refl _) (.bool false) (.slice none 0 0) (.slice none 0 0)
  exact ⟨rfl, y6.alloc y6.size _⟩

set_option maxRecDepth 100000 in
set_option maxHeartbeats 4000000 in
theorem pw_pow_neg {w : World} {s : Bool} {A A' : Option Addr} {n n' c c' N : Nat} {X : Rat} (h : Q w s A n c A' n' c' X) (hX : Sz X N) (hN : N ≤ 100) (h0 : X ≠ 0) (k : Nat) (hk : k ≤ 64) (hk0 : 0 < k) :
    Calls Tryd.prog 8 #[.agg #[.bool s, .slice A n c, .slice A' n' c'], .int .i64 (-(k : Int))] w (RetQE (X⁻¹ ^ k) 0 w) := by
  obtain ⟨V, hW, Bp, Br, hb0⟩ := boxes1 24 w #[.bool s, .slice A n c, .slice A' n' c'] #[.bool false, .slice none 0 0, .slice none 0 0]
  have hY := hX.inv
  have P1 := fun (w1 : World) (C : Option Addr) (a b : Nat) (x : Sl w1 C a b (words X⁻¹.num.natAbs)) => prod_pow x (by have := x.small hY.1; omega) (k : Int)
  have P2 := fun (w1 : World) (C : Option Addr) (a b : Nat) (x : Sl w1 C a b (words X⁻¹.den)) => prod_pow x (by have := x.small hY.2; omega) (k : Int)
  rw [clampP_nat hk] at P1 P2
  simp only [val_words] at P1 P2
  have ng := neg_pow X⁻¹ k
  have hq : ∀ (sg : Bool), sg = neg_ (X⁻¹ ^ k) → ∀ (w1 : World) (C C' : Option Addr) (a b a' b' : Nat), Sl w1 C a b (words (X⁻¹.num.natAbs ^ k)) → Sl w1 C' a' b' (words (X⁻¹.den ^ k)) → Q w1 sg C a b C' a' b' (X⁻¹ ^ k) := fun sg hs w1 C C' a b a' b' x y => ⟨hs, by rw [num_pow_abs]; exact x, by rw [den_pow_]; exact y⟩
  have I := fun w1 (hb : Below V.heap.size V w1) => rat_inv (h.below (bb hb0 hb)) hX (by omega) h0
  have i1 : ¬ (-(k : Int)) < -64 := by omega
  have i2 : ¬ 64 < (-(k : Int)) := by omega
  have i3 : (-(k : Int)) < 0 := by omega
  have i4 : decide ((-(k : Int)) < -64) = false := decide_eq_false i1
  have i5 : decide (64 < (-(k : Int))) = false := decide_eq_false i2
  have i6 : decide (64 < k) = false := decide_eq_false (by omega)
  have i8 : ¬ 64 < k := by omega
  have i9 : 0 < k := by omega
  generalize X⁻¹ = R at *
  have HI := Lib.hid I
  have HBp0 := Lib.hid Bp
  have HBr0 := Lib.hid Br
  have HW := Lib.hid hW
  have HPA := Lib.hid P1
  have HPB := Lib.hid P2
  have HNG := Lib.hid ng
  have HHQ := Lib.hid hq
  have HS0 := Lib.hid (fun (w' : World) (hb : Below V.heap.size V w') => (Bp.below' hb).three.1)
  clear Bp Br hW h hX hY P1 P2 ng hq h0 I
  go_enter Tryd.func8, Tryd.ntmps8
  go_wp2_with fail
  refine (HI.out _ (by rw [HW.out]; exact Below.refl _ _)).mono ?_
  rintro _ w1 ⟨s1, A1, n1, c1, D1, m1, d1, rfl, q1, b1⟩
  rw [HW.out] at b1
  have Bp1 := HBp0.out.below' b1
  have Br1 := HBr0.out.below' b1
  have hz1 := Bp1.lt
  have hz2 := Br1.lt
  obtain ⟨⟨k0, k1, k2⟩, f0, f1, f2⟩ := Bp1.three
  clear HW HI
  go_wp2_with fail
  obtain ⟨U, hU⟩ : ∃ U, (((w1.setCell ⟨w.heap.size, 0, none⟩ (.bool s1)).setCell ⟨w.heap.size, 1, none⟩ (.slice A1 n1 c1)).setCell ⟨w.heap.size, 2, none⟩ (.slice D1 m1 d1)).alloc (.cells #[.bool s1, .slice A1 n1 c1, .slice D1 m1 d1] 24) = U := ⟨_, rfl⟩
  rw [hU]
  have Bp : Box 24 U w.heap.size #[.bool s1, .slice A1 n1 c1, .slice D1 m1 d1] := by rw [← hU]; exact (box_put Bp1 (.bool s1) (.slice A1 n1 c1) (.slice D1 m1 d1)).alloc _
  have Br : Box 24 U (w.heap.size + 1) #[.bool false, .slice none 0 0, .slice none 0 0] := by rw [← hU]; exact (Br1.put3 (show w.heap.size + 1 ≠ w.heap.size by omega) (.bool s1) (.slice A1 n1 c1) (.slice D1 m1 d1)).alloc _
  have qU : Q U s1 A1 n1 c1 D1 m1 d1 R := by rw [← hU]; exact (q1.put3 (x0 := .bool s1) (x1 := .slice A1 n1 c1) (x2 := .slice D1 m1 d1) ⟨_, _, _, _, _, _, _, Bp1⟩).below (below_alloc _ _)
  have hbU : Below w.heap.size w U := by rw [← hU]; exact (below_put3 (bb hb0 b1) (Nat.le_refl _) (Nat.le_refl _) (.bool s1) (.slice A1 n1 c1) (.slice D1 m1 d1)).alloc (below_put3 (bb hb0 b1) (Nat.le_refl _) (Nat.le_refl _) (.bool s1) (.slice A1 n1 c1) (.slice D1 m1 d1)).size _
  clear hU Bp1 Br1 q1 k0 k1 k2 f0 f1 f2 hz1 hz2 b1
  have ng := HNG.out
  rw [← qU.1] at ng
  have hq := HHQ.out
  have HBp := Lib.hid Bp
  have HBr := Lib.hid Br
  have HP1 := Lib.hid (fun w1 x => HPA.out w1 A1 n1 c1 x)
  have HP2 := Lib.hid (fun w1 x => HPB.out w1 D1 m1 d1 x)
  have g1 := qU.2.1
  have g2 := qU.2.2
  clear Bp Br HNG HHQ HPA HPB HBp0 HBr0 HS0 qU
  cases s1
  · rw [Bool.false_and] at ng
    have HQ := Lib.hid (hq false ng.symm)
    clear hq ng
    have HS := Lib.hid (fun (w' : World) (hb : Below U.heap.size U w') => (HBp.out.below' hb).three.1)
    obtain ⟨k0, k1, k2⟩ := HS.out _ (Below.refl _ U)
    refine wp_region_held_drew (S := fun w' => w'.cell? ⟨w.heap.size, 0, none⟩ = some (.bool false) ∧ w'.cell? ⟨w.heap.size, 1, none⟩ = some (.slice A1 n1 c1) ∧ w'.cell? ⟨w.heap.size, 2, none⟩ = some (.slice D1 m1 d1)) (by kernel_rfl) ?_ (fun hHeld => ?_)
    · exact HS.out _ (Below.refl _ U).drew
    refine wpAnyH_take (i := 0) (v := ?_) rfl (by kernel_rfl) (by kernel_rfl) (by kernel_rfl) (fun _ _ _ h => h) (Or.inl ⟨by kernel_rfl, ?_⟩) (by assumption) ?_
    rotate_left
    · intro w hSw
      (try dsimp only at hSw)
      go_simp
      (try with_reducible rfl)
    try simp only [Act.put, List.setIfInBounds_toArray, List.set_cons_zero, List.set_cons_succ, List.getElem_toArray, List.getElem_cons_zero, List.getElem_cons_succ]
    refine wpAnyH_take (i := 1) (v := ?_) rfl (by kernel_rfl) (by kernel_rfl) (by kernel_rfl) (fun _ _ _ h => h) (Or.inl ⟨by kernel_rfl, ?_⟩) (by assumption) ?_
    rotate_left
    · intro w hSw
      (try dsimp only at hSw)
      go_simp
      (try with_reducible rfl)
    try simp only [Act.put, List.setIfInBounds_toArray, List.set_cons_zero, List.set_cons_succ, List.getElem_toArray, List.getElem_cons_zero, List.getElem_cons_succ]
    refine wpAnyH_take (i := 2) (v := ?_) rfl (by kernel_rfl) (by kernel_rfl) (by kernel_rfl) (fun _ _ _ h => h) (Or.inl ⟨by kernel_rfl, ?_⟩) (by assumption) ?_
    rotate_left
    · intro w hSw
      (try dsimp only at hSw)
      go_simp
      (try with_reducible rfl)
    try simp only [Act.put, List.setIfInBounds_toArray, List.set_cons_zero, List.set_cons_succ, List.getElem_toArray, List.getElem_cons_zero, List.getElem_cons_succ]
    refine wpAnyH_take (i := 3) (v := undef) rfl (by kernel_rfl) (by kernel_rfl) (by kernel_rfl) (fun _ _ _ h => h) (Or.inr ⟨by kernel_rfl, rfl⟩) (by assumption) ?_
    try simp only [Act.put, List.setIfInBounds_toArray, List.set_cons_zero, List.set_cons_succ, List.getElem_toArray, List.getElem_cons_zero, List.getElem_cons_succ]
    refine wpAnyH_take (i := 4) (v := undef) rfl (by kernel_rfl) (by kernel_rfl) (by kernel_rfl) (fun _ _ _ h => h) (Or.inr ⟨by kernel_rfl, rfl⟩) (by assumption) ?_
    try simp only [Act.put, List.setIfInBounds_toArray, List.set_cons_zero, List.set_cons_succ, List.getElem_toArray, List.getElem_cons_zero, List.getElem_cons_succ]
    refine wpAnyH_take (i := 5) (v := undef) rfl (by kernel_rfl) (by kernel_rfl) (by kernel_rfl) (fun _ _ _ h => h) (Or.inr ⟨by kernel_rfl, rfl⟩) (by assumption) ?_
    try simp only [Act.put, List.setIfInBounds_toArray, List.set_cons_zero, List.set_cons_succ, List.getElem_toArray, List.getElem_cons_zero, List.getElem_cons_succ]
    refine wpAnyH_take (i := 6) (v := ?_) rfl (by kernel_rfl) (by kernel_rfl) (by kernel_rfl) (fun _ _ _ h => h) (Or.inl ⟨by kernel_rfl, ?_⟩) (by assumption) ?_
    rotate_left
    · intro w hSw
      (try dsimp only at hSw)
      go_simp
      (try with_reducible rfl)
    try simp only [Act.put, List.setIfInBounds_toArray, List.set_cons_zero, List.set_cons_succ, List.getElem_toArray, List.getElem_cons_zero, List.getElem_cons_succ]
    refine wpAnyH_take (i := 7) (v := ?_) rfl (by kernel_rfl) (by kernel_rfl) (by kernel_rfl) (fun _ _ _ h => h) (Or.inl ⟨by kernel_rfl, ?_⟩) (by assumption) ?_
    rotate_left
    · intro w hSw
      (try dsimp only at hSw)
      go_simp
      (try with_reducible rfl)
    try simp only [Act.put, List.setIfInBounds_toArray, List.set_cons_zero, List.set_cons_succ, List.getElem_toArray, List.getElem_cons_zero, List.getElem_cons_succ]
    refine wpAnyH_take (i := 8) (v := ?_) rfl (by kernel_rfl) (by kernel_rfl) (by kernel_rfl) (fun _ _ _ h => h) (Or.inl ⟨by kernel_rfl, ?_⟩) (by assumption) ?_
    rotate_left
    · intro w hSw
      (try dsimp only at hSw)
      go_simp
      (try with_reducible rfl)
    try simp only [Act.put, List.setIfInBounds_toArray, List.set_cons_zero, List.set_cons_succ, List.getElem_toArray, List.getElem_cons_zero, List.getElem_cons_succ]
    refine wpAnyH_take (i := 9) (v := ?_) rfl (by kernel_rfl) (by kernel_rfl) (by kernel_rfl) (fun _ _ _ h => h) (Or.inl ⟨by kernel_rfl, ?_⟩) (by assumption) ?_
    rotate_left
    · intro w hSw
      (try dsimp only at hSw)
      go_simp
      (try with_reducible rfl)
    try simp only [Act.put, List.setIfInBounds_toArray, List.set_cons_zero, List.set_cons_succ, List.getElem_toArray, List.getElem_cons_zero, List.getElem_cons_succ]
    refine wpAnyH_take (i := 11) (v := ?_) rfl (by kernel_rfl) (by kernel_rfl) (by kernel_rfl) (fun _ _ _ h => h) (Or.inl ⟨by kernel_rfl, ?_⟩) (by assumption) ?_
    rotate_left
    · intro w hSw
      (try dsimp only at hSw)
      go_simp
      (try with_reducible rfl)
    try simp only [Act.put, List.setIfInBounds_toArray, List.set_cons_zero, List.set_cons_succ, List.getElem_toArray, List.getElem_cons_zero, List.getElem_cons_succ]
    refine wpAnyH_take (i := 12) (v := ?_) rfl (by kernel_rfl) (by kernel_rfl) (by kernel_rfl) (fun _ _ _ h => h) (Or.inl ⟨by kernel_rfl, ?_⟩) (by assumption) ?_
    rotate_left
    · intro w hSw
      (try dsimp only at hSw)
      go_simp
      (try with_reducible rfl)
    try simp only [Act.put, List.setIfInBounds_toArray, List.set_cons_zero, List.set_cons_succ, List.getElem_toArray, List.getElem_cons_zero, List.getElem_cons_succ]
    refine wpAnyH_take (i := 13) (v := ?_) rfl (by kernel_rfl) (by kernel_rfl) (by kernel_rfl) (fun _ _ _ h => h) (Or.inl ⟨by kernel_rfl, ?_⟩) (by assumption) ?_
    rotate_left
    · intro w hSw
      (try dsimp only at hSw)
      go_simp
      (try with_reducible rfl)
    try simp only [Act.put, List.setIfInBounds_toArray, List.set_cons_zero, List.set_cons_succ, List.getElem_toArray, List.getElem_cons_zero, List.getElem_cons_succ]
    refine wpAnyH_ready (rs := [10]) (by kernel_rfl) (by simp) ?_
    refine AllReadyH.cons rfl (fun K hK => ?_) AllReadyH.nil
    go_simp
    refine (HP1.out _ ?h1ga).mono ?_
    case h1ga => (have hh := g1; exact hh)
    rintro _ w7 ⟨A7, n7, c7, rfl, t7, b7⟩; have b7 := Below.undrew b7
    (try go_wp2_with fail)
    refine hK.out _ _ ?_ (fun hHeld => ?_)
    · exact HS.out _ b7
    clear hK K
    try simp only [Act.put, List.setIfInBounds_toArray, List.set_cons_zero, List.set_cons_succ, List.getElem_toArray, List.getElem_cons_zero, List.getElem_cons_succ]
    refine wpAnyH_ready (rs := [14]) (by kernel_rfl) (by simp) ?_
    refine AllReadyH.cons rfl (fun K hK => ?_) AllReadyH.nil
    go_simp
    refine (HP2.out _ (g2.below b7)).mono ?_
    rintro _ w8 ⟨A8, n8, c8, rfl, t8, b8⟩; have x8 := bb b7 b8; have q9 := HQ.out _ _ _ _ _ _ _ (t7.below b8) t8; have HS4 := Lib.hid ((HBp.out.below' x8).put3 (show w.heap.size ≠ w.heap.size + 1 by omega) (.bool false) (.slice A7 n7 c7) (.slice A8 n8 c8)).three.1; have B9 := HBr.out.below' x8; obtain ⟨⟨r0, r1, r2⟩, f0, f1, f2⟩ := B9.three
    (try go_wp2_with fail)
    refine hK.out _ _ ?_ (fun hHeld => ?_)
    · exact HS.out _ x8
    clear hK K
    try simp only [Act.put, List.setIfInBounds_toArray, List.set_cons_zero, List.set_cons_succ, List.getElem_toArray, List.getElem_cons_zero, List.getElem_cons_succ]
    refine wpAnyH_take (i := 15) (v := ?_) rfl (by kernel_rfl) (by kernel_rfl) (by kernel_rfl) (fun _ _ _ h => h) (Or.inl ⟨by kernel_rfl, ?_⟩) (by assumption) ?_
    rotate_left
    · intro w hSw
      (try dsimp only at hSw)
      go_simp
      (try with_reducible rfl)
    try simp only [Act.put, List.setIfInBounds_toArray, List.set_cons_zero, List.set_cons_succ, List.getElem_toArray, List.getElem_cons_zero, List.getElem_cons_succ]
    refine wpAnyH_ready (rs := [16]) (by kernel_rfl) (by simp) ?_
    refine AllReadyH.cons rfl (fun K hK => ?_) AllReadyH.nil
    go_simp
    (try go_wp2_with fail)
    refine hK.out _ _ ?_ (fun hHeld => ?_)
    · exact HS4.out
    clear hK K
    try simp only [Act.put, List.setIfInBounds_toArray, List.set_cons_zero, List.set_cons_succ, List.getElem_toArray, List.getElem_cons_zero, List.getElem_cons_succ]
    refine wpAnyH_take (i := 17) (v := ?_) rfl (by kernel_rfl) (by kernel_rfl) (by kernel_rfl) (fun _ _ _ h => h) (Or.inl ⟨by kernel_rfl, ?_⟩) (by assumption) ?_
    rotate_left
    · intro w hSw
      (try dsimp only at hSw)
      go_simp
      (try with_reducible rfl)
    try simp only [Act.put, List.setIfInBounds_toArray, List.set_cons_zero, List.set_cons_succ, List.getElem_toArray, List.getElem_cons_zero, List.getElem_cons_succ]
    refine wpAnyH_done (by kernel_rfl) ?_ _
    all_goals
      go_wp2_with fail
      refine bodyPost_ret (v := .tuple #[.agg #[.bool false, .slice A7 n7 c7, .slice A8 n8 c8], .int .i64 0]) (by simp [results, Tryd.results8, go_sem, r0, r1, r2]) rfl ?_
      exact ⟨_, _, _, _, _, _, _, rfl, q9.put3 ⟨_, _, _, _, _, _, _, B9⟩, below_put3 (bb hbU x8) (by omega) (Nat.le_refl _) _ _ _⟩
  · rw [Bool.true_and] at ng
    by_cases hodd : k % 2 = 1
    · rw [decide_eq_true hodd] at ng
      have HQ := Lib.hid (hq true ng.symm)
      have em : (k : Int) % 2 = 1 := by omega
      have et : Int.tmod (k : Int) 2 = 1 := by rw [Int.tmod_eq_emod_of_nonneg (by omega)]; exact em
      have en : k % 2 = 1 := by omega
      clear hq ng hodd
      have HS := Lib.hid (fun (w' : World) (hb : Below U.heap.size U w') => (HBp.out.below' hb).three.1)
      obtain ⟨k0, k1, k2⟩ := HS.out _ (Below.refl _ U)
      go_region_held3 (fun w' => w'.cell? ⟨w.heap.size, 0, none⟩ = some (.bool true) ∧ w'.cell? ⟨w.heap.size, 1, none⟩ = some (.slice A1 n1 c1) ∧ w'.cell? ⟨w.heap.size, 2, none⟩ = some (.slice D1 m1 d1)) (first | exact HS.out _ (Below.refl _ U).drew | exact HS4.out | exact HS.out _ x8 | exact HS.out _ b7 | fail)
        (first
          | (go_at_call 23; (with_reducible refine (HP1.out _ ?h1gb).mono ?_); (case h1gb => (have hh := g1; exact hh)); rintro _ w7 ⟨A7, n7, c7, rfl, t7, b7⟩; have b7 := Below.undrew b7)
          | (go_at_call 23; (with_reducible refine (HP2.out _ (g2.below b7)).mono ?_); rintro _ w8 ⟨A8, n8, c8, rfl, t8, b8⟩; have x8 := bb b7 b8; have q9 := HQ.out _ _ _ _ _ _ _ (t7.below b8) t8; have HS4 := Lib.hid ((HBp.out.below' x8).put3 (show w.heap.size ≠ w.heap.size + 1 by omega) (.bool true) (.slice A7 n7 c7) (.slice A8 n8 c8)).three.1; have B9 := HBr.out.below' x8; obtain ⟨⟨r0, r1, r2⟩, f0, f1, f2⟩ := B9.three))
      all_goals
        go_wp2_with fail
        refine bodyPost_ret (v := .tuple #[.agg #[.bool true, .slice A7 n7 c7, .slice A8 n8 c8], .int .i64 0]) (by simp [results, Tryd.results8, go_sem, r0, r1, r2]) rfl ?_
        exact ⟨_, _, _, _, _, _, _, rfl, q9.put3 ⟨_, _, _, _, _, _, _, B9⟩, below_put3 (bb hbU x8) (by omega) (Nat.le_refl _) _ _ _⟩
    · rw [decide_eq_false hodd] at ng
      have HQ := Lib.hid (hq false ng.symm)
      have em : (k : Int) % 2 = 0 := by omega
      have et : Int.tmod (k : Int) 2 = 0 := by rw [Int.tmod_eq_emod_of_nonneg (by omega)]; exact em
      have en : k % 2 = 0 := by omega
      clear hq ng hodd
      have HS := Lib.hid (fun (w' : World) (hb : Below U.heap.size U w') => (HBp.out.below' hb).three.1)
      obtain ⟨k0, k1, k2⟩ := HS.out _ (Below.refl _ U)
      go_region_held3 (fun w' => w'.cell? ⟨w.heap.size, 0, none⟩ = some (.bool true) ∧ w'.cell? ⟨w.heap.size, 1, none⟩ = some (.slice A1 n1 c1) ∧ w'.cell? ⟨w.heap.size, 2, none⟩ = some (.slice D1 m1 d1)) (first | exact HS.out _ (Below.refl _ U).drew | exact HS4.out | exact HS.out _ x8 | exact HS.out _ b7 | fail)
        (first
          | (go_at_call 23; (with_reducible refine (HP1.out _ ?h1gc).mono ?_); (case h1gc => (have hh := g1; exact hh)); rintro _ w7 ⟨A7, n7, c7, rfl, t7, b7⟩; have b7 := Below.undrew b7)
          | (go_at_call 23; (with_reducible refine (HP2.out _ (g2.below b7)).mono ?_); rintro _ w8 ⟨A8, n8, c8, rfl, t8, b8⟩; have x8 := bb b7 b8; have q9 := HQ.out _ _ _ _ _ _ _ (t7.below b8) t8; have HS4 := Lib.hid ((HBp.out.below' x8).put3 (show w.heap.size ≠ w.heap.size + 1 by omega) (.bool false) (.slice A7 n7 c7) (.slice A8 n8 c8)).three.1; have B9 := HBr.out.below' x8; obtain ⟨⟨r0, r1, r2⟩, f0, f1, f2⟩ := B9.three))
      all_goals
        go_wp2_with fail
        refine bodyPost_ret (v := .tuple #[.agg #[.bool false, .slice A7 n7 c7, .slice A8 n8 c8], .int .i64 0]) (by simp [results, Tryd.results8, go_sem, r0, r1, r2]) rfl ?_
        exact ⟨_, _, _, _, _, _, _, rfl, q9.put3 ⟨_, _, _, _, _, _, _, B9⟩, below_put3 (bb hbU x8) (by omega) (Nat.le_refl _) _ _ _⟩

end Go.Proofs.YtnheefhbchkbdaaDoor
