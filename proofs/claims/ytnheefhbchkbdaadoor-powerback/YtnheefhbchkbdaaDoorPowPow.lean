/-
  What power.Pow does for an exponent out of range, and for one that is not negative, told by Lean's own Rat. Conditions: the numbers of at most N words, N at most 100.
-/
import Derived.Test.YtnheefhbchkbdaaDoorPowRun
namespace Go.Proofs.YtnheefhbchkbdaaDoor
set_option maxRecDepth 100000
open Go.RowKit
set_option linter.unusedVariables false
set_option linter.unusedSimpArgs false

theorem clampP_nat {k : Nat} (h : k ≤ 64) : clampP (k : Int) = k := by rw [clampP_mid (by omega) (by omega)]; simp

set_option maxRecDepth 100000 in
set_option maxHeartbeats 4000000 in
theorem pw_pow_out {w : World} {s : Bool} {A A' : Option Addr} {n n' c c' : Nat} (i : Int) (hi : i < -64 ∨ 64 < i) :
    Calls Tryd.prog 8 #[.agg #[.bool s, .slice A n c, .slice A' n' c'], .int .i64 i] w (RetNo 1 w) := by
  rcases hi with hi | hi
  · go_enter Tryd.func8, Tryd.ntmps8
    go_wp2_with fail
    exact bodyPost_ret (v := .tuple #[.agg #[.bool false, .slice none 0 0, .slice none 0 0], .int .i64 1]) (by simp [results, Tryd.results8, go_sem]) rfl ⟨rfl, (below_alloc _ _).alloc (by simp) _⟩
  · have h1 : ¬ i < -64 := by omega
    have h2 : decide (i < -64) = false := decide_eq_false h1
    go_enter Tryd.func8, Tryd.ntmps8
    go_wp2_with fail
    exact bodyPost_ret (v := .tuple #[.agg #[.bool false, .slice none 0 0, .slice none 0 0], .int .i64 1]) (by simp [results, Tryd.results8, go_sem]) rfl ⟨rfl, (below_alloc _ _).alloc (by simp) _⟩

set_option maxRecDepth 100000 in
set_option maxHeartbeats 4000000 in
theorem pw_pow_nat {w : World} {s : Bool} {A A' : Option Addr} {n n' c c' N : Nat} {X : Rat} (h : Q w s A n c A' n' c' X) (hX : Sz X N) (hN : N ≤ 100) (k : Nat) (hk : k ≤ 64) :
    Calls Tryd.prog 8 #[.agg #[.bool s, .slice A n c, .slice A' n' c'], .int .i64 (k : Int)] w (RetQE (X ^ k) 0 w) := by
  obtain ⟨V, hW, Bp, Br, hb0⟩ := boxes1 24 w #[.bool s, .slice A n c, .slice A' n' c'] #[.bool false, .slice none 0 0, .slice none 0 0]
  have hY := hX
  have P1 := fun (w1 : World) (C : Option Addr) (a b : Nat) (x : Sl w1 C a b (words X.num.natAbs)) => prod_pow x (by have := x.small hY.1; omega) (k : Int)
  have P2 := fun (w1 : World) (C : Option Addr) (a b : Nat) (x : Sl w1 C a b (words X.den)) => prod_pow x (by have := x.small hY.2; omega) (k : Int)
  rw [clampP_nat hk] at P1 P2
  simp only [val_words] at P1 P2
  have ng := neg_pow X k
  have hq : ∀ (sg : Bool), sg = neg_ (X ^ k) → ∀ (w1 : World) (C C' : Option Addr) (a b a' b' : Nat), Sl w1 C a b (words (X.num.natAbs ^ k)) → Sl w1 C' a' b' (words (X.den ^ k)) → Q w1 sg C a b C' a' b' (X ^ k) := fun sg hs w1 C C' a b a' b' x y => ⟨hs, by rw [num_pow_abs]; exact x, by rw [den_pow_]; exact y⟩
  rw [← h.1] at ng
  have g1 := h.2.1.below hb0
  have g2 := h.2.2.below hb0
  have HP1 := Lib.hid (fun w1 x => P1 w1 A n c x)
  have HP2 := Lib.hid (fun w1 x => P2 w1 A' n' c' x)
  have HBp := Lib.hid Bp
  have HBr := Lib.hid Br
  have HW := Lib.hid hW
  have i1 : ¬ (k : Int) < -64 := by omega
  have i2 : ¬ 64 < (k : Int) := by omega
  have i3 : ¬ (k : Int) < 0 := by omega
  have i4 : decide ((k : Int) < -64) = false := decide_eq_false i1
  have i5 : decide (64 < (k : Int)) = false := decide_eq_false i2
  have i6 : decide (64 < k) = false := decide_eq_false (by omega)
  have i7 : decide ((k : Int) < 0) = false := decide_eq_false i3
  clear Bp Br hW h hX hY P1 P2
  cases s
  · rw [Bool.false_and] at ng
    have HQ := Lib.hid (hq false ng.symm)
    clear hq ng
    go_enter Tryd.func8, Tryd.ntmps8
    go_wp2_with fail
    rw [HW.out]
    clear HW
    have HS := Lib.hid (fun (w' : World) (hb : Below V.heap.size V w') => (HBp.out.below' hb).three.1)
    obtain ⟨k0, k1, k2⟩ := HS.out _ (Below.refl _ V)
    refine wp_region_held_drew (S := fun w' => w'.cell? ⟨w.heap.size, 0, none⟩ = some (.bool false) ∧ w'.cell? ⟨w.heap.size, 1, none⟩ = some (.slice A n c) ∧ w'.cell? ⟨w.heap.size, 2, none⟩ = some (.slice A' n' c')) (by kernel_rfl) ?_ (fun hHeld => ?_)
    · exact HS.out _ (Below.refl _ V).drew
    refine wpAnyH_take (i := 0) (v := ?_) rfl (by kernel_rfl) (by kernel_rfl) (by kernel_rfl) (fun _ _ _ h => h) (Or.inl ⟨by kernel_rfl, ?_⟩) (by assumption) ?_
    rotate_left
    · intro w hSw
      (try dsimp only at hSw)
      go_simp
      (try with_reducible rfl)
    try simp only [Act.put, List.setIfInBounds_toArray, List.set_cons_zero, List.set_cons_succ, List.getElem_toArray, List.getElem_cons_zero, List.getElem_cons_succ]
    refine wpAnyH_take (i := 1) (v := ?_) rfl (by kernel_rfl) (by kernel_rfl) (by kernel_rfl) (fun _ _ _ h => h) (Or.inl ⟨by kernel_rfl, ?_⟩) (by assumption) ?_
    rotate_left
    · intro w hSw
      (try dsimp only at hSw)
      go_simp
      (try with_reducible rfl)
    try simp only [Act.put, List.setIfInBounds_toArray, List.set_cons_zero, List.set_cons_succ, List.getElem_toArray, List.getElem_cons_zero, List.getElem_cons_succ]
    refine wpAnyH_take (i := 2) (v := ?_) rfl (by kernel_rfl) (by kernel_rfl) (by kernel_rfl) (fun _ _ _ h => h) (Or.inl ⟨by kernel_rfl, ?_⟩) (by assumption) ?_
    rotate_left
    · intro w hSw
      (try dsimp only at hSw)
      go_simp
      (try with_reducible rfl)
    try simp only [Act.put, List.setIfInBounds_toArray, List.set_cons_zero, List.set_cons_succ, List.getElem_toArray, List.getElem_cons_zero, List.getElem_cons_succ]
    refine wpAnyH_take (i := 3) (v := undef) rfl (by kernel_rfl) (by kernel_rfl) (by kernel_rfl) (fun _ _ _ h => h) (Or.inr ⟨by kernel_rfl, rfl⟩) (by assumption) ?_
    try simp only [Act.put, List.setIfInBounds_toArray, List.set_cons_zero, List.set_cons_succ, List.getElem_toArray, List.getElem_cons_zero, List.getElem_cons_succ]
    refine wpAnyH_take (i := 4) (v := undef) rfl (by kernel_rfl) (by kernel_rfl) (by kernel_rfl) (fun _ _ _ h => h) (Or.inr ⟨by kernel_rfl, rfl⟩) (by assumption) ?_
    try simp only [Act.put, List.setIfInBounds_toArray, List.set_cons_zero, List.set_cons_succ, List.getElem_toArray, List.getElem_cons_zero, List.getElem_cons_succ]
    refine wpAnyH_take (i := 5) (v := undef) rfl (by kernel_rfl) (by kernel_rfl) (by kernel_rfl) (fun _ _ _ h => h) (Or.inr ⟨by kernel_rfl, rfl⟩) (by assumption) ?_
    try simp only [Act.put, List.setIfInBounds_toArray, List.set_cons_zero, List.set_cons_succ, List.getElem_toArray, List.getElem_cons_zero, List.getElem_cons_succ]
    refine wpAnyH_take (i := 6) (v := ?_) rfl (by kernel_rfl) (by kernel_rfl) (by kernel_rfl) (fun _ _ _ h => h) (Or.inl ⟨by kernel_rfl, ?_⟩) (by assumption) ?_
    rotate_left
    · intro w hSw
      (try dsimp only at hSw)
      go_simp
      (try with_reducible rfl)
    try simp only [Act.put, List.setIfInBounds_toArray, List.set_cons_zero, List.set_cons_succ, List.getElem_toArray, List.getElem_cons_zero, List.getElem_cons_succ]
    refine wpAnyH_take (i := 7) (v := ?_) rfl (by kernel_rfl) (by kernel_rfl) (by kernel_rfl) (fun _ _ _ h => h) (Or.inl ⟨by kernel_rfl, ?_⟩) (by assumption) ?_
    rotate_left
    · intro w hSw
      (try dsimp only at hSw)
      go_simp
      (try with_reducible rfl)
    try simp only [Act.put, List.setIfInBounds_toArray, List.set_cons_zero, List.set_cons_succ, List.getElem_toArray, List.getElem_cons_zero, List.getElem_cons_succ]
    refine wpAnyH_take (i := 8) (v := ?_) rfl (by kernel_rfl) (by kernel_rfl) (by kernel_rfl) (fun _ _ _ h => h) (Or.inl ⟨by kernel_rfl, ?_⟩) (by assumption) ?_
    rotate_left
    · intro w hSw
      (try dsimp only at hSw)
      go_simp
      (try with_reducible rfl)
    try simp only [Act.put, List.setIfInBounds_toArray, List.set_cons_zero, List.set_cons_succ, List.getElem_toArray, List.getElem_cons_zero, List.getElem_cons_succ]
    refine wpAnyH_take (i := 9) (v := ?_) rfl (by kernel_rfl) (by kernel_rfl) (by kernel_rfl) (fun _ _ _ h => h) (Or.inl ⟨by kernel_rfl, ?_⟩) (by assumption) ?_
    rotate_left
    · intro w hSw
      (try dsimp only at hSw)
      go_simp
      (try with_reducible rfl)
    try simp only [Act.put, List.setIfInBounds_toArray, List.set_cons_zero, List.set_cons_succ, List.getElem_toArray, List.getElem_cons_zero, List.getElem_cons_succ]
    refine wpAnyH_take (i := 11) (v := ?_) rfl (by kernel_rfl) (by kernel_rfl) (by kernel_rfl) (fun _ _ _ h => h) (Or.inl ⟨by kernel_rfl, ?_⟩) (by assumption) ?_
    rotate_left
    · intro w hSw
      (try dsimp only at hSw)
      go_simp
      (try with_reducible rfl)
    try simp only [Act.put, List.setIfInBounds_toArray, List.set_cons_zero, List.set_cons_succ, List.getElem_toArray, List.getElem_cons_zero, List.getElem_cons_succ]
    refine wpAnyH_take (i := 12) (v := ?_) rfl (by kernel_rfl) (by kernel_rfl) (by kernel_rfl) (fun _ _ _ h => h) (Or.inl ⟨by kernel_rfl, ?_⟩) (by assumption) ?_
    rotate_left
    · intro w hSw
      (try dsimp only at hSw)
      go_simp
      (try with_reducible rfl)
    try simp only [Act.put, List.setIfInBounds_toArray, List.set_cons_zero, List.set_cons_succ, List.getElem_toArray, List.getElem_cons_zero, List.getElem_cons_succ]
    refine wpAnyH_take (i := 13) (v := ?_) rfl (by kernel_rfl) (by kernel_rfl) (by kernel_rfl) (fun _ _ _ h => h) (Or.inl ⟨by kernel_rfl, ?_⟩) (by assumption) ?_
    rotate_left
    · intro w hSw
      (try dsimp only at hSw)
      go_simp
      (try with_reducible rfl)
    try simp only [Act.put, List.setIfInBounds_toArray, List.set_cons_zero, List.set_cons_succ, List.getElem_toArray, List.getElem_cons_zero, List.getElem_cons_succ]
    refine wpAnyH_ready (rs := [10]) (by kernel_rfl) (by simp) ?_
    refine AllReadyH.cons rfl (fun K hK => ?_) AllReadyH.nil
    go_simp
    refine (HP1.out _ ?h1na).mono ?_
    case h1na => (have hh := g1; exact hh)
    rintro _ w7 ⟨A7, n7, c7, rfl, t7, b7⟩; have b7 := Below.undrew b7
    (try go_wp2_with fail)
    refine hK.out _ _ ?_ (fun hHeld => ?_)
    · exact HS.out _ b7
    clear hK K
    try simp only [Act.put, List.setIfInBounds_toArray, List.set_cons_zero, List.set_cons_succ, List.getElem_toArray, List.getElem_cons_zero, List.getElem_cons_succ]
    refine wpAnyH_ready (rs := [14]) (by kernel_rfl) (by simp) ?_
    refine AllReadyH.cons rfl (fun K hK => ?_) AllReadyH.nil
    go_simp
    refine (HP2.out _ (g2.below b7)).mono ?_
    rintro _ w8 ⟨A8, n8, c8, rfl, t8, b8⟩; have x8 := bb b7 b8; have q9 := HQ.out _ _ _ _ _ _ _ (t7.below b8) t8; have HS4 := Lib.hid ((HBp.out.below' x8).put3 (show w.heap.size ≠ w.heap.size + 1 by omega) (.bool false) (.slice A7 n7 c7) (.slice A8 n8 c8)).three.1; have B9 := HBr.out.below' x8; obtain ⟨⟨r0, r1, r2⟩, f0, f1, f2⟩ := B9.three
    (try go_wp2_with fail)
    refine hK.out _ _ ?_ (fun hHeld => ?_)
    · exact HS.out _ x8
    clear hK K
    try simp only [Act.put, List.setIfInBounds_toArray, List.set_cons_zero, List.set_cons_succ, List.getElem_toArray, List.getElem_cons_zero, List.getElem_cons_succ]
    refine wpAnyH_take (i := 15) (v := ?_) rfl (by kernel_rfl) (by kernel_rfl) (by kernel_rfl) (fun _ _ _ h => h) (Or.inl ⟨by kernel_rfl, ?_⟩) (by assumption) ?_
    rotate_left
    · intro w hSw
      (try dsimp only at hSw)
      go_simp
      (try with_reducible rfl)
    try simp only [Act.put, List.setIfInBounds_toArray, List.set_cons_zero, List.set_cons_succ, List.getElem_toArray, List.getElem_cons_zero, List.getElem_cons_succ]
    refine wpAnyH_ready (rs := [16]) (by kernel_rfl) (by simp) ?_
    refine AllReadyH.cons rfl (fun K hK => ?_) AllReadyH.nil
    go_simp
    (try go_wp2_with fail)
    refine hK.out _ _ ?_ (fun hHeld => ?_)
    · exact HS4.out
    clear hK K
    try simp only [Act.put, List.setIfInBounds_toArray, List.set_cons_zero, List.set_cons_succ, List.getElem_toArray, List.getElem_cons_zero, List.getElem_cons_succ]
    refine wpAnyH_take (i := 17) (v := ?_) rfl (by kernel_rfl) (by kernel_rfl) (by kernel_rfl) (fun _ _ _ h => h) (Or.inl ⟨by kernel_rfl, ?_⟩) (by assumption) ?_
    rotate_left
    · intro w hSw
      (try dsimp only at hSw)
      go_simp
      (try with_reducible rfl)
    try simp only [Act.put, List.setIfInBounds_toArray, List.set_cons_zero, List.set_cons_succ, List.getElem_toArray, List.getElem_cons_zero, List.getElem_cons_succ]
    refine wpAnyH_done (by kernel_rfl) ?_ _
    all_goals
      go_wp2_with fail
      refine bodyPost_ret (v := .tuple #[.agg #[.bool false, .slice A7 n7 c7, .slice A8 n8 c8], .int .i64 0]) (by simp [results, Tryd.results8, go_sem, r0, r1, r2]) rfl ?_
      exact ⟨_, _, _, _, _, _, _, rfl, q9.put3 ⟨_, _, _, _, _, _, _, B9⟩, below_put3 (bb hb0 x8) (by omega) (Nat.le_refl _) _ _ _⟩
  · rw [Bool.true_and] at ng
    by_cases hodd : k % 2 = 1
    · rw [decide_eq_true hodd] at ng
      have HQ := Lib.hid (hq true ng.symm)
      have em : (k : Int) % 2 = 1 := by omega
      have et : Int.tmod (k : Int) 2 = 1 := by rw [Int.tmod_eq_emod_of_nonneg (by omega)]; exact em
      have en : k % 2 = 1 := by omega
      clear hq ng hodd
      go_enter Tryd.func8, Tryd.ntmps8
      go_wp2_with fail
      rw [HW.out]
      clear HW
      have HS := Lib.hid (fun (w' : World) (hb : Below V.heap.size V w') => (HBp.out.below' hb).three.1)
      obtain ⟨k0, k1, k2⟩ := HS.out _ (Below.refl _ V)
      go_region_held3 (fun w' => w'.cell? ⟨w.heap.size, 0, none⟩ = some (.bool true) ∧ w'.cell? ⟨w.heap.size, 1, none⟩ = some (.slice A n c) ∧ w'.cell? ⟨w.heap.size, 2, none⟩ = some (.slice A' n' c')) (first | exact HS.out _ (Below.refl _ V).drew | exact HS4.out | exact HS.out _ x8 | exact HS.out _ b7 | fail)
        (first
          | (go_at_call 23; (with_reducible refine (HP1.out _ ?h1nb).mono ?_); (case h1nb => (have hh := g1; exact hh)); rintro _ w7 ⟨A7, n7, c7, rfl, t7, b7⟩; have b7 := Below.undrew b7)
          | (go_at_call 23; (with_reducible refine (HP2.out _ (g2.below b7)).mono ?_); rintro _ w8 ⟨A8, n8, c8, rfl, t8, b8⟩; have x8 := bb b7 b8; have q9 := HQ.out _ _ _ _ _ _ _ (t7.below b8) t8; have HS4 := Lib.hid ((HBp.out.below' x8).put3 (show w.heap.size ≠ w.heap.size + 1 by omega) (.bool true) (.slice A7 n7 c7) (.slice A8 n8 c8)).three.1; have B9 := HBr.out.below' x8; obtain ⟨⟨r0, r1, r2⟩, f0, f1, f2⟩ := B9.three))
      all_goals
        go_wp2_with fail
        refine bodyPost_ret (v := .tuple #[.agg #[.bool true, .slice A7 n7 c7, .slice A8 n8 c8], .int .i64 0]) (by simp [results, Tryd.results8, go_sem, r0, r1, r2]) rfl ?_
        exact ⟨_, _, _, _, _, _, _, rfl, q9.put3 ⟨_, _, _, _, _, _, _, B9⟩, below_put3 (bb hb0 x8) (by omega) (Nat.le_refl _) _ _ _⟩
    · rw [decide_eq_false hodd] at ng
      have HQ := Lib.hid (hq false ng.symm)
      have em : (k : Int) % 2 = 0 := by omega
      have et : Int.tmod (k : Int) 2 = 0 := by rw [Int.tmod_eq_emod_of_nonneg (by omega)]; exact em
      have en : k % 2 = 0 := by omega
      clear hq ng hodd
      go_enter Tryd.func8, Tryd.ntmps8
      go_wp2_with fail
      rw [HW.out]
      clear HW
      have HS := Lib.hid (fun (w' : World) (hb : Below V.heap.size V w') => (HBp.out.below' hb).three.1)
      obtain ⟨k0, k1, k2⟩ := HS.out _ (Below.refl _ V)
      go_region_held3 (fun w' => w'.cell? ⟨w.heap.size, 0, none⟩ = some (.bool true) ∧ w'.cell? ⟨w.heap.size, 1, none⟩ = some (.slice A n c) ∧ w'.cell? ⟨w.heap.size, 2, none⟩ = some (.slice A' n' c')) (first | exact HS.out _ (Below.refl _ V).drew | exact HS4.out | exact HS.out _ x8 | exact HS.out _ b7 | fail)
        (first
          | (go_at_call 23; (with_reducible refine (HP1.out _ ?h1nc).mono ?_); (case h1nc => (have hh := g1; exact hh)); rintro _ w7 ⟨A7, n7, c7, rfl, t7, b7⟩; have b7 := Below.undrew b7)
          | (go_at_call 23; (with_reducible refine (HP2.out _ (g2.below b7)).mono ?_); rintro _ w8 ⟨A8, n8, c8, rfl, t8, b8⟩; have x8 := bb b7 b8; have q9 := HQ.out _ _ _ _ _ _ _ (t7.below b8) t8; have HS4 := Lib.hid ((HBp.out.below' x8).put3 (show w.heap.size ≠ w.heap.size + 1 by omega) (.bool false) (.slice A7 n7 c7) (.slice A8 n8 c8)).three.1; have B9 := HBr.out.below' x8; obtain ⟨⟨r0, r1, r2⟩, f0, f1, f2⟩ := B9.three))
      all_goals
        go_wp2_with fail
        refine bodyPost_ret (v := .tuple #[.agg #[.bool false, .slice A7 n7 c7, .slice A8 n8 c8], .int .i64 0]) (by simp [results, Tryd.results8, go_sem, r0, r1, r2]) rfl ?_
        exact ⟨_, _, _, _, _, _, _, rfl, q9.put3 ⟨_, _, _, _, _, _, _, B9⟩, below_put3 (bb hb0 x8) (by omega) (Nat.le_refl _) _ _ _⟩

end Go.Proofs.YtnheefhbchkbdaaDoor
