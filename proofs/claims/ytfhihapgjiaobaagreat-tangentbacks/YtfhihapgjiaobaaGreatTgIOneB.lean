/-
  What tangent.handOn returns. Conditions: the numbers that are handed on have at most 64 words, those of the row at most N.
-/
import Derived.Test.YtfhihapgjiaobaaGreatTgHOneB
namespace Go.Proofs.YtfhihapgjiaobaaGreat
set_option maxRecDepth 100000
open Go.RowKit
set_option linter.unusedVariables false
set_option linter.unusedSimpArgs false

theorem Keep.drew' {g : Nat} {w : World} : Keep g w w.drew := (Keep.refl g w).drew
theorem keep_cell {g b i : Nat} {w w' : World} (k : Keep g w w') (hb : b < w.heap.size) (hne : b ≠ g) : w'.cell? ⟨b, i, none⟩ = w.cell? ⟨b, i, none⟩ := World.cell?_of_block (a := ⟨b, i, none⟩) (k.block b hb hne)
theorem addAt_sz {N : Nat} {Xs : List Rat} {i : Nat} {X : Rat} (h : AllSz N Xs) (hN : 0 < N) (hX : Sz X 257) : AllSz (N + 258) (addAt Xs i X) := by
  intro Y hY
  unfold addAt at hY
  obtain ⟨j, hj⟩ := List.mem_iff_getElem?.1 hY
  rw [List.getElem?_set] at hj
  by_cases e : i = j
  · rw [if_pos e] at hj
    split at hj
    · injection hj with hj
      rw [← hj]
      exact ((getD_sz h hN i).add hX).mono (by omega)
    · cases hj
  · rw [if_neg e] at hj
    exact (h Y (List.mem_of_getElem? hj)).mono (by omega)

set_option maxRecDepth 100000 in
set_option maxHeartbeats 8000000 in
theorem ho_const {w : World} {A : Option Addr} {n c B g l cap N : Nat} {v Xs : List Rat} {q : RQ} {s_y : Bool} {A_y D_y : Option Addr} {n_y c_y m_y d_y : Nat} {Y : Rat} {s_g : Bool} {A_g D_g : Option Addr} {n_g c_g m_g d_g : Nat} {G : Rat} {i : Nat} {b : Int} (q_y : Q w s_y A_y n_y c_y D_y m_y d_y Y) (z_y : Sz Y 64) (q_g : Q w s_g A_g n_g c_g D_g m_g d_g G) (z_g : Sz G 64) (hv : SlQ w A n c v) (zv : AllSz 64 v) (hne : ∀ b off, A = some ⟨b, off, none⟩ → b ≠ g) (o0 : OwnQ B w (.slice (some ⟨g, 0, none⟩) l cap) Xs) (zX : AllSz N Xs) (hN1 : 300 ≤ N) (hN : N ≤ 39000) (hl : l ≤ n) (hn : n ≤ 65536) (hi : i < l) :
    Calls Tryz.prog 36 #[.agg #[.int .i64 2, .int .i64 (i : Int), .int .i64 b, .bool q.s, .slice q.A q.n q.c, .slice q.A' q.n' q.c'], .agg #[.bool s_y, .slice A_y n_y c_y, .slice D_y m_y d_y], .agg #[.bool s_g, .slice A_g n_g c_g, .slice D_g m_g d_g], .slice A n c, .slice (some ⟨g, 0, none⟩) l cap] w (RetHand B g l cap (.ok Xs) w) := by

  have hlt := o0.lt.1
  have hlen := o0.lt.2.2
  have hi9 : (i : Int) < (n : Int) := by omega
  have hi8 : i < n := by omega
  obtain ⟨V, hW, Bx, By, Bg, hb0⟩ := boxes633 52 45 w #[.int .i64 2, .int .i64 (i : Int), .int .i64 b, .bool q.s, .slice q.A q.n q.c, .slice q.A' q.n' q.c'] #[.bool s_y, .slice A_y n_y c_y, .slice D_y m_y d_y] #[.bool s_g, .slice A_g n_g c_g, .slice D_g m_g d_g]
  have x0 : Keep g V V := Keep.refl g V
  have hz := hb0.size
  have O0 := o0.below hb0
  have hnw := O0.noW
  have hlx := Bx.lt
  have hly := By.lt
  have hlg := Bg.lt
  have hS : ∀ w', Keep g V w' → w'.cell? ⟨w.heap.size, 1, none⟩ = some (.int .i64 (i : Int)) ∧ w'.cell? ⟨w.heap.size + 1 + 1, 0, none⟩ = some (.bool s_g) ∧ w'.cell? ⟨w.heap.size + 1 + 1, 1, none⟩ = some (.slice A_g n_g c_g) ∧ w'.cell? ⟨w.heap.size + 1 + 1, 2, none⟩ = some (.slice D_g m_g d_g) := fun w' hk => ⟨(keep_cell hk hlx (by omega)).trans Bx.six.1.2.1, (keep_cell hk hlg (by omega)).trans Bg.three.1.1, (keep_cell hk hlg (by omega)).trans Bg.three.1.2.1, (keep_cell hk hlg (by omega)).trans Bg.three.1.2.2⟩
  have H_g := Lib.hid (fun (w1 : World) (hk : Keep g V w1) => (q_g.below hb0).keepN hnw hk)
  have HS := Lib.hid hS
  have HO0 := Lib.hid O0
  have HW := Lib.hid hW
  clear hS Bx By Bg hW hv hne q_y q_g O0 o0 
  go_enter Tryz.func36, Tryz.ntmps36
  go_wp2_with fail
  rw [HW.out]
  obtain ⟨p0, p1, p2, p3⟩ := HS.out _ x0
  go_wp2_with fail
  go_ret
  exact ⟨rfl, HO0.out, (Keep.of_below g hb0).trans x0⟩

set_option maxRecDepth 100000 in
set_option maxHeartbeats 8000000 in
theorem ho_neg {w : World} {A : Option Addr} {n c B g l cap N : Nat} {v Xs : List Rat} {q : RQ} {s_y : Bool} {A_y D_y : Option Addr} {n_y c_y m_y d_y : Nat} {Y : Rat} {s_g : Bool} {A_g D_g : Option Addr} {n_g c_g m_g d_g : Nat} {G : Rat} {i : Nat} {b : Int} (q_y : Q w s_y A_y n_y c_y D_y m_y d_y Y) (z_y : Sz Y 64) (q_g : Q w s_g A_g n_g c_g D_g m_g d_g G) (z_g : Sz G 64) (hv : SlQ w A n c v) (zv : AllSz 64 v) (hne : ∀ b off, A = some ⟨b, off, none⟩ → b ≠ g) (o0 : OwnQ B w (.slice (some ⟨g, 0, none⟩) l cap) Xs) (zX : AllSz N Xs) (hN1 : 300 ≤ N) (hN : N ≤ 39000) (hl : l ≤ n) (hn : n ≤ 65536) (hi : i < l) :
    Calls Tryz.prog 36 #[.agg #[.int .i64 3, .int .i64 (i : Int), .int .i64 b, .bool q.s, .slice q.A q.n q.c, .slice q.A' q.n' q.c'], .agg #[.bool s_y, .slice A_y n_y c_y, .slice D_y m_y d_y], .agg #[.bool s_g, .slice A_g n_g c_g, .slice D_g m_g d_g], .slice A n c, .slice (some ⟨g, 0, none⟩) l cap] w (RetHand B g l cap (.ok (addAt Xs i (-G))) w) := by

  have hlt := o0.lt.1
  have hlen := o0.lt.2.2
  have hi9 : (i : Int) < (n : Int) := by omega
  have hi8 : i < n := by omega
  obtain ⟨V, hW, Bx, By, Bg, hb0⟩ := boxes633 52 45 w #[.int .i64 3, .int .i64 (i : Int), .int .i64 b, .bool q.s, .slice q.A q.n q.c, .slice q.A' q.n' q.c'] #[.bool s_y, .slice A_y n_y c_y, .slice D_y m_y d_y] #[.bool s_g, .slice A_g n_g c_g, .slice D_g m_g d_g]
  have x0 : Keep g V V := Keep.refl g V
  have hz := hb0.size
  have O0 := o0.below hb0
  have hnw := O0.noW
  have hlx := Bx.lt
  have hly := By.lt
  have hlg := Bg.lt
  have hS : ∀ w', Keep g V w' → w'.cell? ⟨w.heap.size, 1, none⟩ = some (.int .i64 (i : Int)) ∧ w'.cell? ⟨w.heap.size + 1 + 1, 0, none⟩ = some (.bool s_g) ∧ w'.cell? ⟨w.heap.size + 1 + 1, 1, none⟩ = some (.slice A_g n_g c_g) ∧ w'.cell? ⟨w.heap.size + 1 + 1, 2, none⟩ = some (.slice D_g m_g d_g) := fun w' hk => ⟨(keep_cell hk hlx (by omega)).trans Bx.six.1.2.1, (keep_cell hk hlg (by omega)).trans Bg.three.1.1, (keep_cell hk hlg (by omega)).trans Bg.three.1.2.1, (keep_cell hk hlg (by omega)).trans Bg.three.1.2.2⟩
  have H_g := Lib.hid (fun (w1 : World) (hk : Keep g V w1) => (q_g.below hb0).keepN hnw hk)
  have HS := Lib.hid hS
  have HO0 := Lib.hid O0
  have HW := Lib.hid hW
  clear hS Bx By Bg hW hv hne q_y q_g O0 o0 
  go_enter Tryz.func36, Tryz.ntmps36
  go_wp2_with fail
  rw [HW.out]
  obtain ⟨p0, p1, p2, p3⟩ := HS.out _ x0
  go_wp2_with fail
  go_region_held3 (fun w' => w'.cell? ⟨w.heap.size, 1, none⟩ = some (.int .i64 (i : Int)) ∧ w'.cell? ⟨w.heap.size + 1 + 1, 0, none⟩ = some (.bool s_g) ∧ w'.cell? ⟨w.heap.size + 1 + 1, 1, none⟩ = some (.slice A_g n_g c_g) ∧ w'.cell? ⟨w.heap.size + 1 + 1, 2, none⟩ = some (.slice D_g m_g d_g)) (first | with_reducible exact HS.out _ (x0.trans Keep.drew') | with_reducible exact HS.out _ x2 | with_reducible exact HS.out _ x1 | fail)
    (first
      | (go_at_call 66; (with_reducible refine (rat_negE (H_g.out _ (x0.trans Keep.drew')) z_g (by omega)).mono ?_); rintro _ w1 ⟨s1, A1, n1, c1, E1, m1, d1, rfl, q1, b1⟩; have b1 := Below.undrew b1; have x1 : Keep g V w1 := x0.trans (Keep.of_below g b1))
      | (go_at_call 33; (with_reducible refine (tg_accumulate (N := N + 300) (HO0.out.below b1) hi q1 (z_g.neg.mono (by omega)) ((getD_sz zX (by omega) _).mono (by omega)) (by omega)).mono ?_); rintro _ w2 ⟨rfl, O2, k2⟩; have x2 : Keep g V w2 := x1.trans k2))
  obtain ⟨p0, p1, p2, p3⟩ := HS.out _ x2
  go_wp2_with fail
  go_ret
  exact ⟨rfl, O2, (Keep.of_below g hb0).trans x2⟩

set_option maxRecDepth 100000 in
set_option maxHeartbeats 8000000 in
theorem ho_add {w : World} {A : Option Addr} {n c B g l cap N : Nat} {v Xs : List Rat} {q : RQ} {s_y : Bool} {A_y D_y : Option Addr} {n_y c_y m_y d_y : Nat} {Y : Rat} {s_g : Bool} {A_g D_g : Option Addr} {n_g c_g m_g d_g : Nat} {G : Rat} {i j : Nat} (q_y : Q w s_y A_y n_y c_y D_y m_y d_y Y) (z_y : Sz Y 64) (q_g : Q w s_g A_g n_g c_g D_g m_g d_g G) (z_g : Sz G 64) (hv : SlQ w A n c v) (zv : AllSz 64 v) (hne : ∀ b off, A = some ⟨b, off, none⟩ → b ≠ g) (o0 : OwnQ B w (.slice (some ⟨g, 0, none⟩) l cap) Xs) (zX : AllSz N Xs) (hN1 : 300 ≤ N) (hN : N ≤ 39000) (hl : l ≤ n) (hn : n ≤ 65536) (hi : i < l) (hj : j < l) :
    Calls Tryz.prog 36 #[.agg #[.int .i64 4, .int .i64 (i : Int), .int .i64 (j : Int), .bool q.s, .slice q.A q.n q.c, .slice q.A' q.n' q.c'], .agg #[.bool s_y, .slice A_y n_y c_y, .slice D_y m_y d_y], .agg #[.bool s_g, .slice A_g n_g c_g, .slice D_g m_g d_g], .slice A n c, .slice (some ⟨g, 0, none⟩) l cap] w (RetHand B g l cap (.ok (addAt (addAt Xs i G) j G)) w) := by

  have hlt := o0.lt.1
  have hlen := o0.lt.2.2
  have hi9 : (i : Int) < (n : Int) := by omega
  have hi8 : i < n := by omega
  have hj9 : (j : Int) < (n : Int) := by omega
  have hj8 : j < n := by omega
  obtain ⟨V, hW, Bx, By, Bg, hb0⟩ := boxes633 52 45 w #[.int .i64 4, .int .i64 (i : Int), .int .i64 (j : Int), .bool q.s, .slice q.A q.n q.c, .slice q.A' q.n' q.c'] #[.bool s_y, .slice A_y n_y c_y, .slice D_y m_y d_y] #[.bool s_g, .slice A_g n_g c_g, .slice D_g m_g d_g]
  have x0 : Keep g V V := Keep.refl g V
  have hz := hb0.size
  have O0 := o0.below hb0
  have hnw := O0.noW
  have hlx := Bx.lt
  have hly := By.lt
  have hlg := Bg.lt
  have hS : ∀ w', Keep g V w' → w'.cell? ⟨w.heap.size, 1, none⟩ = some (.int .i64 (i : Int)) ∧ w'.cell? ⟨w.heap.size, 2, none⟩ = some (.int .i64 (j : Int)) ∧ w'.cell? ⟨w.heap.size + 1 + 1, 0, none⟩ = some (.bool s_g) ∧ w'.cell? ⟨w.heap.size + 1 + 1, 1, none⟩ = some (.slice A_g n_g c_g) ∧ w'.cell? ⟨w.heap.size + 1 + 1, 2, none⟩ = some (.slice D_g m_g d_g) := fun w' hk => ⟨(keep_cell hk hlx (by omega)).trans Bx.six.1.2.1, (keep_cell hk hlx (by omega)).trans Bx.six.1.2.2.1, (keep_cell hk hlg (by omega)).trans Bg.three.1.1, (keep_cell hk hlg (by omega)).trans Bg.three.1.2.1, (keep_cell hk hlg (by omega)).trans Bg.three.1.2.2⟩
  have H_g := Lib.hid (fun (w1 : World) (hk : Keep g V w1) => (q_g.below hb0).keepN hnw hk)
  have HS := Lib.hid hS
  have HO0 := Lib.hid O0
  have HW := Lib.hid hW
  clear hS Bx By Bg hW hv hne q_y q_g O0 o0 
  go_enter Tryz.func36, Tryz.ntmps36
  go_wp2_with fail
  rw [HW.out]
  obtain ⟨p0, p1, p2, p3, p4⟩ := HS.out _ x0
  go_wp2_with fail
  with_reducible refine (tg_accumulate (N := N + 300) HO0.out hi (H_g.out _ x0) (z_g.mono (by omega)) ((getD_sz zX (by omega) _).mono (by omega)) (by omega)).mono ?_
  rintro _ w1 ⟨rfl, O1, k1⟩
  have x1 : Keep g V w1 := x0.trans k1
  obtain ⟨p0, p1, p2, p3, p4⟩ := HS.out _ x1
  go_wp2_with fail
  with_reducible refine (tg_accumulate (N := (N + 258) + 300) O1 hj (H_g.out _ x1) (z_g.mono (by omega)) ((getD_sz (addAt_sz zX (by omega) (z_g.mono (by omega))) (by omega) _).mono (by omega)) (by omega)).mono ?_
  rintro _ w2 ⟨rfl, O2, k2⟩
  have x2 : Keep g V w2 := x1.trans k2
  obtain ⟨p0, p1, p2, p3, p4⟩ := HS.out _ x2
  go_wp2_with fail
  go_ret
  exact ⟨rfl, O2, (Keep.of_below g hb0).trans x2⟩

set_option maxRecDepth 100000 in
set_option maxHeartbeats 8000000 in
theorem ho_sub {w : World} {A : Option Addr} {n c B g l cap N : Nat} {v Xs : List Rat} {q : RQ} {s_y : Bool} {A_y D_y : Option Addr} {n_y c_y m_y d_y : Nat} {Y : Rat} {s_g : Bool} {A_g D_g : Option Addr} {n_g c_g m_g d_g : Nat} {G : Rat} {i j : Nat} (q_y : Q w s_y A_y n_y c_y D_y m_y d_y Y) (z_y : Sz Y 64) (q_g : Q w s_g A_g n_g c_g D_g m_g d_g G) (z_g : Sz G 64) (hv : SlQ w A n c v) (zv : AllSz 64 v) (hne : ∀ b off, A = some ⟨b, off, none⟩ → b ≠ g) (o0 : OwnQ B w (.slice (some ⟨g, 0, none⟩) l cap) Xs) (zX : AllSz N Xs) (hN1 : 300 ≤ N) (hN : N ≤ 39000) (hl : l ≤ n) (hn : n ≤ 65536) (hi : i < l) (hj : j < l) :
    Calls Tryz.prog 36 #[.agg #[.int .i64 5, .int .i64 (i : Int), .int .i64 (j : Int), .bool q.s, .slice q.A q.n q.c, .slice q.A' q.n' q.c'], .agg #[.bool s_y, .slice A_y n_y c_y, .slice D_y m_y d_y], .agg #[.bool s_g, .slice A_g n_g c_g, .slice D_g m_g d_g], .slice A n c, .slice (some ⟨g, 0, none⟩) l cap] w (RetHand B g l cap (.ok (addAt (addAt Xs i G) j (-G))) w) := by

  have hlt := o0.lt.1
  have hlen := o0.lt.2.2
  have hi9 : (i : Int) < (n : Int) := by omega
  have hi8 : i < n := by omega
  have hj9 : (j : Int) < (n : Int) := by omega
  have hj8 : j < n := by omega
  obtain ⟨V, hW, Bx, By, Bg, hb0⟩ := boxes633 52 45 w #[.int .i64 5, .int .i64 (i : Int), .int .i64 (j : Int), .bool q.s, .slice q.A q.n q.c, .slice q.A' q.n' q.c'] #[.bool s_y, .slice A_y n_y c_y, .slice D_y m_y d_y] #[.bool s_g, .slice A_g n_g c_g, .slice D_g m_g d_g]
  have x0 : Keep g V V := Keep.refl g V
  have hz := hb0.size
  have O0 := o0.below hb0
  have hnw := O0.noW
  have hlx := Bx.lt
  have hly := By.lt
  have hlg := Bg.lt
  have hS : ∀ w', Keep g V w' → w'.cell? ⟨w.heap.size, 1, none⟩ = some (.int .i64 (i : Int)) ∧ w'.cell? ⟨w.heap.size, 2, none⟩ = some (.int .i64 (j : Int)) ∧ w'.cell? ⟨w.heap.size + 1 + 1, 0, none⟩ = some (.bool s_g) ∧ w'.cell? ⟨w.heap.size + 1 + 1, 1, none⟩ = some (.slice A_g n_g c_g) ∧ w'.cell? ⟨w.heap.size + 1 + 1, 2, none⟩ = some (.slice D_g m_g d_g) := fun w' hk => ⟨(keep_cell hk hlx (by omega)).trans Bx.six.1.2.1, (keep_cell hk hlx (by omega)).trans Bx.six.1.2.2.1, (keep_cell hk hlg (by omega)).trans Bg.three.1.1, (keep_cell hk hlg (by omega)).trans Bg.three.1.2.1, (keep_cell hk hlg (by omega)).trans Bg.three.1.2.2⟩
  have H_g := Lib.hid (fun (w1 : World) (hk : Keep g V w1) => (q_g.below hb0).keepN hnw hk)
  have HS := Lib.hid hS
  have HO0 := Lib.hid O0
  have HW := Lib.hid hW
  clear hS Bx By Bg hW hv hne q_y q_g O0 o0 
  go_enter Tryz.func36, Tryz.ntmps36
  go_wp2_with fail
  rw [HW.out]
  obtain ⟨p0, p1, p2, p3, p4⟩ := HS.out _ x0
  go_wp2_with fail
  with_reducible refine (tg_accumulate (N := N + 300) HO0.out hi (H_g.out _ x0) (z_g.mono (by omega)) ((getD_sz zX (by omega) _).mono (by omega)) (by omega)).mono ?_
  rintro _ w1 ⟨rfl, O1, k1⟩
  have x1 : Keep g V w1 := x0.trans k1
  obtain ⟨p0, p1, p2, p3, p4⟩ := HS.out _ x1
  go_wp2_with fail
  go_region_held3 (fun w' => w'.cell? ⟨w.heap.size, 1, none⟩ = some (.int .i64 (i : Int)) ∧ w'.cell? ⟨w.heap.size, 2, none⟩ = some (.int .i64 (j : Int)) ∧ w'.cell? ⟨w.heap.size + 1 + 1, 0, none⟩ = some (.bool s_g) ∧ w'.cell? ⟨w.heap.size + 1 + 1, 1, none⟩ = some (.slice A_g n_g c_g) ∧ w'.cell? ⟨w.heap.size + 1 + 1, 2, none⟩ = some (.slice D_g m_g d_g)) (first | with_reducible exact HS.out _ (x1.trans Keep.drew') | with_reducible exact HS.out _ x3 | with_reducible exact HS.out _ x2 | fail)
    (first
      | (go_at_call 66; (with_reducible refine (rat_negE (H_g.out _ (x1.trans Keep.drew')) z_g (by omega)).mono ?_); rintro _ w2 ⟨s2, A2, n2, c2, E2, m2, d2, rfl, q2, b2⟩; have b2 := Below.undrew b2; have x2 : Keep g V w2 := x1.trans (Keep.of_below g b2))
      | (go_at_call 33; (with_reducible refine (tg_accumulate (N := (N + 258) + 300) (O1.below b2) hj q2 (z_g.neg.mono (by omega)) ((getD_sz (addAt_sz zX (by omega) (z_g.mono (by omega))) (by omega) _).mono (by omega)) (by omega)).mono ?_); rintro _ w3 ⟨rfl, O3, k3⟩; have x3 : Keep g V w3 := x2.trans k3))
  obtain ⟨p0, p1, p2, p3, p4⟩ := HS.out _ x3
  go_wp2_with fail
  go_ret
  exact ⟨rfl, O3, (Keep.of_below g hb0).trans x3⟩

set_option maxRecDepth 100000 in
set_option maxHeartbeats 8000000 in
theorem ho_mul {w : World} {A : Option Addr} {n c B g l cap N : Nat} {v Xs : List Rat} {q : RQ} {s_y : Bool} {A_y D_y : Option Addr} {n_y c_y m_y d_y : Nat} {Y : Rat} {s_g : Bool} {A_g D_g : Option Addr} {n_g c_g m_g d_g : Nat} {G : Rat} {i j : Nat} (q_y : Q w s_y A_y n_y c_y D_y m_y d_y Y) (z_y : Sz Y 64) (q_g : Q w s_g A_g n_g c_g D_g m_g d_g G) (z_g : Sz G 64) (hv : SlQ w A n c v) (zv : AllSz 64 v) (hne : ∀ b off, A = some ⟨b, off, none⟩ → b ≠ g) (o0 : OwnQ B w (.slice (some ⟨g, 0, none⟩) l cap) Xs) (zX : AllSz N Xs) (hN1 : 300 ≤ N) (hN : N ≤ 39000) (hl : l ≤ n) (hn : n ≤ 65536) (hi : i < l) (hj : j < l) :
    Calls Tryz.prog 36 #[.agg #[.int .i64 6, .int .i64 (i : Int), .int .i64 (j : Int), .bool q.s, .slice q.A q.n q.c, .slice q.A' q.n' q.c'], .agg #[.bool s_y, .slice A_y n_y c_y, .slice D_y m_y d_y], .agg #[.bool s_g, .slice A_g n_g c_g, .slice D_g m_g d_g], .slice A n c, .slice (some ⟨g, 0, none⟩) l cap] w (RetHand B g l cap (.ok (addAt (addAt Xs i (G * v.getD j 0)) j (G * v.getD i 0))) w) := by

  have hlt := o0.lt.1
  have hlen := o0.lt.2.2
  have hi9 : (i : Int) < (n : Int) := by omega
  have hi8 : i < n := by omega
  have hj9 : (j : Int) < (n : Int) := by omega
  have hj8 : j < n := by omega
  obtain ⟨g_va, o_va, s_va, A_va, n_va, c_va, D_va, m_va, d_va, eA, l_va, k0_va, k1_va, k2_va, q_va⟩ := hv.at_ (show i < n by omega)
  have ne_va := hne _ _ eA
  subst eA
  have z_va : Sz (v.getD i 0) 64 := zv.at_ (by have := hv.len; omega)
  obtain ⟨g_vb, o_vb, s_vb, A_vb, n_vb, c_vb, D_vb, m_vb, d_vb, e_vb, l_vb, k0_vb, k1_vb, k2_vb, q_vb⟩ := hv.at_ (show j < n by omega)
  injection e_vb with e_vb
  injection e_vb with e1 e2
  subst e1 e2
  clear l_vb
  have z_vb : Sz (v.getD j 0) 64 := zv.at_ (by have := hv.len; omega)
  obtain ⟨V, hW, Bx, By, Bg, hb0⟩ := boxes633 52 45 w #[.int .i64 6, .int .i64 (i : Int), .int .i64 (j : Int), .bool q.s, .slice q.A q.n q.c, .slice q.A' q.n' q.c'] #[.bool s_y, .slice A_y n_y c_y, .slice D_y m_y d_y] #[.bool s_g, .slice A_g n_g c_g, .slice D_g m_g d_g]
  have x0 : Keep g V V := Keep.refl g V
  have hz := hb0.size
  have O0 := o0.below hb0
  have hnw := O0.noW
  have hlx := Bx.lt
  have hly := By.lt
  have hlg := Bg.lt
  have hS : ∀ w', Keep g V w' → w'.cell? ⟨w.heap.size, 1, none⟩ = some (.int .i64 (i : Int)) ∧ w'.cell? ⟨w.heap.size, 2, none⟩ = some (.int .i64 (j : Int)) ∧ w'.cell? ⟨w.heap.size + 1 + 1, 0, none⟩ = some (.bool s_g) ∧ w'.cell? ⟨w.heap.size + 1 + 1, 1, none⟩ = some (.slice A_g n_g c_g) ∧ w'.cell? ⟨w.heap.size + 1 + 1, 2, none⟩ = some (.slice D_g m_g d_g) ∧ w'.cell? ⟨g_va, o_va + i * 3, none⟩ = some (.bool s_va) ∧ w'.cell? ⟨g_va, o_va + i * 3 + 1, none⟩ = some (.slice A_va n_va c_va) ∧ w'.cell? ⟨g_va, o_va + i * 3 + 2, none⟩ = some (.slice D_va m_va d_va) ∧ w'.cell? ⟨g_va, o_va + j * 3, none⟩ = some (.bool s_vb) ∧ w'.cell? ⟨g_va, o_va + j * 3 + 1, none⟩ = some (.slice A_vb n_vb c_vb) ∧ w'.cell? ⟨g_va, o_va + j * 3 + 2, none⟩ = some (.slice D_vb m_vb d_vb) := fun w' hk => ⟨(keep_cell hk hlx (by omega)).trans Bx.six.1.2.1, (keep_cell hk hlx (by omega)).trans Bx.six.1.2.2.1, (keep_cell hk hlg (by omega)).trans Bg.three.1.1, (keep_cell hk hlg (by omega)).trans Bg.three.1.2.1, (keep_cell hk hlg (by omega)).trans Bg.three.1.2.2, (keep_cell hk (by omega) ne_va).trans ((hb0.cell (p := ⟨g_va, o_va + i * 3, none⟩) l_va).trans k0_va), (keep_cell hk (by omega) ne_va).trans ((hb0.cell (p := ⟨g_va, o_va + i * 3 + 1, none⟩) l_va).trans k1_va), (keep_cell hk (by omega) ne_va).trans ((hb0.cell (p := ⟨g_va, o_va + i * 3 + 2, none⟩) l_va).trans k2_va), (keep_cell hk (by omega) ne_va).trans ((hb0.cell (p := ⟨g_va, o_va + j * 3, none⟩) l_va).trans k0_vb), (keep_cell hk (by omega) ne_va).trans ((hb0.cell (p := ⟨g_va, o_va + j * 3 + 1, none⟩) l_va).trans k1_vb), (keep_cell hk (by omega) ne_va).trans ((hb0.cell (p := ⟨g_va, o_va + j * 3 + 2, none⟩) l_va).trans k2_vb)⟩
  have H_g := Lib.hid (fun (w1 : World) (hk : Keep g V w1) => (q_g.below hb0).keepN hnw hk)
  have H_va := Lib.hid (fun (w1 : World) (hk : Keep g V w1) => (q_va.below hb0).keepN hnw hk)
  have H_vb := Lib.hid (fun (w1 : World) (hk : Keep g V w1) => (q_vb.below hb0).keepN hnw hk)
  generalize v.getD i 0 = X_va at *
  generalize v.getD j 0 = X_vb at *
  have HS := Lib.hid hS
  have HO0 := Lib.hid O0
  have HW := Lib.hid hW
  clear hS Bx By Bg hW hv hne q_y q_g O0 o0 q_va k0_va k1_va k2_va q_vb k0_vb k1_vb k2_vb
  go_enter Tryz.func36, Tryz.ntmps36
  go_wp2_with fail
  rw [HW.out]
  obtain ⟨p0, p1, p2, p3, p4, p5, p6, p7, p8, p9, p10⟩ := HS.out _ x0
  go_wp2_with fail
  go_region_held3 (fun w' => w'.cell? ⟨w.heap.size, 1, none⟩ = some (.int .i64 (i : Int)) ∧ w'.cell? ⟨w.heap.size, 2, none⟩ = some (.int .i64 (j : Int)) ∧ w'.cell? ⟨w.heap.size + 1 + 1, 0, none⟩ = some (.bool s_g) ∧ w'.cell? ⟨w.heap.size + 1 + 1, 1, none⟩ = some (.slice A_g n_g c_g) ∧ w'.cell? ⟨w.heap.size + 1 + 1, 2, none⟩ = some (.slice D_g m_g d_g) ∧ w'.cell? ⟨g_va, o_va + i * 3, none⟩ = some (.bool s_va) ∧ w'.cell? ⟨g_va, o_va + i * 3 + 1, none⟩ = some (.slice A_va n_va c_va) ∧ w'.cell? ⟨g_va, o_va + i * 3 + 2, none⟩ = some (.slice D_va m_va d_va) ∧ w'.cell? ⟨g_va, o_va + j * 3, none⟩ = some (.bool s_vb) ∧ w'.cell? ⟨g_va, o_va + j * 3 + 1, none⟩ = some (.slice A_vb n_vb c_vb) ∧ w'.cell? ⟨g_va, o_va + j * 3 + 2, none⟩ = some (.slice D_vb m_vb d_vb)) (first | with_reducible exact HS.out _ (x0.trans Keep.drew') | with_reducible exact HS.out _ x2 | with_reducible exact HS.out _ x1 | fail)
    (first
      | (go_at_call 19; (with_reducible refine (rat_mul (H_g.out _ (x0.trans Keep.drew')) (H_vb.out _ (x0.trans Keep.drew')) z_g z_vb (by omega)).mono ?_); rintro _ w1 ⟨s1, A1, n1, c1, E1, m1, d1, rfl, q1, b1⟩; have b1 := Below.undrew b1; have x1 : Keep g V w1 := x0.trans (Keep.of_below g b1))
      | (go_at_call 33; (with_reducible refine (tg_accumulate (N := N + 300) (HO0.out.below b1) hi q1 ((z_g.mul z_vb).mono (by omega)) ((getD_sz zX (by omega) _).mono (by omega)) (by omega)).mono ?_); rintro _ w2 ⟨rfl, O2, k2⟩; have x2 : Keep g V w2 := x1.trans k2))
  obtain ⟨p0, p1, p2, p3, p4, p5, p6, p7, p8, p9, p10⟩ := HS.out _ x2
  go_wp2_with fail
  go_region_held3 (fun w' => w'.cell? ⟨w.heap.size, 1, none⟩ = some (.int .i64 (i : Int)) ∧ w'.cell? ⟨w.heap.size, 2, none⟩ = some (.int .i64 (j : Int)) ∧ w'.cell? ⟨w.heap.size + 1 + 1, 0, none⟩ = some (.bool s_g) ∧ w'.cell? ⟨w.heap.size + 1 + 1, 1, none⟩ = some (.slice A_g n_g c_g) ∧ w'.cell? ⟨w.heap.size + 1 + 1, 2, none⟩ = some (.slice D_g m_g d_g) ∧ w'.cell? ⟨g_va, o_va + i * 3, none⟩ = some (.bool s_va) ∧ w'.cell? ⟨g_va, o_va + i * 3 + 1, none⟩ = some (.slice A_va n_va c_va) ∧ w'.cell? ⟨g_va, o_va + i * 3 + 2, none⟩ = some (.slice D_va m_va d_va) ∧ w'.cell? ⟨g_va, o_va + j * 3, none⟩ = some (.bool s_vb) ∧ w'.cell? ⟨g_va, o_va + j * 3 + 1, none⟩ = some (.slice A_vb n_vb c_vb) ∧ w'.cell? ⟨g_va, o_va + j * 3 + 2, none⟩ = some (.slice D_vb m_vb d_vb)) (first | with_reducible exact HS.out _ (x2.trans Keep.drew') | with_reducible exact HS.out _ x4 | with_reducible exact HS.out _ x3 | fail)
    (first
      | (go_at_call 19; (with_reducible refine (rat_mul (H_g.out _ (x2.trans Keep.drew')) (H_va.out _ (x2.trans Keep.drew')) z_g z_va (by omega)).mono ?_); rintro _ w3 ⟨s3, A3, n3, c3, E3, m3, d3, rfl, q3, b3⟩; have b3 := Below.undrew b3; have x3 : Keep g V w3 := x2.trans (Keep.of_below g b3))
      | (go_at_call 33; (with_reducible refine (tg_accumulate (N := (N + 258) + 300) (O2.below b3) hj q3 ((z_g.mul z_va).mono (by omega)) ((getD_sz (addAt_sz zX (by omega) ((z_g.mul z_vb).mono (by omega))) (by omega) _).mono (by omega)) (by omega)).mono ?_); rintro _ w4 ⟨rfl, O4, k4⟩; have x4 : Keep g V w4 := x3.trans k4))
  obtain ⟨p0, p1, p2, p3, p4, p5, p6, p7, p8, p9, p10⟩ := HS.out _ x4
  go_wp2_with fail
  go_ret
  exact ⟨rfl, O4, (Keep.of_below g hb0).trans x4⟩

set_option maxRecDepth 100000 in
set_option maxHeartbeats 8000000 in
theorem ho_exp {w : World} {A : Option Addr} {n c B g l cap N : Nat} {v Xs : List Rat} {q : RQ} {s_y : Bool} {A_y D_y : Option Addr} {n_y c_y m_y d_y : Nat} {Y : Rat} {s_g : Bool} {A_g D_g : Option Addr} {n_g c_g m_g d_g : Nat} {G : Rat} {i : Nat} {b : Int} (q_y : Q w s_y A_y n_y c_y D_y m_y d_y Y) (z_y : Sz Y 64) (q_g : Q w s_g A_g n_g c_g D_g m_g d_g G) (z_g : Sz G 64) (hv : SlQ w A n c v) (zv : AllSz 64 v) (hne : ∀ b off, A = some ⟨b, off, none⟩ → b ≠ g) (o0 : OwnQ B w (.slice (some ⟨g, 0, none⟩) l cap) Xs) (zX : AllSz N Xs) (hN1 : 300 ≤ N) (hN : N ≤ 39000) (hl : l ≤ n) (hn : n ≤ 65536) (hi : i < l) :
    Calls Tryz.prog 36 #[.agg #[.int .i64 9, .int .i64 (i : Int), .int .i64 b, .bool q.s, .slice q.A q.n q.c, .slice q.A' q.n' q.c'], .agg #[.bool s_y, .slice A_y n_y c_y, .slice D_y m_y d_y], .agg #[.bool s_g, .slice A_g n_g c_g, .slice D_g m_g d_g], .slice A n c, .slice (some ⟨g, 0, none⟩) l cap] w (RetHand B g l cap (.ok (addAt Xs i (G * Y))) w) := by

  have hlt := o0.lt.1
  have hlen := o0.lt.2.2
  have hi9 : (i : Int) < (n : Int) := by omega
  have hi8 : i < n := by omega
  obtain ⟨V, hW, Bx, By, Bg, hb0⟩ := boxes633 52 45 w #[.int .i64 9, .int .i64 (i : Int), .int .i64 b, .bool q.s, .slice q.A q.n q.c, .slice q.A' q.n' q.c'] #[.bool s_y, .slice A_y n_y c_y, .slice D_y m_y d_y] #[.bool s_g, .slice A_g n_g c_g, .slice D_g m_g d_g]
  have x0 : Keep g V V := Keep.refl g V
  have hz := hb0.size
  have O0 := o0.below hb0
  have hnw := O0.noW
  have hlx := Bx.lt
  have hly := By.lt
  have hlg := Bg.lt
  have hS : ∀ w', Keep g V w' → w'.cell? ⟨w.heap.size, 1, none⟩ = some (.int .i64 (i : Int)) ∧ w'.cell? ⟨w.heap.size + 1 + 1, 0, none⟩ = some (.bool s_g) ∧ w'.cell? ⟨w.heap.size + 1 + 1, 1, none⟩ = some (.slice A_g n_g c_g) ∧ w'.cell? ⟨w.heap.size + 1 + 1, 2, none⟩ = some (.slice D_g m_g d_g) ∧ w'.cell? ⟨w.heap.size + 1, 0, none⟩ = some (.bool s_y) ∧ w'.cell? ⟨w.heap.size + 1, 1, none⟩ = some (.slice A_y n_y c_y) ∧ w'.cell? ⟨w.heap.size + 1, 2, none⟩ = some (.slice D_y m_y d_y) := fun w' hk => ⟨(keep_cell hk hlx (by omega)).trans Bx.six.1.2.1, (keep_cell hk hlg (by omega)).trans Bg.three.1.1, (keep_cell hk hlg (by omega)).trans Bg.three.1.2.1, (keep_cell hk hlg (by omega)).trans Bg.three.1.2.2, (keep_cell hk hly (by omega)).trans By.three.1.1, (keep_cell hk hly (by omega)).trans By.three.1.2.1, (keep_cell hk hly (by omega)).trans By.three.1.2.2⟩
  have H_g := Lib.hid (fun (w1 : World) (hk : Keep g V w1) => (q_g.below hb0).keepN hnw hk)
  have H_y := Lib.hid (fun (w1 : World) (hk : Keep g V w1) => (q_y.below hb0).keepN hnw hk)
  have HS := Lib.hid hS
  have HO0 := Lib.hid O0
  have HW := Lib.hid hW
  clear hS Bx By Bg hW hv hne q_y q_g O0 o0 
  go_enter Tryz.func36, Tryz.ntmps36
  go_wp2_with fail
  rw [HW.out]
  obtain ⟨p0, p1, p2, p3, p4, p5, p6⟩ := HS.out _ x0
  go_wp2_with fail
  go_region_held3 (fun w' => w'.cell? ⟨w.heap.size, 1, none⟩ = some (.int .i64 (i : Int)) ∧ w'.cell? ⟨w.heap.size + 1 + 1, 0, none⟩ = some (.bool s_g) ∧ w'.cell? ⟨w.heap.size + 1 + 1, 1, none⟩ = some (.slice A_g n_g c_g) ∧ w'.cell? ⟨w.heap.size + 1 + 1, 2, none⟩ = some (.slice D_g m_g d_g) ∧ w'.cell? ⟨w.heap.size + 1, 0, none⟩ = some (.bool s_y) ∧ w'.cell? ⟨w.heap.size + 1, 1, none⟩ = some (.slice A_y n_y c_y) ∧ w'.cell? ⟨w.heap.size + 1, 2, none⟩ = some (.slice D_y m_y d_y)) (first | with_reducible exact HS.out _ (x0.trans Keep.drew') | with_reducible exact HS.out _ x2 | with_reducible exact HS.out _ x1 | fail)
    (first
      | (go_at_call 19; (with_reducible refine (rat_mul (H_g.out _ (x0.trans Keep.drew')) (H_y.out _ (x0.trans Keep.drew')) z_g z_y (by omega)).mono ?_); rintro _ w1 ⟨s1, A1, n1, c1, E1, m1, d1, rfl, q1, b1⟩; have b1 := Below.undrew b1; have x1 : Keep g V w1 := x0.trans (Keep.of_below g b1))
      | (go_at_call 33; (with_reducible refine (tg_accumulate (N := N + 300) (HO0.out.below b1) hi q1 ((z_g.mul z_y).mono (by omega)) ((getD_sz zX (by omega) _).mono (by omega)) (by omega)).mono ?_); rintro _ w2 ⟨rfl, O2, k2⟩; have x2 : Keep g V w2 := x1.trans k2))
  obtain ⟨p0, p1, p2, p3, p4, p5, p6⟩ := HS.out _ x2
  go_wp2_with fail
  go_ret
  exact ⟨rfl, O2, (Keep.of_below g hb0).trans x2⟩

set_option maxRecDepth 100000 in
set_option maxHeartbeats 8000000 in
theorem ho_sqrt {w : World} {A : Option Addr} {n c B g l cap N : Nat} {v Xs : List Rat} {q : RQ} {s_y : Bool} {A_y D_y : Option Addr} {n_y c_y m_y d_y : Nat} {Y : Rat} {s_g : Bool} {A_g D_g : Option Addr} {n_g c_g m_g d_g : Nat} {G : Rat} {i : Nat} {b : Int} (q_y : Q w s_y A_y n_y c_y D_y m_y d_y Y) (z_y : Sz Y 64) (q_g : Q w s_g A_g n_g c_g D_g m_g d_g G) (z_g : Sz G 64) (hv : SlQ w A n c v) (zv : AllSz 64 v) (hne : ∀ b off, A = some ⟨b, off, none⟩ → b ≠ g) (o0 : OwnQ B w (.slice (some ⟨g, 0, none⟩) l cap) Xs) (zX : AllSz N Xs) (hN1 : 300 ≤ N) (hN : N ≤ 39000) (hl : l ≤ n) (hn : n ≤ 65536) (hi : i < l) (h0 : Y + Y ≠ 0) :
    Calls Tryz.prog 36 #[.agg #[.int .i64 8, .int .i64 (i : Int), .int .i64 b, .bool q.s, .slice q.A q.n q.c, .slice q.A' q.n' q.c'], .agg #[.bool s_y, .slice A_y n_y c_y, .slice D_y m_y d_y], .agg #[.bool s_g, .slice A_g n_g c_g, .slice D_g m_g d_g], .slice A n c, .slice (some ⟨g, 0, none⟩) l cap] w (RetHand B g l cap (.ok (addAt Xs i (G / (Y + Y)))) w) := by

  have hlt := o0.lt.1
  have hlen := o0.lt.2.2
  have hi9 : (i : Int) < (n : Int) := by omega
  have hi8 : i < n := by omega
  obtain ⟨V, hW, Bx, By, Bg, hb0⟩ := boxes633 52 45 w #[.int .i64 8, .int .i64 (i : Int), .int .i64 b, .bool q.s, .slice q.A q.n q.c, .slice q.A' q.n' q.c'] #[.bool s_y, .slice A_y n_y c_y, .slice D_y m_y d_y] #[.bool s_g, .slice A_g n_g c_g, .slice D_g m_g d_g]
  have x0 : Keep g V V := Keep.refl g V
  have hz := hb0.size
  have O0 := o0.below hb0
  have hnw := O0.noW
  have hlx := Bx.lt
  have hly := By.lt
  have hlg := Bg.lt
  have hS : ∀ w', Keep g V w' → w'.cell? ⟨w.heap.size, 1, none⟩ = some (.int .i64 (i : Int)) ∧ w'.cell? ⟨w.heap.size + 1 + 1, 0, none⟩ = some (.bool s_g) ∧ w'.cell? ⟨w.heap.size + 1 + 1, 1, none⟩ = some (.slice A_g n_g c_g) ∧ w'.cell? ⟨w.heap.size + 1 + 1, 2, none⟩ = some (.slice D_g m_g d_g) ∧ w'.cell? ⟨w.heap.size + 1, 0, none⟩ = some (.bool s_y) ∧ w'.cell? ⟨w.heap.size + 1, 1, none⟩ = some (.slice A_y n_y c_y) ∧ w'.cell? ⟨w.heap.size + 1, 2, none⟩ = some (.slice D_y m_y d_y) := fun w' hk => ⟨(keep_cell hk hlx (by omega)).trans Bx.six.1.2.1, (keep_cell hk hlg (by omega)).trans Bg.three.1.1, (keep_cell hk hlg (by omega)).trans Bg.three.1.2.1, (keep_cell hk hlg (by omega)).trans Bg.three.1.2.2, (keep_cell hk hly (by omega)).trans By.three.1.1, (keep_cell hk hly (by omega)).trans By.three.1.2.1, (keep_cell hk hly (by omega)).trans By.three.1.2.2⟩
  have H_g := Lib.hid (fun (w1 : World) (hk : Keep g V w1) => (q_g.below hb0).keepN hnw hk)
  have H_y := Lib.hid (fun (w1 : World) (hk : Keep g V w1) => (q_y.below hb0).keepN hnw hk)
  have HN := Lib.hid h0
  clear h0
  have HS := Lib.hid hS
  have HO0 := Lib.hid O0
  have HW := Lib.hid hW
  clear hS Bx By Bg hW hv hne q_y q_g O0 o0 
  go_enter Tryz.func36, Tryz.ntmps36
  go_wp2_with fail
  rw [HW.out]
  obtain ⟨p0, p1, p2, p3, p4, p5, p6⟩ := HS.out _ x0
  go_wp2_with fail
  go_region_held3 (fun w' => w'.cell? ⟨w.heap.size, 1, none⟩ = some (.int .i64 (i : Int)) ∧ w'.cell? ⟨w.heap.size + 1 + 1, 0, none⟩ = some (.bool s_g) ∧ w'.cell? ⟨w.heap.size + 1 + 1, 1, none⟩ = some (.slice A_g n_g c_g) ∧ w'.cell? ⟨w.heap.size + 1 + 1, 2, none⟩ = some (.slice D_g m_g d_g) ∧ w'.cell? ⟨w.heap.size + 1, 0, none⟩ = some (.bool s_y) ∧ w'.cell? ⟨w.heap.size + 1, 1, none⟩ = some (.slice A_y n_y c_y) ∧ w'.cell? ⟨w.heap.size + 1, 2, none⟩ = some (.slice D_y m_y d_y)) (first | with_reducible exact HS.out _ (x0.trans Keep.drew') | with_reducible exact HS.out _ x2 | with_reducible exact HS.out _ x1 | fail)
    (first
      | (go_at_call 18; (with_reducible refine (rat_add (H_y.out _ (x0.trans Keep.drew')) (H_y.out _ (x0.trans Keep.drew')) z_y z_y (by omega)).mono ?_); rintro _ w1 ⟨s1, A1, n1, c1, E1, m1, d1, rfl, q1, b1⟩; have b1 := Below.undrew b1; have x1 : Keep g V w1 := x0.trans (Keep.of_below g b1))
      | (go_at_call 72; (with_reducible refine (tg_divideOn (N := N) (HO0.out.below b1) hi (H_g.out _ x1) q1 (z_g.mono (by omega)) (z_y.add z_y) (getD_sz zX (by omega) _) (by omega) (by omega) HN.out).mono ?_); rintro _ w2 ⟨rfl, O2, k2⟩; have x2 : Keep g V w2 := x1.trans k2))
  obtain ⟨p0, p1, p2, p3, p4, p5, p6⟩ := HS.out _ x2
  go_wp2_with fail
  go_ret
  exact ⟨rfl, O2, (Keep.of_below g hb0).trans x2⟩

set_option maxRecDepth 100000 in
set_option maxHeartbeats 8000000 in
theorem ho_log {w : World} {A : Option Addr} {n c B g l cap N : Nat} {v Xs : List Rat} {q : RQ} {s_y : Bool} {A_y D_y : Option Addr} {n_y c_y m_y d_y : Nat} {Y : Rat} {s_g : Bool} {A_g D_g : Option Addr} {n_g c_g m_g d_g : Nat} {G : Rat} {i : Nat} {b : Int} (q_y : Q w s_y A_y n_y c_y D_y m_y d_y Y) (z_y : Sz Y 64) (q_g : Q w s_g A_g n_g c_g D_g m_g d_g G) (z_g : Sz G 64) (hv : SlQ w A n c v) (zv : AllSz 64 v) (hne : ∀ b off, A = some ⟨b, off, none⟩ → b ≠ g) (o0 : OwnQ B w (.slice (some ⟨g, 0, none⟩) l cap) Xs) (zX : AllSz N Xs) (hN1 : 300 ≤ N) (hN : N ≤ 39000) (hl : l ≤ n) (hn : n ≤ 65536) (hi : i < l) (h0 : v.getD i 0 ≠ 0) :
    Calls Tryz.prog 36 #[.agg #[.int .i64 10, .int .i64 (i : Int), .int .i64 b, .bool q.s, .slice q.A q.n q.c, .slice q.A' q.n' q.c'], .agg #[.bool s_y, .slice A_y n_y c_y, .slice D_y m_y d_y], .agg #[.bool s_g, .slice A_g n_g c_g, .slice D_g m_g d_g], .slice A n c, .slice (some ⟨g, 0, none⟩) l cap] w (RetHand B g l cap (.ok (addAt Xs i (G / v.getD i 0))) w) := by

  have hlt := o0.lt.1
  have hlen := o0.lt.2.2
  have hi9 : (i : Int) < (n : Int) := by omega
  have hi8 : i < n := by omega
  obtain ⟨g_va, o_va, s_va, A_va, n_va, c_va, D_va, m_va, d_va, eA, l_va, k0_va, k1_va, k2_va, q_va⟩ := hv.at_ (show i < n by omega)
  have ne_va := hne _ _ eA
  subst eA
  have z_va : Sz (v.getD i 0) 64 := zv.at_ (by have := hv.len; omega)
  obtain ⟨V, hW, Bx, By, Bg, hb0⟩ := boxes633 52 45 w #[.int .i64 10, .int .i64 (i : Int), .int .i64 b, .bool q.s, .slice q.A q.n q.c, .slice q.A' q.n' q.c'] #[.bool s_y, .slice A_y n_y c_y, .slice D_y m_y d_y] #[.bool s_g, .slice A_g n_g c_g, .slice D_g m_g d_g]
  have x0 : Keep g V V := Keep.refl g V
  have hz := hb0.size
  have O0 := o0.below hb0
  have hnw := O0.noW
  have hlx := Bx.lt
  have hly := By.lt
  have hlg := Bg.lt
  have hS : ∀ w', Keep g V w' → w'.cell? ⟨w.heap.size, 1, none⟩ = some (.int .i64 (i : Int)) ∧ w'.cell? ⟨w.heap.size + 1 + 1, 0, none⟩ = some (.bool s_g) ∧ w'.cell? ⟨w.heap.size + 1 + 1, 1, none⟩ = some (.slice A_g n_g c_g) ∧ w'.cell? ⟨w.heap.size + 1 + 1, 2, none⟩ = some (.slice D_g m_g d_g) ∧ w'.cell? ⟨g_va, o_va + i * 3, none⟩ = some (.bool s_va) ∧ w'.cell? ⟨g_va, o_va + i * 3 + 1, none⟩ = some (.slice A_va n_va c_va) ∧ w'.cell? ⟨g_va, o_va + i * 3 + 2, none⟩ = some (.slice D_va m_va d_va) := fun w' hk => ⟨(keep_cell hk hlx (by omega)).trans Bx.six.1.2.1, (keep_cell hk hlg (by omega)).trans Bg.three.1.1, (keep_cell hk hlg (by omega)).trans Bg.three.1.2.1, (keep_cell hk hlg (by omega)).trans Bg.three.1.2.2, (keep_cell hk (by omega) ne_va).trans ((hb0.cell (p := ⟨g_va, o_va + i * 3, none⟩) l_va).trans k0_va), (keep_cell hk (by omega) ne_va).trans ((hb0.cell (p := ⟨g_va, o_va + i * 3 + 1, none⟩) l_va).trans k1_va), (keep_cell hk (by omega) ne_va).trans ((hb0.cell (p := ⟨g_va, o_va + i * 3 + 2, none⟩) l_va).trans k2_va)⟩
  have H_g := Lib.hid (fun (w1 : World) (hk : Keep g V w1) => (q_g.below hb0).keepN hnw hk)
  have H_va := Lib.hid (fun (w1 : World) (hk : Keep g V w1) => (q_va.below hb0).keepN hnw hk)
  generalize v.getD i 0 = X_va at *
  have HN := Lib.hid h0
  clear h0
  have HS := Lib.hid hS
  have HO0 := Lib.hid O0
  have HW := Lib.hid hW
  clear hS Bx By Bg hW hv hne q_y q_g O0 o0 q_va k0_va k1_va k2_va
  go_enter Tryz.func36, Tryz.ntmps36
  go_wp2_with fail
  rw [HW.out]
  obtain ⟨p0, p1, p2, p3, p4, p5, p6⟩ := HS.out _ x0
  go_wp2_with fail
  go_region_held3 (fun w' => w'.cell? ⟨w.heap.size, 1, none⟩ = some (.int .i64 (i : Int)) ∧ w'.cell? ⟨w.heap.size + 1 + 1, 0, none⟩ = some (.bool s_g) ∧ w'.cell? ⟨w.heap.size + 1 + 1, 1, none⟩ = some (.slice A_g n_g c_g) ∧ w'.cell? ⟨w.heap.size + 1 + 1, 2, none⟩ = some (.slice D_g m_g d_g) ∧ w'.cell? ⟨g_va, o_va + i * 3, none⟩ = some (.bool s_va) ∧ w'.cell? ⟨g_va, o_va + i * 3 + 1, none⟩ = some (.slice A_va n_va c_va) ∧ w'.cell? ⟨g_va, o_va + i * 3 + 2, none⟩ = some (.slice D_va m_va d_va)) (first | with_reducible exact HS.out _ (x0.trans Keep.drew') | with_reducible exact HS.out _ x1 | fail)
    (first
      | (go_at_call 72; (with_reducible refine (tg_divideOn (N := N) (HO0.out.below (Below.refl _ _).drew) hi (H_g.out _ (x0.trans Keep.drew')) (H_va.out _ (x0.trans Keep.drew')) (z_g.mono (by omega)) (z_va.mono (by omega)) (getD_sz zX (by omega) _) (by omega) (by omega) HN.out).mono ?_); rintro _ w1 ⟨rfl, O1, k1⟩; have x1 : Keep g V w1 := (x0.trans Keep.drew').trans k1))
  obtain ⟨p0, p1, p2, p3, p4, p5, p6⟩ := HS.out _ x1
  go_wp2_with fail
  go_ret
  exact ⟨rfl, O1, (Keep.of_below g hb0).trans x1⟩

set_option maxRecDepth 100000 in
set_option maxHeartbeats 8000000 in
theorem ho_sqrt_no {w : World} {A : Option Addr} {n c B g l cap N : Nat} {v Xs : List Rat} {q : RQ} {s_y : Bool} {A_y D_y : Option Addr} {n_y c_y m_y d_y : Nat} {Y : Rat} {s_g : Bool} {A_g D_g : Option Addr} {n_g c_g m_g d_g : Nat} {G : Rat} {i : Nat} {b : Int} (q_y : Q w s_y A_y n_y c_y D_y m_y d_y Y) (z_y : Sz Y 64) (q_g : Q w s_g A_g n_g c_g D_g m_g d_g G) (z_g : Sz G 64) (hv : SlQ w A n c v) (zv : AllSz 64 v) (hne : ∀ b off, A = some ⟨b, off, none⟩ → b ≠ g) (o0 : OwnQ B w (.slice (some ⟨g, 0, none⟩) l cap) Xs) (zX : AllSz N Xs) (hN1 : 300 ≤ N) (hN : N ≤ 39000) (hl : l ≤ n) (hn : n ≤ 65536) (hi : i < l) (h0 : Y + Y = 0) :
    Calls Tryz.prog 36 #[.agg #[.int .i64 8, .int .i64 (i : Int), .int .i64 b, .bool q.s, .slice q.A q.n q.c, .slice q.A' q.n' q.c'], .agg #[.bool s_y, .slice A_y n_y c_y, .slice D_y m_y d_y], .agg #[.bool s_g, .slice A_g n_g c_g, .slice D_g m_g d_g], .slice A n c, .slice (some ⟨g, 0, none⟩) l cap] w (RetHand B g l cap (.error 4) w) := by

  have hlt := o0.lt.1
  have hlen := o0.lt.2.2
  have hi9 : (i : Int) < (n : Int) := by omega
  have hi8 : i < n := by omega
  obtain ⟨V, hW, Bx, By, Bg, hb0⟩ := boxes633 52 45 w #[.int .i64 8, .int .i64 (i : Int), .int .i64 b, .bool q.s, .slice q.A q.n q.c, .slice q.A' q.n' q.c'] #[.bool s_y, .slice A_y n_y c_y, .slice D_y m_y d_y] #[.bool s_g, .slice A_g n_g c_g, .slice D_g m_g d_g]
  have x0 : Keep g V V := Keep.refl g V
  have hz := hb0.size
  have O0 := o0.below hb0
  have hnw := O0.noW
  have hlx := Bx.lt
  have hly := By.lt
  have hlg := Bg.lt
  have hS : ∀ w', Keep g V w' → w'.cell? ⟨w.heap.size, 1, none⟩ = some (.int .i64 (i : Int)) ∧ w'.cell? ⟨w.heap.size + 1 + 1, 0, none⟩ = some (.bool s_g) ∧ w'.cell? ⟨w.heap.size + 1 + 1, 1, none⟩ = some (.slice A_g n_g c_g) ∧ w'.cell? ⟨w.heap.size + 1 + 1, 2, none⟩ = some (.slice D_g m_g d_g) ∧ w'.cell? ⟨w.heap.size + 1, 0, none⟩ = some (.bool s_y) ∧ w'.cell? ⟨w.heap.size + 1, 1, none⟩ = some (.slice A_y n_y c_y) ∧ w'.cell? ⟨w.heap.size + 1, 2, none⟩ = some (.slice D_y m_y d_y) := fun w' hk => ⟨(keep_cell hk hlx (by omega)).trans Bx.six.1.2.1, (keep_cell hk hlg (by omega)).trans Bg.three.1.1, (keep_cell hk hlg (by omega)).trans Bg.three.1.2.1, (keep_cell hk hlg (by omega)).trans Bg.three.1.2.2, (keep_cell hk hly (by omega)).trans By.three.1.1, (keep_cell hk hly (by omega)).trans By.three.1.2.1, (keep_cell hk hly (by omega)).trans By.three.1.2.2⟩
  have H_g := Lib.hid (fun (w1 : World) (hk : Keep g V w1) => (q_g.below hb0).keepN hnw hk)
  have H_y := Lib.hid (fun (w1 : World) (hk : Keep g V w1) => (q_y.below hb0).keepN hnw hk)
  have HN := Lib.hid h0
  clear h0
  have HS := Lib.hid hS
  have HO0 := Lib.hid O0
  have HW := Lib.hid hW
  clear hS Bx By Bg hW hv hne q_y q_g O0 o0 
  go_enter Tryz.func36, Tryz.ntmps36
  go_wp2_with fail
  rw [HW.out]
  obtain ⟨p0, p1, p2, p3, p4, p5, p6⟩ := HS.out _ x0
  go_wp2_with fail
  go_region_held3 (fun w' => w'.cell? ⟨w.heap.size, 1, none⟩ = some (.int .i64 (i : Int)) ∧ w'.cell? ⟨w.heap.size + 1 + 1, 0, none⟩ = some (.bool s_g) ∧ w'.cell? ⟨w.heap.size + 1 + 1, 1, none⟩ = some (.slice A_g n_g c_g) ∧ w'.cell? ⟨w.heap.size + 1 + 1, 2, none⟩ = some (.slice D_g m_g d_g) ∧ w'.cell? ⟨w.heap.size + 1, 0, none⟩ = some (.bool s_y) ∧ w'.cell? ⟨w.heap.size + 1, 1, none⟩ = some (.slice A_y n_y c_y) ∧ w'.cell? ⟨w.heap.size + 1, 2, none⟩ = some (.slice D_y m_y d_y)) (first | with_reducible exact HS.out _ (x0.trans Keep.drew') | with_reducible exact HS.out _ x2 | with_reducible exact HS.out _ x1 | fail)
    (first
      | (go_at_call 18; (with_reducible refine (rat_add (H_y.out _ (x0.trans Keep.drew')) (H_y.out _ (x0.trans Keep.drew')) z_y z_y (by omega)).mono ?_); rintro _ w1 ⟨s1, A1, n1, c1, E1, m1, d1, rfl, q1, b1⟩; have b1 := Below.undrew b1; have x1 : Keep g V w1 := x0.trans (Keep.of_below g b1))
      | (go_at_call 72; (with_reducible refine (tg_divideOn_no (B := B) (H_g.out _ x1) q1 (z_g.mono (by omega)) (z_y.add z_y) HN.out).mono ?_); rintro _ w2 ⟨rfl, k2⟩; have x2 : Keep g V w2 := x1.trans k2))
  obtain ⟨p0, p1, p2, p3, p4, p5, p6⟩ := HS.out _ x2
  go_wp2_with fail
  go_ret
  exact ⟨rfl, (Keep.of_below g hb0).trans x2⟩

set_option maxRecDepth 100000 in
set_option maxHeartbeats 8000000 in
theorem ho_log_no {w : World} {A : Option Addr} {n c B g l cap N : Nat} {v Xs : List Rat} {q : RQ} {s_y : Bool} {A_y D_y : Option Addr} {n_y c_y m_y d_y : Nat} {Y : Rat} {s_g : Bool} {A_g D_g : Option Addr} {n_g c_g m_g d_g : Nat} {G : Rat} {i : Nat} {b : Int} (q_y : Q w s_y A_y n_y c_y D_y m_y d_y Y) (z_y : Sz Y 64) (q_g : Q w s_g A_g n_g c_g D_g m_g d_g G) (z_g : Sz G 64) (hv : SlQ w A n c v) (zv : AllSz 64 v) (hne : ∀ b off, A = some ⟨b, off, none⟩ → b ≠ g) (o0 : OwnQ B w (.slice (some ⟨g, 0, none⟩) l cap) Xs) (zX : AllSz N Xs) (hN1 : 300 ≤ N) (hN : N ≤ 39000) (hl : l ≤ n) (hn : n ≤ 65536) (hi : i < l) (h0 : v.getD i 0 = 0) :
    Calls Tryz.prog 36 #[.agg #[.int .i64 10, .int .i64 (i : Int), .int .i64 b, .bool q.s, .slice q.A q.n q.c, .slice q.A' q.n' q.c'], .agg #[.bool s_y, .slice A_y n_y c_y, .slice D_y m_y d_y], .agg #[.bool s_g, .slice A_g n_g c_g, .slice D_g m_g d_g], .slice A n c, .slice (some ⟨g, 0, none⟩) l cap] w (RetHand B g l cap (.error 4) w) := by

  have hlt := o0.lt.1
  have hlen := o0.lt.2.2
  have hi9 : (i : Int) < (n : Int) := by omega
  have hi8 : i < n := by omega
  obtain ⟨g_va, o_va, s_va, A_va, n_va, c_va, D_va, m_va, d_va, eA, l_va, k0_va, k1_va, k2_va, q_va⟩ := hv.at_ (show i < n by omega)
  have ne_va := hne _ _ eA
  subst eA
  have z_va : Sz (v.getD i 0) 64 := zv.at_ (by have := hv.len; omega)
  obtain ⟨V, hW, Bx, By, Bg, hb0⟩ := boxes633 52 45 w #[.int .i64 10, .int .i64 (i : Int), .int .i64 b, .bool q.s, .slice q.A q.n q.c, .slice q.A' q.n' q.c'] #[.bool s_y, .slice A_y n_y c_y, .slice D_y m_y d_y] #[.bool s_g, .slice A_g n_g c_g, .slice D_g m_g d_g]
  have x0 : Keep g V V := Keep.refl g V
  have hz := hb0.size
  have O0 := o0.below hb0
  have hnw := O0.noW
  have hlx := Bx.lt
  have hly := By.lt
  have hlg := Bg.lt
  have hS : ∀ w', Keep g V w' → w'.cell? ⟨w.heap.size, 1, none⟩ = some (.int .i64 (i : Int)) ∧ w'.cell? ⟨w.heap.size + 1 + 1, 0, none⟩ = some (.bool s_g) ∧ w'.cell? ⟨w.heap.size + 1 + 1, 1, none⟩ = some (.slice A_g n_g c_g) ∧ w'.cell? ⟨w.heap.size + 1 + 1, 2, none⟩ = some (.slice D_g m_g d_g) ∧ w'.cell? ⟨g_va, o_va + i * 3, none⟩ = some (.bool s_va) ∧ w'.cell? ⟨g_va, o_va + i * 3 + 1, none⟩ = some (.slice A_va n_va c_va) ∧ w'.cell? ⟨g_va, o_va + i * 3 + 2, none⟩ = some (.slice D_va m_va d_va) := fun w' hk => ⟨(keep_cell hk hlx (by omega)).trans Bx.six.1.2.1, (keep_cell hk hlg (by omega)).trans Bg.three.1.1, (keep_cell hk hlg (by omega)).trans Bg.three.1.2.1, (keep_cell hk hlg (by omega)).trans Bg.three.1.2.2, (keep_cell hk (by omega) ne_va).trans ((hb0.cell (p := ⟨g_va, o_va + i * 3, none⟩) l_va).trans k0_va), (keep_cell hk (by omega) ne_va).trans ((hb0.cell (p := ⟨g_va, o_va + i * 3 + 1, none⟩) l_va).trans k1_va), (keep_cell hk (by omega) ne_va).trans ((hb0.cell (p := ⟨g_va, o_va + i * 3 + 2, none⟩) l_va).trans k2_va)⟩
  have H_g := Lib.hid (fun (w1 : World) (hk : Keep g V w1) => (q_g.below hb0).keepN hnw hk)
  have H_va := Lib.hid (fun (w1 : World) (hk : Keep g V w1) => (q_va.below hb0).keepN hnw hk)
  generalize v.getD i 0 = X_va at *
  have HN := Lib.hid h0
  clear h0
  have HS := Lib.hid hS
  have HO0 := Lib.hid O0
  have HW := Lib.hid hW
  clear hS Bx By Bg hW hv hne q_y q_g O0 o0 q_va k0_va k1_va k2_va
  go_enter Tryz.func36, Tryz.ntmps36
  go_wp2_with fail
  rw [HW.out]
  obtain ⟨p0, p1, p2, p3, p4, p5, p6⟩ := HS.out _ x0
  go_wp2_with fail
  go_region_held3 (fun w' => w'.cell? ⟨w.heap.size, 1, none⟩ = some (.int .i64 (i : Int)) ∧ w'.cell? ⟨w.heap.size + 1 + 1, 0, none⟩ = some (.bool s_g) ∧ w'.cell? ⟨w.heap.size + 1 + 1, 1, none⟩ = some (.slice A_g n_g c_g) ∧ w'.cell? ⟨w.heap.size + 1 + 1, 2, none⟩ = some (.slice D_g m_g d_g) ∧ w'.cell? ⟨g_va, o_va + i * 3, none⟩ = some (.bool s_va) ∧ w'.cell? ⟨g_va, o_va + i * 3 + 1, none⟩ = some (.slice A_va n_va c_va) ∧ w'.cell? ⟨g_va, o_va + i * 3 + 2, none⟩ = some (.slice D_va m_va d_va)) (first | with_reducible exact HS.out _ (x0.trans Keep.drew') | with_reducible exact HS.out _ x1 | fail)
    (first
      | (go_at_call 72; (with_reducible refine (tg_divideOn_no (B := B) (H_g.out _ (x0.trans Keep.drew')) (H_va.out _ (x0.trans Keep.drew')) (z_g.mono (by omega)) (z_va.mono (by omega)) HN.out).mono ?_); rintro _ w1 ⟨rfl, k1⟩; have x1 : Keep g V w1 := (x0.trans Keep.drew').trans k1))
  obtain ⟨p0, p1, p2, p3, p4, p5, p6⟩ := HS.out _ x1
  go_wp2_with fail
  go_ret
  exact ⟨rfl, (Keep.of_below g hb0).trans x1⟩

set_option maxRecDepth 100000 in
set_option maxHeartbeats 8000000 in
theorem ho_div {w : World} {A : Option Addr} {n c B g l cap N : Nat} {v Xs : List Rat} {q : RQ} {s_y : Bool} {A_y D_y : Option Addr} {n_y c_y m_y d_y : Nat} {Y : Rat} {s_g : Bool} {A_g D_g : Option Addr} {n_g c_g m_g d_g : Nat} {G : Rat} {i j : Nat} (q_y : Q w s_y A_y n_y c_y D_y m_y d_y Y) (z_y : Sz Y 64) (q_g : Q w s_g A_g n_g c_g D_g m_g d_g G) (z_g : Sz G 64) (hv : SlQ w A n c v) (zv : AllSz 64 v) (hne : ∀ b off, A = some ⟨b, off, none⟩ → b ≠ g) (o0 : OwnQ B w (.slice (some ⟨g, 0, none⟩) l cap) Xs) (zX : AllSz N Xs) (hN1 : 300 ≤ N) (hN : N ≤ 39000) (hl : l ≤ n) (hn : n ≤ 65536) (hi : i < l) (hj : j < l) (h0 : v.getD j 0 ≠ 0) :
    Calls Tryz.prog 36 #[.agg #[.int .i64 7, .int .i64 (i : Int), .int .i64 (j : Int), .bool q.s, .slice q.A q.n q.c, .slice q.A' q.n' q.c'], .agg #[.bool s_y, .slice A_y n_y c_y, .slice D_y m_y d_y], .agg #[.bool s_g, .slice A_g n_g c_g, .slice D_g m_g d_g], .slice A n c, .slice (some ⟨g, 0, none⟩) l cap] w (RetHand B g l cap (.ok (addAt (addAt Xs i (G / v.getD j 0)) j (-(G / v.getD j 0 * Y)))) w) := by

  have hlt := o0.lt.1
  have hlen := o0.lt.2.2
  have hi9 : (i : Int) < (n : Int) := by omega
  have hi8 : i < n := by omega
  have hj9 : (j : Int) < (n : Int) := by omega
  have hj8 : j < n := by omega
  obtain ⟨g_vb, o_vb, s_vb, A_vb, n_vb, c_vb, D_vb, m_vb, d_vb, eA, l_vb, k0_vb, k1_vb, k2_vb, q_vb⟩ := hv.at_ (show j < n by omega)
  have ne_vb := hne _ _ eA
  subst eA
  have z_vb : Sz (v.getD j 0) 64 := zv.at_ (by have := hv.len; omega)
  obtain ⟨V, hW, Bx, By, Bg, hb0⟩ := boxes633 52 45 w #[.int .i64 7, .int .i64 (i : Int), .int .i64 (j : Int), .bool q.s, .slice q.A q.n q.c, .slice q.A' q.n' q.c'] #[.bool s_y, .slice A_y n_y c_y, .slice D_y m_y d_y] #[.bool s_g, .slice A_g n_g c_g, .slice D_g m_g d_g]
  have x0 : Keep g V V := Keep.refl g V
  have hz := hb0.size
  have O0 := o0.below hb0
  have hnw := O0.noW
  have hlx := Bx.lt
  have hly := By.lt
  have hlg := Bg.lt
  have hS : ∀ w', Keep g V w' → w'.cell? ⟨w.heap.size, 1, none⟩ = some (.int .i64 (i : Int)) ∧ w'.cell? ⟨w.heap.size, 2, none⟩ = some (.int .i64 (j : Int)) ∧ w'.cell? ⟨w.heap.size + 1 + 1, 0, none⟩ = some (.bool s_g) ∧ w'.cell? ⟨w.heap.size + 1 + 1, 1, none⟩ = some (.slice A_g n_g c_g) ∧ w'.cell? ⟨w.heap.size + 1 + 1, 2, none⟩ = some (.slice D_g m_g d_g) ∧ w'.cell? ⟨w.heap.size + 1, 0, none⟩ = some (.bool s_y) ∧ w'.cell? ⟨w.heap.size + 1, 1, none⟩ = some (.slice A_y n_y c_y) ∧ w'.cell? ⟨w.heap.size + 1, 2, none⟩ = some (.slice D_y m_y d_y) ∧ w'.cell? ⟨g_vb, o_vb + j * 3, none⟩ = some (.bool s_vb) ∧ w'.cell? ⟨g_vb, o_vb + j * 3 + 1, none⟩ = some (.slice A_vb n_vb c_vb) ∧ w'.cell? ⟨g_vb, o_vb + j * 3 + 2, none⟩ = some (.slice D_vb m_vb d_vb) := fun w' hk => ⟨(keep_cell hk hlx (by omega)).trans Bx.six.1.2.1, (keep_cell hk hlx (by omega)).trans Bx.six.1.2.2.1, (keep_cell hk hlg (by omega)).trans Bg.three.1.1, (keep_cell hk hlg (by omega)).trans Bg.three.1.2.1, (keep_cell hk hlg (by omega)).trans Bg.three.1.2.2, (keep_cell hk hly (by omega)).trans By.three.1.1, (keep_cell hk hly (by omega)).trans By.three.1.2.1, (keep_cell hk hly (by omega)).trans By.three.1.2.2, (keep_cell hk (by omega) ne_vb).trans ((hb0.cell (p := ⟨g_vb, o_vb + j * 3, none⟩) l_vb).trans k0_vb), (keep_cell hk (by omega) ne_vb).trans ((hb0.cell (p := ⟨g_vb, o_vb + j * 3 + 1, none⟩) l_vb).trans k1_vb), (keep_cell hk (by omega) ne_vb).trans ((hb0.cell (p := ⟨g_vb, o_vb + j * 3 + 2, none⟩) l_vb).trans k2_vb)⟩
  have H_g := Lib.hid (fun (w1 : World) (hk : Keep g V w1) => (q_g.below hb0).keepN hnw hk)
  have H_y := Lib.hid (fun (w1 : World) (hk : Keep g V w1) => (q_y.below hb0).keepN hnw hk)
  have H_vb := Lib.hid (fun (w1 : World) (hk : Keep g V w1) => (q_vb.below hb0).keepN hnw hk)
  generalize v.getD j 0 = X_vb at *
  have HN := Lib.hid h0
  clear h0
  have HS := Lib.hid hS
  have HO0 := Lib.hid O0
  have HW := Lib.hid hW
  clear hS Bx By Bg hW hv hne q_y q_g O0 o0 q_vb k0_vb k1_vb k2_vb
  go_enter Tryz.func36, Tryz.ntmps36
  go_wp2_with fail
  rw [HW.out]
  obtain ⟨p0, p1, p2, p3, p4, p5, p6, p7, p8, p9, p10⟩ := HS.out _ x0
  go_wp2_with fail
  have HOB := Lib.hid (show Below V.heap.size V (V.drew.alloc (.cells #[.bool false, .slice none 0 0, .slice none 0 0] 45)) from (Below.refl _ V).drew.alloc (Nat.le_refl _) _)
  go_region_held3 (fun w' => w'.cell? ⟨w.heap.size, 1, none⟩ = some (.int .i64 (i : Int)) ∧ w'.cell? ⟨w.heap.size, 2, none⟩ = some (.int .i64 (j : Int)) ∧ w'.cell? ⟨w.heap.size + 1 + 1, 0, none⟩ = some (.bool s_g) ∧ w'.cell? ⟨w.heap.size + 1 + 1, 1, none⟩ = some (.slice A_g n_g c_g) ∧ w'.cell? ⟨w.heap.size + 1 + 1, 2, none⟩ = some (.slice D_g m_g d_g) ∧ w'.cell? ⟨w.heap.size + 1, 0, none⟩ = some (.bool s_y) ∧ w'.cell? ⟨w.heap.size + 1, 1, none⟩ = some (.slice A_y n_y c_y) ∧ w'.cell? ⟨w.heap.size + 1, 2, none⟩ = some (.slice D_y m_y d_y) ∧ w'.cell? ⟨g_vb, o_vb + j * 3, none⟩ = some (.bool s_vb) ∧ w'.cell? ⟨g_vb, o_vb + j * 3 + 1, none⟩ = some (.slice A_vb n_vb c_vb) ∧ w'.cell? ⟨g_vb, o_vb + j * 3 + 2, none⟩ = some (.slice D_vb m_vb d_vb)) (first | with_reducible exact HS.out _ (x0.trans Keep.drew') | exact HS.out _ (Keep.of_below g HOB.out) | with_reducible exact HS.out _ (Keep.of_below g (xk1.alloc xk1.size _)) | with_reducible exact HS.out _ (Keep.of_below g xk1) | exact HS.out _ (Keep.of_below g (below_put3 xk1 (Nat.le_refl _) (Nat.le_refl _) (.bool s1) (.slice A1 n1 c1) (.slice E1 m1 d1))) | fail)
    (first
      | (go_at_call 68; (with_reducible refine (rat_div ?h1 ?h2 z_g z_vb (by omega) HN.out).mono ?_); (case h1 => first | exact H_g.out _ Keep.drew' | exact H_g.out _ (Keep.of_below g HOB.out)); (case h2 => first | exact H_vb.out _ Keep.drew' | exact H_vb.out _ (Keep.of_below g HOB.out)); rintro _ w1 ⟨s1, A1, n1, c1, E1, m1, d1, rfl, q1, b1⟩; have xk1 : Below V.heap.size V w1 := (by first | exact Below.undrew b1 | exact bb HOB.out b1); (first | (have Bq : Box 45 w1 V.heap.size #[.bool false, .slice none 0 0, .slice none 0 0] := ((Box.new V.drew _ #[.bool false, .slice none 0 0, .slice none 0 0]).below' b1)) | (have Bq : True := trivial)); (first | (obtain ⟨⟨t0, t1, t2⟩, f0, f1, f2⟩ := Bq.three) | skip)))
  all_goals
    first
      | (obtain ⟨w2, hV2⟩ : ∃ W, w1.alloc (.cells #[.bool s1, .slice A1 n1 c1, .slice E1 m1 d1] 45) = W := ⟨_, rfl⟩; rw [hV2]; have B2 : Box 45 w2 w1.heap.size #[.bool s1, .slice A1 n1 c1, .slice E1 m1 d1] := (by rw [← hV2]; exact Box.new w1 _ _); have y2 : Below V.heap.size V w2 := (by rw [← hV2]; exact xk1.alloc xk1.size _); have q2 : Q w2 s1 A1 n1 c1 E1 m1 d1 (G / X_vb) := (by rw [← hV2]; exact q1.below (below_alloc _ _)); have hB2 : g ≠ w1.heap.size := (by have := xk1.size; omega); clear hV2)
      | (obtain ⟨w2, hV2⟩ : ∃ W, ((w1.setCell ⟨V.heap.size, 0, none⟩ (.bool s1)).setCell ⟨V.heap.size, 1, none⟩ (.slice A1 n1 c1)).setCell ⟨V.heap.size, 2, none⟩ (.slice E1 m1 d1) = W := ⟨_, rfl⟩; rw [hV2]; have B2 : Box 45 w2 V.heap.size #[.bool s1, .slice A1 n1 c1, .slice E1 m1 d1] := (by rw [← hV2]; exact box_self Bq (.bool s1) (.slice A1 n1 c1) (.slice E1 m1 d1)); have y2 : Below V.heap.size V w2 := (by rw [← hV2]; exact below_put3 xk1 (Nat.le_refl _) (Nat.le_refl _) _ _ _); have q2 : Q w2 s1 A1 n1 c1 E1 m1 d1 (G / X_vb) := (by rw [← hV2]; exact q1.put3 (x0 := .bool s1) (x1 := .slice A1 n1 c1) (x2 := .slice E1 m1 d1) ⟨_, _, _, _, _, _, _, Bq⟩); have hB2 : g ≠ V.heap.size := (by omega); clear hV2)
    have x2 : Keep g V w2 := Keep.of_below g y2
    have zs : Sz (G / X_vb) 128 := (by rw [Rat.div_def]; exact z_g.mul z_vb.inv)
    have hlB := B2.lt
    obtain ⟨B20, B21, B22⟩ := B2.three.1
    obtain ⟨p0, p1, p2, p3, p4, p5, p6, p7, p8, p9, p10⟩ := HS.out _ x2
    have HB2 := Lib.hid B2
    have HQ2 := Lib.hid q2
    clear B2 q2
    go_wp2_with fail
    with_reducible refine (tg_accumulate (N := N + 300) (HO0.out.below y2) hi HQ2.out (zs.mono (by omega)) ((getD_sz zX (by omega) _).mono (by omega)) (by omega)).mono ?_
    rintro _ w3 ⟨rfl, O3, k3⟩
    have x3 : Keep g V w3 := x2.trans k3
    obtain ⟨p0, p1, p2, p3, p4, p5, p6, p7, p8, p9, p10⟩ := HS.out _ x3
    have nw3 := O3.noW
    have hB3 : Box 45 w3 _ #[.bool s1, .slice A1 n1 c1, .slice E1 m1 d1] := (k3.block _ hlB (fun e => hB2 e.symm)).trans HB2.out
    have q3 := HQ2.out.keepN (HO0.out.below y2).noW k3
    have HB3 := Lib.hid hB3
    have HQ3 := Lib.hid q3
    have hlB3 := hB3.lt
    obtain ⟨B30, B31, B32⟩ := hB3.three.1
    have zs2 := addAt_sz (i := i) zX (by omega) (zs.mono (show 128 ≤ 257 by omega))
    clear hB3 q3 B20 B21 B22
    go_wp2_with fail
    have HT := Lib.hid (fun (w' : World) (hk : Keep g w3 w') => And.intro (HS.out w' (x3.trans hk)) (show w'.cell? ⟨_, 0, none⟩ = some (.bool s1) ∧ w'.cell? ⟨_, 1, none⟩ = some (.slice A1 n1 c1) ∧ w'.cell? ⟨_, 2, none⟩ = some (.slice E1 m1 d1) from ⟨(keep_cell hk hlB3 (fun e => hB2 e.symm)).trans B30, (keep_cell hk hlB3 (fun e => hB2 e.symm)).trans B31, (keep_cell hk hlB3 (fun e => hB2 e.symm)).trans B32⟩))
    first
      | (go_region_held3 (fun w' => (w'.cell? ⟨w.heap.size, 1, none⟩ = some (.int .i64 (i : Int)) ∧ w'.cell? ⟨w.heap.size, 2, none⟩ = some (.int .i64 (j : Int)) ∧ w'.cell? ⟨w.heap.size + 1 + 1, 0, none⟩ = some (.bool s_g) ∧ w'.cell? ⟨w.heap.size + 1 + 1, 1, none⟩ = some (.slice A_g n_g c_g) ∧ w'.cell? ⟨w.heap.size + 1 + 1, 2, none⟩ = some (.slice D_g m_g d_g) ∧ w'.cell? ⟨w.heap.size + 1, 0, none⟩ = some (.bool s_y) ∧ w'.cell? ⟨w.heap.size + 1, 1, none⟩ = some (.slice A_y n_y c_y) ∧ w'.cell? ⟨w.heap.size + 1, 2, none⟩ = some (.slice D_y m_y d_y) ∧ w'.cell? ⟨g_vb, o_vb + j * 3, none⟩ = some (.bool s_vb) ∧ w'.cell? ⟨g_vb, o_vb + j * 3 + 1, none⟩ = some (.slice A_vb n_vb c_vb) ∧ w'.cell? ⟨g_vb, o_vb + j * 3 + 2, none⟩ = some (.slice D_vb m_vb d_vb)) ∧ w'.cell? ⟨w1.heap.size, 0, none⟩ = some (.bool s1) ∧ w'.cell? ⟨w1.heap.size, 1, none⟩ = some (.slice A1 n1 c1) ∧ w'.cell? ⟨w1.heap.size, 2, none⟩ = some (.slice E1 m1 d1)) (first | with_reducible exact HT.out _ Keep.drew' | with_reducible exact HT.out _ x6 | with_reducible exact HT.out _ x5 | with_reducible exact HT.out _ x4 | fail) (first   | (go_at_call 19; (with_reducible refine (rat_mul ?h1 ?h2 zs (z_y.mono (by omega)) (by omega)).mono ?_); (case h1 => exact HQ3.out.keepN nw3 Keep.drew'); (case h2 => exact H_y.out _ (x3.trans Keep.drew')); rintro _ w4 ⟨s4, A4, n4, c4, E4, m4, d4, rfl, q4, b4⟩; have b4 := Below.undrew b4; have x4 : Keep g w3 w4 := Keep.of_below g b4)   | (go_at_call 66; (with_reducible refine (rat_negE q4 ((zs.mul (z_y.mono (show 64 ≤ 128 by omega))).mono (show 128 + 128 ≤ 256 by omega)) (by omega)).mono ?_); rintro _ w5 ⟨s5, A5, n5, c5, E5, m5, d5, rfl, q5, b5⟩; have x5 : Keep g w3 w5 := x4.trans (Keep.of_below g b5))   | (go_at_call 33; (with_reducible refine (tg_accumulate (N := N + 600) ((O3.below b4).below b5) hj q5 (((zs.mul (z_y.mono (show 64 ≤ 128 by omega))).neg).mono (by omega)) ((getD_sz zs2 (by omega) _).mono (by omega)) (by omega)).mono ?_); rintro _ w6 ⟨rfl, O6, k6⟩; have x6 : Keep g w3 w6 := x5.trans k6)))
      | (go_region_held3 (fun w' => (w'.cell? ⟨w.heap.size, 1, none⟩ = some (.int .i64 (i : Int)) ∧ w'.cell? ⟨w.heap.size, 2, none⟩ = some (.int .i64 (j : Int)) ∧ w'.cell? ⟨w.heap.size + 1 + 1, 0, none⟩ = some (.bool s_g) ∧ w'.cell? ⟨w.heap.size + 1 + 1, 1, none⟩ = some (.slice A_g n_g c_g) ∧ w'.cell? ⟨w.heap.size + 1 + 1, 2, none⟩ = some (.slice D_g m_g d_g) ∧ w'.cell? ⟨w.heap.size + 1, 0, none⟩ = some (.bool s_y) ∧ w'.cell? ⟨w.heap.size + 1, 1, none⟩ = some (.slice A_y n_y c_y) ∧ w'.cell? ⟨w.heap.size + 1, 2, none⟩ = some (.slice D_y m_y d_y) ∧ w'.cell? ⟨g_vb, o_vb + j * 3, none⟩ = some (.bool s_vb) ∧ w'.cell? ⟨g_vb, o_vb + j * 3 + 1, none⟩ = some (.slice A_vb n_vb c_vb) ∧ w'.cell? ⟨g_vb, o_vb + j * 3 + 2, none⟩ = some (.slice D_vb m_vb d_vb)) ∧ w'.cell? ⟨V.heap.size, 0, none⟩ = some (.bool s1) ∧ w'.cell? ⟨V.heap.size, 1, none⟩ = some (.slice A1 n1 c1) ∧ w'.cell? ⟨V.heap.size, 2, none⟩ = some (.slice E1 m1 d1)) (first | with_reducible exact HT.out _ Keep.drew' | with_reducible exact HT.out _ x6 | with_reducible exact HT.out _ x5 | with_reducible exact HT.out _ x4 | fail) (first   | (go_at_call 19; (with_reducible refine (rat_mul ?h1 ?h2 zs (z_y.mono (by omega)) (by omega)).mono ?_); (case h1 => exact HQ3.out.keepN nw3 Keep.drew'); (case h2 => exact H_y.out _ (x3.trans Keep.drew')); rintro _ w4 ⟨s4, A4, n4, c4, E4, m4, d4, rfl, q4, b4⟩; have b4 := Below.undrew b4; have x4 : Keep g w3 w4 := Keep.of_below g b4)   | (go_at_call 66; (with_reducible refine (rat_negE q4 ((zs.mul (z_y.mono (show 64 ≤ 128 by omega))).mono (show 128 + 128 ≤ 256 by omega)) (by omega)).mono ?_); rintro _ w5 ⟨s5, A5, n5, c5, E5, m5, d5, rfl, q5, b5⟩; have x5 : Keep g w3 w5 := x4.trans (Keep.of_below g b5))   | (go_at_call 33; (with_reducible refine (tg_accumulate (N := N + 600) ((O3.below b4).below b5) hj q5 (((zs.mul (z_y.mono (show 64 ≤ 128 by omega))).neg).mono (by omega)) ((getD_sz zs2 (by omega) _).mono (by omega)) (by omega)).mono ?_); rintro _ w6 ⟨rfl, O6, k6⟩; have x6 : Keep g w3 w6 := x5.trans k6)))
    go_wp2_with fail
    go_ret
    exact ⟨rfl, O6, (Keep.of_below g hb0).trans (x3.trans x6)⟩

end Go.Proofs.YtfhihapgjiaobaaGreat
