/-
  Rows of exact numbers that are stored into, element by element. No Go function in sight. Conditions: as each lemma says.
-/
import Derived.Test.YtfhihapgjiaobaaGreatTgMoreAllB
import Derived.Deep.RegionHeld3
import Derived.Test.YtfhihapgjiaobaaGreatTgSzAllB
namespace Go.Proofs.YtfhihapgjiaobaaGreat
set_option maxRecDepth 100000
open Go.RowKit
set_option linter.unusedVariables false
set_option linter.unusedSimpArgs false

set_option maxRecDepth 100000 in
set_option maxHeartbeats 8000000 in
theorem gv_div {w : World} {s_y : Bool} {A_y D_y : Option Addr} {n_y c_y m_y d_y : Nat} {X_y : Rat} {s_va : Bool} {A_va D_va : Option Addr} {n_va c_va m_va d_va : Nat} {X_va : Rat} {s_vb : Bool} {A_vb D_vb : Option Addr} {n_vb c_vb m_vb d_vb : Nat} {X_vb : Rat} {s_g : Bool} {A_g D_g : Option Addr} {n_g c_g m_g d_g : Nat} {X_g : Rat} {q : RQ} {a b : Int} (q_y : Q w s_y A_y n_y c_y D_y m_y d_y X_y) (z_y : Sz X_y 64) (q_va : Q w s_va A_va n_va c_va D_va m_va d_va X_va) (z_va : Sz X_va 64) (q_vb : Q w s_vb A_vb n_vb c_vb D_vb m_vb d_vb X_vb) (z_vb : Sz X_vb 64) (q_g : Q w s_g A_g n_g c_g D_g m_g d_g X_g) (z_g : Sz X_g 64) (h0 : X_vb ≠ 0) (z_q : Sz (X_g / (X_vb)) 200) :
    Calls Tryz.prog 44 #[.agg #[.int .i64 7, .int .i64 a, .int .i64 b, .bool q.s, .slice q.A q.n q.c, .slice q.A' q.n' q.c'], .agg #[.bool s_y, .slice A_y n_y c_y, .slice D_y m_y d_y], .agg #[.bool s_va, .slice A_va n_va c_va, .slice D_va m_va d_va, .bool s_vb, .slice A_vb n_vb c_vb, .slice D_vb m_vb d_vb], .agg #[.bool s_g, .slice A_g n_g c_g, .slice D_g m_g d_g]] w (RetGv true (X_g / (X_vb)) (-(X_g / (X_vb) * X_y)) w) := by
  obtain ⟨V, hW, Bx, By, Bv, Bg, Br, Bs, hb0, hsz⟩ := boxesW 52 45 74 45 45 45 w #[.int .i64 7, .int .i64 a, .int .i64 b, .bool q.s, .slice q.A q.n q.c, .slice q.A' q.n' q.c'] #[.bool s_y, .slice A_y n_y c_y, .slice D_y m_y d_y] #[.bool s_va, .slice A_va n_va c_va, .slice D_va m_va d_va, .bool s_vb, .slice A_vb n_vb c_vb, .slice D_vb m_vb d_vb] #[.bool s_g, .slice A_g n_g c_g, .slice D_g m_g d_g] #[.bool false, .slice none 0 0, .slice none 0 0] #[.bool false, .slice none 0 0, .slice none 0 0]
  have hS : ∀ w', Below V.heap.size V w' → w'.cell? ⟨w.heap.size, 0, none⟩ = some (.int .i64 7) ∧ w'.cell? ⟨w.heap.size + 1 + 1 + 1, 0, none⟩ = some (.bool s_g) ∧ w'.cell? ⟨w.heap.size + 1 + 1 + 1, 1, none⟩ = some (.slice A_g n_g c_g) ∧ w'.cell? ⟨w.heap.size + 1 + 1 + 1, 2, none⟩ = some (.slice D_g m_g d_g) ∧ w'.cell? ⟨w.heap.size + 1 + 1, 0, none⟩ = some (.bool s_va) ∧ w'.cell? ⟨w.heap.size + 1 + 1, 1, none⟩ = some (.slice A_va n_va c_va) ∧ w'.cell? ⟨w.heap.size + 1 + 1, 2, none⟩ = some (.slice D_va m_va d_va) ∧ w'.cell? ⟨w.heap.size + 1 + 1, 3, none⟩ = some (.bool s_vb) ∧ w'.cell? ⟨w.heap.size + 1 + 1, 4, none⟩ = some (.slice A_vb n_vb c_vb) ∧ w'.cell? ⟨w.heap.size + 1 + 1, 5, none⟩ = some (.slice D_vb m_vb d_vb) ∧ w'.cell? ⟨w.heap.size + 1, 0, none⟩ = some (.bool s_y) ∧ w'.cell? ⟨w.heap.size + 1, 1, none⟩ = some (.slice A_y n_y c_y) ∧ w'.cell? ⟨w.heap.size + 1, 2, none⟩ = some (.slice D_y m_y d_y) := fun w' hb => ⟨(Bx.below' hb).six.1.1, (Bg.below' hb).three.1.1, (Bg.below' hb).three.1.2.1, (Bg.below' hb).three.1.2.2, (Bv.below' hb).six.1.1, (Bv.below' hb).six.1.2.1, (Bv.below' hb).six.1.2.2.1, (Bv.below' hb).six.1.2.2.2.1, (Bv.below' hb).six.1.2.2.2.2.1, (Bv.below' hb).six.1.2.2.2.2.2, (By.below' hb).three.1.1, (By.below' hb).three.1.2.1, (By.below' hb).three.1.2.2⟩
  have hY : ∀ w', Below V.heap.size V w' → w'.cell? ⟨w.heap.size + 1, 0, none⟩ = some (.bool s_y) ∧ w'.cell? ⟨w.heap.size + 1, 1, none⟩ = some (.slice A_y n_y c_y) ∧ w'.cell? ⟨w.heap.size + 1, 2, none⟩ = some (.slice D_y m_y d_y) := fun w' hb => ⟨(By.below' hb).three.1.1, (By.below' hb).three.1.2.1, (By.below' hb).three.1.2.2⟩
  have H_y := Lib.hid (fun (w1 : World) (hb : Below V.heap.size V w1) => q_y.below (bb hb0 hb))
  have H_va := Lib.hid (fun (w1 : World) (hb : Below V.heap.size V w1) => q_va.below (bb hb0 hb))
  have H_vb := Lib.hid (fun (w1 : World) (hb : Below V.heap.size V w1) => q_vb.below (bb hb0 hb))
  have H_g := Lib.hid (fun (w1 : World) (hb : Below V.heap.size V w1) => q_g.below (bb hb0 hb))
  have HBr := Lib.hid Br
  have HBs := Lib.hid Bs
  have HW := Lib.hid hW
  have HBy := Lib.hid By
  have HS := Lib.hid hS
  have HY := Lib.hid hY
  have HZ := Lib.hid (show decide (X_vb = 0) = false from decide_eq_false h0)
  have HN := Lib.hid h0
  clear hS hY h0 Bx By Bv Bg Br Bs hW q_y q_va q_vb q_g
  go_enter Tryz.func44, Tryz.ntmps44
  go_upto_region 11 with (fail)
  rw [HW.out]
  obtain ⟨p0, p1, p2, p3, p4, p5, p6, p7, p8, p9, p10, p11, p12⟩ := HS.out _ (Below.refl _ V)
  obtain ⟨V1, hV1, C1, b0⟩ := box0 45 V #[.bool s_vb, .slice A_vb n_vb c_vb, .slice D_vb m_vb d_vb]
  rw [hsz] at C1
  have HV1 := Lib.hid hV1
  have HC1 := Lib.hid C1
  clear hV1 C1
  obtain ⟨⟨a0, a1, a2⟩, a3, a4, a5⟩ := HC1.out.three
  go_upto_region 14 with (fail)
  rw [HV1.out]
  obtain ⟨p0, p1, p2, p3, p4, p5, p6, p7, p8, p9, p10, p11, p12⟩ := HS.out _ b0
  go_wp2_with fail
  with_reducible refine (ref_zeroE (H_vb.out _ b0) (z_vb) false HZ.out).mono ?_
  rintro _ w1 ⟨rfl, b1⟩
  have x1 : Below V.heap.size V w1 := bb b0 b1
  have HD1 := Lib.hid (HC1.out.below' b1)
  obtain ⟨⟨a0, a1, a2⟩, a3, a4, a5⟩ := HD1.out.three
  obtain ⟨p0, p1, p2, p3, p4, p5, p6, p7, p8, p9, p10, p11, p12⟩ := HS.out _ x1
  have B9 := HBr.out.below' x1
  have C9 := HBs.out.below' x1
  obtain ⟨⟨r0, r1, r2⟩, f0, f1, f2⟩ := B9.three
  obtain ⟨⟨u0, u1, u2⟩, g0, g1, g2⟩ := C9.three
  have HQD := Lib.hid ((H_vb.out _ b0).below b1)
  go_wp2_with fail
  with_reducible refine (ref_qdiv (N := 130) (H_g.out _ x1) HQD.out (z_g.mono (by omega)) ((z_vb).mono (by omega)) (by omega) HN.out).mono ?_
  rintro _ w2 ⟨s2, A2, n2, c2, E2, m2, d2, rfl, q2, b2⟩
  have x2 : Below V.heap.size V w2 := bb x1 b2
  obtain ⟨V3, hV3, C3, b3⟩ := box0 45 w2 #[.bool s2, .slice A2 n2 c2, .slice E2 m2 d2]
  have HV3 := Lib.hid hV3
  have HC3 := Lib.hid C3
  have x3 : Below V.heap.size V V3 := bb x2 b3
  have q3 := q2.below b3
  clear hV3 C3
  have lt3 := HC3.out.lt
  have hS3 : ∀ w', Below V3.heap.size V3 w' → w'.cell? ⟨w2.heap.size, 0, none⟩ = some (.bool s2) ∧ w'.cell? ⟨w2.heap.size, 1, none⟩ = some (.slice A2 n2 c2) ∧ w'.cell? ⟨w2.heap.size, 2, none⟩ = some (.slice E2 m2 d2) ∧ w'.cell? ⟨w.heap.size + 1, 0, none⟩ = some (.bool s_y) ∧ w'.cell? ⟨w.heap.size + 1, 1, none⟩ = some (.slice A_y n_y c_y) ∧ w'.cell? ⟨w.heap.size + 1, 2, none⟩ = some (.slice D_y m_y d_y) := fun w' hb => ⟨(HC3.out.below' hb).three.1.1, (HC3.out.below' hb).three.1.2.1, (HC3.out.below' hb).three.1.2.2, (HY.out _ (bb x3 hb)).1, (HY.out _ (bb x3 hb)).2.1, (HY.out _ (bb x3 hb)).2.2⟩
  have ly := (HBy.out.below' x2).lt
  have hP3 : ∀ (w' : World) (k : Nat) (x0 x1 x2 : Value), (fun w' : World => w'.cell? ⟨w2.heap.size, 0, none⟩ = some (.bool s2) ∧ w'.cell? ⟨w2.heap.size, 1, none⟩ = some (.slice A2 n2 c2) ∧ w'.cell? ⟨w2.heap.size, 2, none⟩ = some (.slice E2 m2 d2) ∧ w'.cell? ⟨w.heap.size + 1, 0, none⟩ = some (.bool s_y) ∧ w'.cell? ⟨w.heap.size + 1, 1, none⟩ = some (.slice A_y n_y c_y) ∧ w'.cell? ⟨w.heap.size + 1, 2, none⟩ = some (.slice D_y m_y d_y)) w' → V3.heap.size ≤ w'.heap.size → w.heap.size + 1 + 1 + 1 + 1 ≤ k → k < w2.heap.size → (fun w' : World => w'.cell? ⟨w2.heap.size, 0, none⟩ = some (.bool s2) ∧ w'.cell? ⟨w2.heap.size, 1, none⟩ = some (.slice A2 n2 c2) ∧ w'.cell? ⟨w2.heap.size, 2, none⟩ = some (.slice E2 m2 d2) ∧ w'.cell? ⟨w.heap.size + 1, 0, none⟩ = some (.bool s_y) ∧ w'.cell? ⟨w.heap.size + 1, 1, none⟩ = some (.slice A_y n_y c_y) ∧ w'.cell? ⟨w.heap.size + 1, 2, none⟩ = some (.slice D_y m_y d_y)) (put3 w' k x0 x1 x2) := fun w' k x0 x1 x2 hh h1 h2 h3 => by
    obtain ⟨p0, p1, p2, p3, p4, p5⟩ := hh
    exact ⟨(cell_put3 (by omega) (by omega)).trans p0, (cell_put3 (by omega) (by omega)).trans p1, (cell_put3 (by omega) (by omega)).trans p2, (cell_put3 (by omega) (by omega)).trans p3, (cell_put3 (by omega) (by omega)).trans p4, (cell_put3 (by omega) (by omega)).trans p5⟩
  have HS3 := Lib.hid hS3
  have HP3 := Lib.hid hP3
  obtain ⟨t0, t1, t2, t3, t4, t5⟩ := hS3 _ (Below.refl _ V3)
  obtain ⟨⟨c0, c1', c2'⟩, c3', c4', c5'⟩ := HC3.out.three
  clear hS3 hP3
  go_upto_region 19 with (fail)
  rw [HV3.out]
  refine wp_region_held_drew (S := fun w' => w'.cell? ⟨w2.heap.size, 0, none⟩ = some (.bool s2) ∧ w'.cell? ⟨w2.heap.size, 1, none⟩ = some (.slice A2 n2 c2) ∧ w'.cell? ⟨w2.heap.size, 2, none⟩ = some (.slice E2 m2 d2) ∧ w'.cell? ⟨w.heap.size + 1, 0, none⟩ = some (.bool s_y) ∧ w'.cell? ⟨w.heap.size + 1, 1, none⟩ = some (.slice A_y n_y c_y) ∧ w'.cell? ⟨w.heap.size + 1, 2, none⟩ = some (.slice D_y m_y d_y)) (by kernel_rfl) (HS3.out _ (Below.refl _ V3).drew) (fun hHeld => ?_)
  refine wpAnyH_take (i := 0) (v := ?_) rfl (by kernel_rfl) (by kernel_rfl) (by kernel_rfl) (fun _ _ _ h => h) (Or.inl ⟨by kernel_rfl, ?_⟩) (by assumption) ?_
  rotate_left
  · intro w hSw
    (try dsimp only at hSw)
    go_simp
    (try with_reducible rfl)
  try simp only [Act.put, List.setIfInBounds_toArray, List.set_cons_zero, List.set_cons_succ, List.getElem_toArray, List.getElem_cons_zero, List.getElem_cons_succ]
  refine wpAnyH_take (i := 1) (v := ?_) rfl (by kernel_rfl) (by kernel_rfl) (by kernel_rfl) (fun _ _ _ h => h) (Or.inl ⟨by kernel_rfl, ?_⟩) (by assumption) ?_
  rotate_left
  · intro w hSw
    (try dsimp only at hSw)
    go_simp
    (try with_reducible rfl)
  try simp only [Act.put, List.setIfInBounds_toArray, List.set_cons_zero, List.set_cons_succ, List.getElem_toArray, List.getElem_cons_zero, List.getElem_cons_succ]
  refine wpAnyH_take (i := 2) (v := ?_) rfl (by kernel_rfl) (by kernel_rfl) (by kernel_rfl) (fun _ _ _ h => h) (Or.inl ⟨by kernel_rfl, ?_⟩) (by assumption) ?_
  rotate_left
  · intro w hSw
    (try dsimp only at hSw)
    go_simp
    (try with_reducible rfl)
  try simp only [Act.put, List.setIfInBounds_toArray, List.set_cons_zero, List.set_cons_succ, List.getElem_toArray, List.getElem_cons_zero, List.getElem_cons_succ]
  refine wpAnyH_ready (rs := [3]) (by kernel_rfl) (by simp) ?_
  refine AllReadyH.cons rfl (fun K hK => ?_) AllReadyH.nil
  go_simp
  refine (ref_qmul (N := 200) (q3.below (Below.refl _ V3).drew) ((H_y.out _ x3).below (Below.refl _ V3).drew) z_q (z_y.mono (by omega)) (by omega)).mono ?_
  rintro _ w4 ⟨s4, A4, n4, c4, E4, m4, d4, rfl, q4, b4⟩
  have y4 : Below V3.heap.size V3 w4 := Below.undrew b4
  (try go_wp2_with fail)
  refine hK.out _ _ (HS3.out _ y4) (fun hHeld => ?_)
  clear hK K
  try simp only [Act.put, List.setIfInBounds_toArray, List.set_cons_zero, List.set_cons_succ, List.getElem_toArray, List.getElem_cons_zero, List.getElem_cons_succ]
  refine wpAnyH_ready (rs := [4]) (by kernel_rfl) (by simp) ?_
  refine AllReadyH.cons rfl (fun K hK => ?_) AllReadyH.nil
  go_simp
  refine (ref_neg q4 (z_q.mul z_y) (by omega)).mono ?_
  rintro _ w5 ⟨s5, A5, n5, c5, E5, m5, d5, rfl, q5, b5⟩
  have y5 : Below V3.heap.size V3 w5 := bb y4 b5
  (try go_wp2_with fail)
  refine hK.out _ _ (HS3.out _ y5) (fun hHeld => ?_)
  clear hK K
  try simp only [Act.put, List.setIfInBounds_toArray, List.set_cons_zero, List.set_cons_succ, List.getElem_toArray, List.getElem_cons_zero, List.getElem_cons_succ]
  have x5 := bb x3 y5
  have B9 := HBr.out.below' x5
  have C9 := HBs.out.below' x5
  obtain ⟨⟨r0, r1, r2⟩, f0, f1, f2⟩ := B9.three
  obtain ⟨⟨u0, u1, u2⟩, g0, g1, g2⟩ := C9.three
  have ss5 := y5.size
  have lr := (HBr.out.below' x2).lt
  have ls := (HBs.out.below' x2).lt
  have K4 := HP3.out w5 (w.heap.size + 1 + 1 + 1 + 1) (.bool s2) (.slice A2 n2 c2) (.slice E2 m2 d2) (HS3.out _ y5) ss5 (by omega) (by omega)
  have K5 := HP3.out _ (w.heap.size + 1 + 1 + 1 + 1 + 1) (.bool s5) (.slice A5 n5 c5) (.slice E5 m5 d5) K4 (by unfold put3; simp only [World.setCell]; exact Nat.le_trans ss5 (by simp)) (by omega) (by omega)
  have HS4 := Lib.hid K4
  have HS5 := Lib.hid K5
  clear K4 K5
  refine wpAnyH_ready (rs := [5]) (by kernel_rfl) (by simp) ?_
  refine AllReadyH.cons rfl (fun K hK => ?_) AllReadyH.nil
  go_simp
  (try go_wp2_with fail)
  refine hK.out _ _ (HS4.out) (fun hHeld => ?_)
  clear hK K
  try simp only [Act.put, List.setIfInBounds_toArray, List.set_cons_zero, List.set_cons_succ, List.getElem_toArray, List.getElem_cons_zero, List.getElem_cons_succ]
  refine wpAnyH_ready (rs := [6]) (by kernel_rfl) (by simp) ?_
  refine AllReadyH.cons rfl (fun K hK => ?_) AllReadyH.nil
  go_simp
  (try go_wp2_with fail)
  refine hK.out _ _ (HS5.out) (fun hHeld => ?_)
  clear hK K
  try simp only [Act.put, List.setIfInBounds_toArray, List.set_cons_zero, List.set_cons_succ, List.getElem_toArray, List.getElem_cons_zero, List.getElem_cons_succ]
  refine wpAnyH_take (i := 7) (v := ?_) rfl (by kernel_rfl) (by kernel_rfl) (by kernel_rfl) (fun _ _ _ h => h) (Or.inl ⟨by kernel_rfl, ?_⟩) (by assumption) ?_
  rotate_left
  · intro w hSw
    (try dsimp only at hSw)
    go_simp
    (try with_reducible rfl)
  try simp only [Act.put, List.setIfInBounds_toArray, List.set_cons_zero, List.set_cons_succ, List.getElem_toArray, List.getElem_cons_zero, List.getElem_cons_succ]
  refine wpAnyH_done (by kernel_rfl) ?_ _
  go_wp2_with fail
  refine bodyPost_ret (v := .tuple #[.agg #[.bool s2, .slice A2 n2 c2, .slice E2 m2 d2], .agg #[.bool s5, .slice A5 n5 c5, .slice E5 m5 d5], .int .i64 0]) (by simp [results, Tryz.results44, go_sem, r0, r1, r2, u0, u1, u2]) rfl ?_
  obtain ⟨P9, x9⟩ := two_puts (y0 := .bool s2) (y1 := .slice A2 n2 c2) (y2 := .slice E2 m2 d2) (z0 := .bool s5) (z1 := .slice A5 n5 c5) (z2 := .slice E5 m5 d5) B9 C9 (by omega) (bb hb0 x5) (by omega) (by omega)
  exact ⟨_, _, _, _, _, _, _, _, _, _, _, _, _, _, rfl, P9 _ _ _ _ _ _ _ _ (q3.below y5), fun _ => P9 _ _ _ _ _ _ _ _ q5, x9⟩

set_option maxRecDepth 100000 in
set_option maxHeartbeats 8000000 in
theorem gv_div_no {w : World} {s_y : Bool} {A_y D_y : Option Addr} {n_y c_y m_y d_y : Nat} {X_y : Rat} {s_va : Bool} {A_va D_va : Option Addr} {n_va c_va m_va d_va : Nat} {X_va : Rat} {s_vb : Bool} {A_vb D_vb : Option Addr} {n_vb c_vb m_vb d_vb : Nat} {X_vb : Rat} {s_g : Bool} {A_g D_g : Option Addr} {n_g c_g m_g d_g : Nat} {X_g : Rat} {q : RQ} {a b : Int} (q_y : Q w s_y A_y n_y c_y D_y m_y d_y X_y) (z_y : Sz X_y 64) (q_va : Q w s_va A_va n_va c_va D_va m_va d_va X_va) (z_va : Sz X_va 64) (q_vb : Q w s_vb A_vb n_vb c_vb D_vb m_vb d_vb X_vb) (z_vb : Sz X_vb 64) (q_g : Q w s_g A_g n_g c_g D_g m_g d_g X_g) (z_g : Sz X_g 64) (h0 : X_vb = 0) :
    Calls Tryz.prog 44 #[.agg #[.int .i64 7, .int .i64 a, .int .i64 b, .bool q.s, .slice q.A q.n q.c, .slice q.A' q.n' q.c'], .agg #[.bool s_y, .slice A_y n_y c_y, .slice D_y m_y d_y], .agg #[.bool s_va, .slice A_va n_va c_va, .slice D_va m_va d_va, .bool s_vb, .slice A_vb n_vb c_vb, .slice D_vb m_vb d_vb], .agg #[.bool s_g, .slice A_g n_g c_g, .slice D_g m_g d_g]] w (RetGvNo w) := by
  obtain ⟨V, hW, Bx, By, Bv, Bg, Br, Bs, hb0, hsz⟩ := boxesW 52 45 74 45 45 45 w #[.int .i64 7, .int .i64 a, .int .i64 b, .bool q.s, .slice q.A q.n q.c, .slice q.A' q.n' q.c'] #[.bool s_y, .slice A_y n_y c_y, .slice D_y m_y d_y] #[.bool s_va, .slice A_va n_va c_va, .slice D_va m_va d_va, .bool s_vb, .slice A_vb n_vb c_vb, .slice D_vb m_vb d_vb] #[.bool s_g, .slice A_g n_g c_g, .slice D_g m_g d_g] #[.bool false, .slice none 0 0, .slice none 0 0] #[.bool false, .slice none 0 0, .slice none 0 0]
  have hS : ∀ w', Below V.heap.size V w' → w'.cell? ⟨w.heap.size, 0, none⟩ = some (.int .i64 7) ∧ w'.cell? ⟨w.heap.size + 1 + 1 + 1, 0, none⟩ = some (.bool s_g) ∧ w'.cell? ⟨w.heap.size + 1 + 1 + 1, 1, none⟩ = some (.slice A_g n_g c_g) ∧ w'.cell? ⟨w.heap.size + 1 + 1 + 1, 2, none⟩ = some (.slice D_g m_g d_g) ∧ w'.cell? ⟨w.heap.size + 1 + 1, 0, none⟩ = some (.bool s_va) ∧ w'.cell? ⟨w.heap.size + 1 + 1, 1, none⟩ = some (.slice A_va n_va c_va) ∧ w'.cell? ⟨w.heap.size + 1 + 1, 2, none⟩ = some (.slice D_va m_va d_va) ∧ w'.cell? ⟨w.heap.size + 1 + 1, 3, none⟩ = some (.bool s_vb) ∧ w'.cell? ⟨w.heap.size + 1 + 1, 4, none⟩ = some (.slice A_vb n_vb c_vb) ∧ w'.cell? ⟨w.heap.size + 1 + 1, 5, none⟩ = some (.slice D_vb m_vb d_vb) ∧ w'.cell? ⟨w.heap.size + 1, 0, none⟩ = some (.bool s_y) ∧ w'.cell? ⟨w.heap.size + 1, 1, none⟩ = some (.slice A_y n_y c_y) ∧ w'.cell? ⟨w.heap.size + 1, 2, none⟩ = some (.slice D_y m_y d_y) := fun w' hb => ⟨(Bx.below' hb).six.1.1, (Bg.below' hb).three.1.1, (Bg.below' hb).three.1.2.1, (Bg.below' hb).three.1.2.2, (Bv.below' hb).six.1.1, (Bv.below' hb).six.1.2.1, (Bv.below' hb).six.1.2.2.1, (Bv.below' hb).six.1.2.2.2.1, (Bv.below' hb).six.1.2.2.2.2.1, (Bv.below' hb).six.1.2.2.2.2.2, (By.below' hb).three.1.1, (By.below' hb).three.1.2.1, (By.below' hb).three.1.2.2⟩
  have hY : ∀ w', Below V.heap.size V w' → w'.cell? ⟨w.heap.size + 1, 0, none⟩ = some (.bool s_y) ∧ w'.cell? ⟨w.heap.size + 1, 1, none⟩ = some (.slice A_y n_y c_y) ∧ w'.cell? ⟨w.heap.size + 1, 2, none⟩ = some (.slice D_y m_y d_y) := fun w' hb => ⟨(By.below' hb).three.1.1, (By.below' hb).three.1.2.1, (By.below' hb).three.1.2.2⟩
  have H_y := Lib.hid (fun (w1 : World) (hb : Below V.heap.size V w1) => q_y.below (bb hb0 hb))
  have H_va := Lib.hid (fun (w1 : World) (hb : Below V.heap.size V w1) => q_va.below (bb hb0 hb))
  have H_vb := Lib.hid (fun (w1 : World) (hb : Below V.heap.size V w1) => q_vb.below (bb hb0 hb))
  have H_g := Lib.hid (fun (w1 : World) (hb : Below V.heap.size V w1) => q_g.below (bb hb0 hb))
  have HBr := Lib.hid Br
  have HBs := Lib.hid Bs
  have HW := Lib.hid hW
  have HBy := Lib.hid By
  have HS := Lib.hid hS
  have HY := Lib.hid hY
  have HZ := Lib.hid (show decide (X_vb = 0) = true from decide_eq_true h0)
  have HN := Lib.hid h0
  clear hS hY h0 Bx By Bv Bg Br Bs hW q_y q_va q_vb q_g
  go_enter Tryz.func44, Tryz.ntmps44
  go_upto_region 11 with (fail)
  rw [HW.out]
  obtain ⟨p0, p1, p2, p3, p4, p5, p6, p7, p8, p9, p10, p11, p12⟩ := HS.out _ (Below.refl _ V)
  obtain ⟨V1, hV1, C1, b0⟩ := box0 45 V #[.bool s_vb, .slice A_vb n_vb c_vb, .slice D_vb m_vb d_vb]
  rw [hsz] at C1
  have HV1 := Lib.hid hV1
  have HC1 := Lib.hid C1
  clear hV1 C1
  obtain ⟨⟨a0, a1, a2⟩, a3, a4, a5⟩ := HC1.out.three
  go_upto_region 14 with (fail)
  rw [HV1.out]
  obtain ⟨p0, p1, p2, p3, p4, p5, p6, p7, p8, p9, p10, p11, p12⟩ := HS.out _ b0
  go_wp2_with fail
  with_reducible refine (ref_zeroE (H_vb.out _ b0) (z_vb) true HZ.out).mono ?_
  rintro _ w1 ⟨rfl, b1⟩
  have x1 : Below V.heap.size V w1 := bb b0 b1
  have HD1 := Lib.hid (HC1.out.below' b1)
  obtain ⟨⟨a0, a1, a2⟩, a3, a4, a5⟩ := HD1.out.three
  obtain ⟨p0, p1, p2, p3, p4, p5, p6, p7, p8, p9, p10, p11, p12⟩ := HS.out _ x1
  have B9 := HBr.out.below' x1
  have C9 := HBs.out.below' x1
  obtain ⟨⟨r0, r1, r2⟩, f0, f1, f2⟩ := B9.three
  obtain ⟨⟨u0, u1, u2⟩, g0, g1, g2⟩ := C9.three
  go_wp2_with fail
  refine bodyPost_ret (v := .tuple #[.agg #[.bool false, .slice none 0 0, .slice none 0 0], .agg #[.bool false, .slice none 0 0, .slice none 0 0], .int .i64 4]) (by simp [results, Tryz.results44, go_sem, r0, r1, r2, u0, u1, u2]) rfl ?_
  obtain ⟨P9, x9⟩ := two_puts (y0 := .bool false) (y1 := .slice none 0 0) (y2 := .slice none 0 0) (z0 := .bool false) (z1 := .slice none 0 0) (z2 := .slice none 0 0) B9 C9 (by omega) (bb hb0 x1) (by omega) (by omega)
  exact ⟨rfl, x9⟩

end Go.Proofs.YtfhihapgjiaobaaGreat

namespace Go.Proofs.YtfhihapgjiaobaaGreat
set_option maxRecDepth 100000
open Go.RowKit
set_option linter.unusedVariables false
set_option linter.unusedSimpArgs false

theorem Box.put3_own {t : TypeId} {w : World} {g : Nat} {v0 v1 v2 : Value} (h : Box t w g #[v0, v1, v2]) (x0 x1 x2 : Value) : Box t (Go.Proofs.YtfhihapgjiaobaaGreat.put3 w g x0 x1 x2) g #[x0, x1, x2] := by
  have key : ∀ (w : World) (vs : Array Value) (i : Nat) (x : Value), Box t w g vs → Box t (w.setCell ⟨g, i, none⟩ x) g (vs.set! i x) := by
    intro w vs i x hb
    unfold Box at hb ⊢
    unfold World.setCell
    simp [Array.getElem?_modify, hb]
  have h1 := key _ _ 2 x2 (key _ _ 1 x1 (key _ _ 0 x0 h))
  exact h1

set_option maxRecDepth 100000 in
set_option maxHeartbeats 4000000 in
theorem ref_exact {w : World} {A B C : Option Addr} {n c m d k f : Nat} {xs : List RI} {is fs : List RQ} (h : SlP w A n c xs) (hs : Shrt 64 xs) (hi : SlR w B m d is) (his : ∀ x ∈ is, x.n ≤ 64 ∧ x.n' ≤ 64) (hf : SlR w C k f fs) (hfs : ∀ x ∈ fs, x.n ≤ 64 ∧ x.n' ≤ 64) (hn : n ≤ 300) (hm : m ≤ 1000) (hk : k ≤ 1000) :
    Calls Tryz.prog 15 #[.slice A n c, .slice B m d, .slice C k f] w (RetEx (exAll (xs.map RI.pi) (allR is) (allR fs) (qvs is) (qvs fs)) w) := by
  have hlen : (xs.map RI.pi).length = n := by rw [List.length_map]; exact h.1.1
  have P1 := ref_right15 h hs (by omega) (by omega)
  have P2 := fun (w1 : World) (hb : Below w.heap.size w w1) => ref_rats (hi.below hb) his (by omega) (by omega)
  have P3 := fun (w1 : World) (hb : Below w.heap.size w w1) => ref_rats (hf.below hb) hfs (by omega) (by omega)
  have hsi := fun hh => slq_of hi his hh
  have hsf := fun hh => slq_of hf hfs hh
  have hp := progB_iff (xs.map RI.pi)
  have hexy := fun hh => @exAll_yes (xs.map RI.pi) (qvs is) (qvs fs) hh
  have hexn := fun hh => @exAll_no (xs.map RI.pi) (allR is) (allR fs) (qvs is) (qvs fs) hh
  have HP1 := Lib.hid P1
  have HP2 := Lib.hid P2
  have HP3 := Lib.hid P3
  clear P1 P2 P3
  generalize qvs is = Is at *
  generalize qvs fs = Fs at *
  generalize progB (xs.map RI.pi) = p at *
  generalize allR is = p2 at *
  generalize allR fs = p3 at *
  cases p
  case false =>
    rw [hexn (by simp)]
    clear hexn hexy hsi hsf hp
    go_enter Tryz.func15, Tryz.ntmps15
    go_wp2_with fail
    with_reducible refine HP1.out.mono ?_
    rintro _ w1 ⟨rfl, b1⟩
    go_wp2_with fail
    go_ret3
    exact ⟨rfl, b1⟩
  case true =>
  cases p2
  case false =>
    rw [hexn (by simp)]
    clear hexn hexy hsi hsf hp
    go_enter Tryz.func15, Tryz.ntmps15
    go_wp2_with fail
    with_reducible refine HP1.out.mono ?_
    rintro _ w1 ⟨rfl, b1⟩
    go_wp2_with fail
    with_reducible refine (HP2.out _ b1).mono ?_
    rintro _ w2 ⟨rfl, b2⟩
    go_wp2_with fail
    go_ret3
    exact ⟨rfl, bb b1 b2⟩
  case true =>
  cases p3
  case false =>
    rw [hexn (by simp)]
    clear hexn hexy hsi hsf hp
    go_enter Tryz.func15, Tryz.ntmps15
    go_wp2_with fail
    with_reducible refine HP1.out.mono ?_
    rintro _ w1 ⟨rfl, b1⟩
    go_wp2_with fail
    with_reducible refine (HP2.out _ b1).mono ?_
    rintro _ w2 ⟨rfl, b2⟩
    go_wp2_with fail
    with_reducible refine (HP3.out _ (bb b1 b2)).mono ?_
    rintro _ w3 ⟨rfl, b3⟩
    go_wp2_with fail
    go_ret3
    exact ⟨rfl, bb b1 (bb b2 b3)⟩
  case true =>
  rw [hexy rfl, hlen]
  have HL := Lib.hid hlen
  clear hlen
  obtain ⟨qi, zi⟩ := hsi rfl
  obtain ⟨qf, zf⟩ := hsf rfl
  have hprog := hp.1 rfl
  clear hexn hexy hsi hsf hp hi hf his hfs
  obtain ⟨R, hR⟩ : ∃ R, R = evTo (exSt Is Fs (xs.map RI.pi)) (xs.map RI.pi) n := ⟨_, rfl⟩
  rw [← hR]
  have HR := Lib.hid hR
  clear hR
  obtain ⟨i0, hi0, hz0, hz1, hz2⟩ := info_parts infoQ
  go_enter Tryz.func15, Tryz.ntmps15
  go_wp2_with fail
  with_reducible refine HP1.out.mono ?_
  rintro _ w1 ⟨rfl, b1⟩
  go_wp2_with fail
  with_reducible refine (HP2.out _ b1).mono ?_
  rintro _ w2 ⟨rfl, b2⟩
  go_wp2_with fail
  with_reducible refine (HP3.out _ (bb b1 b2)).mono ?_
  rintro _ w3 ⟨rfl, b3⟩
  have y3 := bb b1 (bb b2 b3)
  clear b1 b2 b3 HP1 HP2 HP3
  go_wp2_with fail
  have HQI := Lib.hid qi
  have HQF := Lib.hid qf
  have HPR := Lib.hid hprog
  have HSH := Lib.hid hs
  have hQl := qf.len
  have HQL := Lib.hid hQl
  have hIl := qi.len
  have HIL := Lib.hid hIl
  clear qi qf hprog hs hQl hIl
  go_loopw [9, 10, 30] (fun vv uv iv wr => ∃ (j u : Nat) (v : List Rat), j ≤ n ∧ u ≤ j ∧ iv = .int .i64 j ∧ uv = .int .i64 u ∧ Hid (u = countTo isF (xs.map RI.pi) j) ∧ Hid (OwnQ w.heap.size wr vv v) ∧ Hid (evTo (exSt Is Fs (xs.map RI.pi)) (xs.map RI.pi) j = .ok v) ∧ Hid (AllSz 64 v) ∧ Below w.heap.size w wr) (fun _ _ iv _ => n - mes iv)
  case atStart => exact ⟨0, 0, [], by omega, by omega, rfl, rfl, Lib.hid rfl, Lib.hid ⟨[], OwnC.nil, rfl, fun j x hx => by simp at hx⟩, Lib.hid rfl, Lib.hid (fun X hX => by simp at hX), y3⟩
  case round =>
    clear y3
    obtain ⟨j, u, v, hj, huj, rfl, rfl, HU, HV, HE, HZ, hb⟩ := hrel
    have hvl : v.length = j := evTo_len HE.out
    obtain ⟨A', c', ev⟩ := HV.out.form
    rw [hvl] at ev
    subst ev
    have HVL := Lib.hid hvl
    clear hvl
    by_cases hj2 : j < n
    · obtain ⟨b0, off, x, rfl, hlt, hxk, hok, c0, c1, c2, c3, c4, c5⟩ := (h.below hb).at_ hj2
      have hp := pi_at hxk
      have hfit : fits vq nq x.pi j := by rw [← hp]; exact HPR.out.1 j (by rw [HL.out]; exact hj2)
      obtain ⟨hx1, hx2⟩ := HSH.out x (mem_at hxk)
      have zf' : AllSz 64 (Fs.drop (countTo isF (xs.map RI.pi) j)) := fun X hX => zf X (List.mem_of_mem_drop hX)
      obtain ⟨r, hr⟩ : ∃ r, raw Is (Fs.drop (countTo isF (xs.map RI.pi) j)) x.pi v = r := ⟨_, rfl⟩
      have hst : exSt Is Fs (xs.map RI.pi) j ((xs.map RI.pi).getD j PI.nil) v = big r := by rw [hp]; unfold exSt; rw [hr]
      have hqv : x.op = 2 → ∃ X, qval (x.q.s, x.q.z, x.q.z') = X ∧ Q wr x.q.s x.q.A x.q.n x.q.c x.q.A' x.q.n' x.q.c' X ∧ Sz X 64 := fun h2 => by
        have h3 : fits vq nq ⟨x.op, x.a, x.b, (x.q.s, x.q.z, x.q.z')⟩ j := hfit
        rw [h2] at h3
        obtain ⟨Y, g1, g2, g3⟩ := right_Q hok.2.2.2.1 hok.2.2.2.2.1 hx1 hx2 (fit_const h3)
        exact ⟨Y, g3.symm, g1, g2⟩
      have hsz : ∀ X, r = .ok X → Sz X 130 := fun X hX => raw_sz (by rw [hr, hX]) hfit HVL.out.symm HZ.out zi zf' (fun h2 => by
        obtain ⟨Y, g1, g2, g3⟩ := hqv h2
        show Sz (qval (x.q.s, x.q.z, x.q.z')) 64
        rw [g1]; exact g3)
      have hgf : isF ((xs.map RI.pi).getD j PI.nil) = isForm x.op := by rw [hp]; rfl
      have hup : ∀ b, isForm x.op = b → u + (if b = true then 1 else 0) = countTo isF (xs.map RI.pi) (j + 1) := fun b hbb => by
        rw [hbb] at hgf
        cases b
        · rw [count_no hgf, ← HU.out]; rfl
        · rw [count_yes hgf, ← HU.out]; rfl
      have hend : ∀ e, big r = .error e → R = .error (j, e) := fun e he => by rw [HR.out]; exact evTo_err (evTo_stop HE.out (hst.trans he)) n (by omega)
      have hnext : ∀ X, big r = .ok X → evTo (exSt Is Fs (xs.map RI.pi)) (xs.map RI.pi) (j + 1) = .ok (v ++ [X]) := fun X hX => evTo_step HE.out (hst.trans hX)
      have hdr : (Fs.drop (countTo isF (xs.map RI.pi) j)).length = k - u := by rw [List.length_drop, ← HU.out, HQL.out]
      have hd0 : (Fs.drop (countTo isF (xs.map RI.pi) j)).getD 0 0 = Fs.getD u 0 := by
        rw [List.getD_eq_getElem?_getD, List.getElem?_drop, ← HU.out, Nat.add_zero, ← List.getD_eq_getElem?_getD]
      have FO := fun (w1 : World) => Lib.hid (ref_form x.op w1)
      have hb0lt : b0 < wr.heap.size := hlt
      clear hp hgf hst zf' hxk
      obtain ⟨op, a, b, q⟩ := x
      simp only at c0 c1 c2 c3 c4 c5 hqv hup FO hx1 hx2 ⊢
      have hr : raw Is (Fs.drop (countTo isF (xs.map RI.pi) j)) ⟨op, a, b, (q.s, q.z, q.z')⟩ v = r := hr
      have hfit2 : fits vq nq ⟨op, a, b, (q.s, q.z, q.z')⟩ j := hfit
      by_cases h1 : op = 1
      · subst h1
        have HUP : Hid (u = countTo isF (xs.map RI.pi) (j + 1)) := Lib.hid (hup false (by decide))
        obtain ⟨g1, g2⟩ := fit_in hfit2
        obtain ⟨i, rfl⟩ : ∃ i : Nat, a = (i : Int) := ⟨a.toNat, by omega⟩
        by_cases hi1 : i < m
        · rw [raw_in (by simpa using (show i < Is.length by have := HIL.out; omega))] at hr
          rw [show ((i : Int)).toNat = i by omega] at hr
          subst hr
          obtain ⟨bi, oi, s1, A1, n1, c1', A2, n2, c2', rfl, hbi, k0, k1, k2, qa⟩ := (HQI.out.below hb).at_ hi1
          have hX := hsz _ rfl
          generalize Is.getD i 0 = X at *
          have hbi2 : bi < wr.heap.size + 1 := by omega
          have hbi3 : bi < wr.heap.size + 1 + 1 := by omega
          obtain ⟨V, hW, Bx, Bv, x0⟩ := boxes63 52 45 wr #[.int .i64 1, .int .i64 (i : Int), .int .i64 b, .bool q.s, .slice q.A q.n q.c, .slice q.A' q.n' q.c'] #[.bool s1, .slice A1 n1 c1', .slice A2 n2 c2']
          have qv := qa.below x0
          have HW := Lib.hid hW
          clear hW Bx qa hsz hqv hup hfit hfit2 FO hok hdr hd0 g1 g2
          have PB := ref_pbits qv hX (by omega)
          have HBv := Lib.hid Bv
          have HQV := Lib.hid qv
          have yV : Below w.heap.size w V := bb hb x0
          by_cases hbig : 4096 < bitsQ X
          · have hRR := hend 5 (big_no hbig)
            subst hRR
            unfold bitsQ at hbig
            generalize max (blen X.num.natAbs : Int) (blen X.den) = t at *
            have HPB := Lib.hid PB
            clear PB Bv qv hend hnext
            go_wp2_with fail
            rw [HW.out]
            with_reducible refine HPB.out.mono ?_
            rintro _ w2 ⟨rfl, b2⟩
            go_wp2_with fail
            go_ret3
            exact ⟨rfl, bb yV b2⟩
          · have hev2 := hnext X (big_yes hbig)
            have hz2' := HZ.out.snoc (sz_of_bits hbig)
            have HEV2 := Lib.hid hev2
            have HZ2 := Lib.hid hz2'
            unfold bitsQ at hbig
            generalize max (blen X.num.natAbs : Int) (blen X.den) = t at *
            have HPB := Lib.hid PB
            have HX := Lib.hid hX
            clear PB Bv qv hend hnext hev2 hz2' hX
            go_wp2_with fail
            rw [HW.out]
            with_reducible refine HPB.out.mono ?_
            rintro _ w2 ⟨rfl, b2⟩
            obtain ⟨p0, p1, p2⟩ := (HBv.out.below' b2).three.1
            have q2 := HQV.out.below b2
            obtain ⟨vs, o1, o2, o3⟩ := HV.out.below (bb x0 b2)
            have y2 : Below w.heap.size w w2 := bb yV b2
            have hvs : vs.length = j := by rw [o2]; exact HVL.out
            have hok2 : (⟨s1, A1, n1, c1', (words X.num.natAbs), A2, n2, c2', (words X.den)⟩ : RQ).ok w2 := ⟨q2.2.1, q2.2.2, show n1 ≤ maxLen by have := q2.2.1.small HX.out.1; unfold maxLen; omega, show n2 ≤ maxLen by have := q2.2.2.small HX.out.2; unfold maxLen; omega⟩
            have HO1 := Lib.hid o1
            have HO2 := Lib.hid o2
            have HO3 := Lib.hid o3
            have HVS := Lib.hid hvs
            have HQ2 := Lib.hid q2
            have HOK := Lib.hid hok2
            clear o1 o2 o3 hvs q2 hok2
            go_wp2_with (at_builtin; refine wpList_append_C _ rfl _ _ 23 rfl w.heap.size 45 i0 _ 56 Tryz.underlying23 hi0 hz0 hz1 hz2 rfl (by decide) zeroQ _ vs rfl (HO1.out.below (below_alloc _ _)) ⟨w2.heap.size, 0, none⟩ 1 (⟨s1, A1, n1, c1', (words X.num.natAbs), A2, n2, c2', (words X.den)⟩ : RQ) rfl rfl ?c1 (rq_one _) (rq_noW _) ?c3 ?c4 ?c5 ?_)
            case c1 => exact news_new w2 _ _
            case c3 => have := HVS.out; unfold maxLen; omega
            case c4 => have := HVS.out; omega
            case c5 => have := y2.size; simp; omega
            intro v' w4 hown hgrow
            have hbn := (y2.alloc y2.size _).grown hgrow (by have := y2.size; simp; omega) (HO1.out.base)
            have HOQ := Lib.hid (OwnQ.append HO1.out HO2.out HO3.out HOK.out HQ2.out hown hgrow)
            clear hown hgrow
            go_wp2_with fail
            go_roundw
            case rel => exact ⟨j + 1, u, v ++ [X], by omega, by omega, by go_num, rfl, HUP, HOQ, HEV2, HZ2, hbn⟩
            case measure => simp [mes, intOf]; omega
        · rw [raw_in_no (by simpa using (show ¬ i < Is.length by have := HIL.out; omega))] at hr
          subst hr
          have hRR := hend 11 rfl
          subst hRR
          clear hsz hqv hup hfit hfit2 FO hok hend hnext hdr hd0 g1 g2
          go_wp2_with fail
          go_ret3
          have y1 := hb.alloc hb.size (.cells #[.int .i64 1, .int .i64 (i : Int), .int .i64 b, .bool q.s, .slice q.A q.n q.c, .slice q.A' q.n' q.c'] 52)
          exact ⟨rfl, y1.alloc y1.size _⟩
      · have e1 : (op == 1) = false := by simpa using h1
        by_cases h2 : op = 2
        · subst h2
          have HUP : Hid (u = countTo isF (xs.map RI.pi) (j + 1)) := Lib.hid (hup false (by decide))
          rw [raw_const] at hr
          obtain ⟨X, g1, g2, g3⟩ := hqv rfl
          rw [g1] at hr
          subst hr
          have hX := g3.mono (show 64 ≤ 130 by omega)
          obtain ⟨s1, A1, n1, c1', z1, A2, n2, c2', z2⟩ := q
          simp only at c3 c4 c5 g2
          obtain ⟨V, hW, Bx, Bv, x0⟩ := boxes63 52 45 wr #[.int .i64 2, .int .i64 a, .int .i64 b, .bool s1, .slice A1 n1 c1', .slice A2 n2 c2'] #[.bool s1, .slice A1 n1 c1', .slice A2 n2 c2']
          have qv := g2.below x0
          have HW := Lib.hid hW
          clear hW Bx g1 g2 g3 hsz hqv hup hfit hfit2 FO hok
          have PB := ref_pbits qv hX (by omega)
          have HBv := Lib.hid Bv
          have HQV := Lib.hid qv
          have yV : Below w.heap.size w V := bb hb x0
          by_cases hbig : 4096 < bitsQ X
          · have hRR := hend 5 (big_no hbig)
            subst hRR
            unfold bitsQ at hbig
            generalize max (blen X.num.natAbs : Int) (blen X.den) = t at *
            have HPB := Lib.hid PB
            clear PB Bv qv hend hnext
            go_wp2_with fail
            rw [HW.out]
            with_reducible refine HPB.out.mono ?_
            rintro _ w2 ⟨rfl, b2⟩
            go_wp2_with fail
            go_ret3
            exact ⟨rfl, bb yV b2⟩
          · have hev2 := hnext X (big_yes hbig)
            have hz2' := HZ.out.snoc (sz_of_bits hbig)
            have HEV2 := Lib.hid hev2
            have HZ2 := Lib.hid hz2'
            unfold bitsQ at hbig
            generalize max (blen X.num.natAbs : Int) (blen X.den) = t at *
            have HPB := Lib.hid PB
            have HX := Lib.hid hX
            clear PB Bv qv hend hnext hev2 hz2' hX
            go_wp2_with fail
            rw [HW.out]
            with_reducible refine HPB.out.mono ?_
            rintro _ w2 ⟨rfl, b2⟩
            obtain ⟨p0, p1, p2⟩ := (HBv.out.below' b2).three.1
            have q2 := HQV.out.below b2
            obtain ⟨vs, o1, o2, o3⟩ := HV.out.below (bb x0 b2)
            have y2 : Below w.heap.size w w2 := bb yV b2
            have hvs : vs.length = j := by rw [o2]; exact HVL.out
            have hok2 : (⟨s1, A1, n1, c1', (words X.num.natAbs), A2, n2, c2', (words X.den)⟩ : RQ).ok w2 := ⟨q2.2.1, q2.2.2, show n1 ≤ maxLen by have := q2.2.1.small HX.out.1; unfold maxLen; omega, show n2 ≤ maxLen by have := q2.2.2.small HX.out.2; unfold maxLen; omega⟩
            have HO1 := Lib.hid o1
            have HO2 := Lib.hid o2
            have HO3 := Lib.hid o3
            have HVS := Lib.hid hvs
            have HQ2 := Lib.hid q2
            have HOK := Lib.hid hok2
            clear o1 o2 o3 hvs q2 hok2
            go_wp2_with (at_builtin; refine wpList_append_C _ rfl _ _ 23 rfl w.heap.size 45 i0 _ 56 Tryz.underlying23 hi0 hz0 hz1 hz2 rfl (by decide) zeroQ _ vs rfl (HO1.out.below (below_alloc _ _)) ⟨w2.heap.size, 0, none⟩ 1 (⟨s1, A1, n1, c1', (words X.num.natAbs), A2, n2, c2', (words X.den)⟩ : RQ) rfl rfl ?c1 (rq_one _) (rq_noW _) ?c3 ?c4 ?c5 ?_)
            case c1 => exact news_new w2 _ _
            case c3 => have := HVS.out; unfold maxLen; omega
            case c4 => have := HVS.out; omega
            case c5 => have := y2.size; simp; omega
            intro v' w4 hown hgrow
            have hbn := (y2.alloc y2.size _).grown hgrow (by have := y2.size; simp; omega) (HO1.out.base)
            have HOQ := Lib.hid (OwnQ.append HO1.out HO2.out HO3.out HOK.out HQ2.out hown hgrow)
            clear hown hgrow
            go_wp2_with fail
            go_roundw
            case rel => exact ⟨j + 1, u, v ++ [X], by omega, by omega, by go_num, rfl, HUP, HOQ, HEV2, HZ2, hbn⟩
            case measure => simp [mes, intOf]; omega
        · have e2 : (op == 2) = false := by simpa using h2
          obtain ⟨fm, hfm⟩ : ∃ fm, isForm op = fm := ⟨_, rfl⟩
          rw [hfm] at FO
          cases fm
          case true =>
            have HUP : Hid (u + 1 = countTo isF (xs.map RI.pi) (j + 1)) := Lib.hid (hup true hfm)
            by_cases hu1 : u < k
            · rw [raw_form hfm (by rw [hdr]; omega), hd0] at hr
              subst hr
              obtain ⟨bi, oi, s1, A1, n1, c1', A2, n2, c2', rfl, hbi, k0, k1, k2, qa⟩ := (HQF.out.below hb).at_ hu1
              have hX := hsz _ rfl
              generalize Fs.getD u 0 = X at *
              have hbi2 : bi < wr.heap.size + 1 := by omega
              have hbi3 : bi < wr.heap.size + 1 + 1 := by omega
              obtain ⟨V, hW, Bx, Bv, x0⟩ := boxes63 52 45 wr #[.int .i64 op, .int .i64 a, .int .i64 b, .bool q.s, .slice q.A q.n q.c, .slice q.A' q.n' q.c'] #[.bool s1, .slice A1 n1 c1', .slice A2 n2 c2']
              have qv := qa.below x0
              have HW := Lib.hid hW
              clear hW Bx qa hsz hqv hup hfit hfit2 hok hdr hd0 hfm
              have PB := ref_pbits qv hX (by omega)
              have HBv := Lib.hid Bv
              have HQV := Lib.hid qv
              have yV : Below w.heap.size w V := bb hb x0
              by_cases hbig : 4096 < bitsQ X
              · have hRR := hend 5 (big_no hbig)
                subst hRR
                unfold bitsQ at hbig
                generalize max (blen X.num.natAbs : Int) (blen X.den) = t at *
                have HPB := Lib.hid PB
                clear PB Bv qv hend hnext
                go_wp2_with fail
                with_reducible refine (FO _).out.mono ?_
                rintro _ w0 ⟨rfl, rfl⟩
                go_wp2_with fail
                rw [HW.out]
                with_reducible refine HPB.out.mono ?_
                rintro _ w2 ⟨rfl, b2⟩
                go_wp2_with fail
                go_ret3
                exact ⟨rfl, bb yV b2⟩
              · have hev2 := hnext X (big_yes hbig)
                have hz2' := HZ.out.snoc (sz_of_bits hbig)
                have HEV2 := Lib.hid hev2
                have HZ2 := Lib.hid hz2'
                unfold bitsQ at hbig
                generalize max (blen X.num.natAbs : Int) (blen X.den) = t at *
                have HPB := Lib.hid PB
                have HX := Lib.hid hX
                clear PB Bv qv hend hnext hev2 hz2' hX
                go_wp2_with fail
                with_reducible refine (FO _).out.mono ?_
                rintro _ w0 ⟨rfl, rfl⟩
                go_wp2_with fail
                rw [HW.out]
                with_reducible refine HPB.out.mono ?_
                rintro _ w2 ⟨rfl, b2⟩
                obtain ⟨p0, p1, p2⟩ := (HBv.out.below' b2).three.1
                have q2 := HQV.out.below b2
                obtain ⟨vs, o1, o2, o3⟩ := HV.out.below (bb x0 b2)
                have y2 : Below w.heap.size w w2 := bb yV b2
                have hvs : vs.length = j := by rw [o2]; exact HVL.out
                have hok2 : (⟨s1, A1, n1, c1', (words X.num.natAbs), A2, n2, c2', (words X.den)⟩ : RQ).ok w2 := ⟨q2.2.1, q2.2.2, show n1 ≤ maxLen by have := q2.2.1.small HX.out.1; unfold maxLen; omega, show n2 ≤ maxLen by have := q2.2.2.small HX.out.2; unfold maxLen; omega⟩
                have HO1 := Lib.hid o1
                have HO2 := Lib.hid o2
                have HO3 := Lib.hid o3
                have HVS := Lib.hid hvs
                have HQ2 := Lib.hid q2
                have HOK := Lib.hid hok2
                clear o1 o2 o3 hvs q2 hok2
                go_wp2_with (at_builtin; refine wpList_append_C _ rfl _ _ 23 rfl w.heap.size 45 i0 _ 56 Tryz.underlying23 hi0 hz0 hz1 hz2 rfl (by decide) zeroQ _ vs rfl (HO1.out.below (below_alloc _ _)) ⟨w2.heap.size, 0, none⟩ 1 (⟨s1, A1, n1, c1', (words X.num.natAbs), A2, n2, c2', (words X.den)⟩ : RQ) rfl rfl ?c1 (rq_one _) (rq_noW _) ?c3 ?c4 ?c5 ?_)
                case c1 => exact news_new w2 _ _
                case c3 => have := HVS.out; unfold maxLen; omega
                case c4 => have := HVS.out; omega
                case c5 => have := y2.size; simp; omega
                intro v' w4 hown hgrow
                have hbn := (y2.alloc y2.size _).grown hgrow (by have := y2.size; simp; omega) (HO1.out.base)
                have HOQ := Lib.hid (OwnQ.append HO1.out HO2.out HO3.out HOK.out HQ2.out hown hgrow)
                clear hown hgrow
                go_wp2_with fail
                go_roundw
                case rel => exact ⟨j + 1, u + 1, v ++ [X], by omega, by omega, by go_num, by go_num, HUP, HOQ, HEV2, HZ2, hbn⟩
                case measure => simp [mes, intOf]; omega
            · rw [raw_form_no hfm (by rw [hdr]; omega)] at hr
              subst hr
              have hRR := hend 6 rfl
              subst hRR
              clear hsz hqv hup hfit hfit2 hok hend hnext hdr hd0 hfm
              go_wp2_with fail
              with_reducible refine (FO _).out.mono ?_
              rintro _ w0 ⟨rfl, rfl⟩
              go_wp2_with fail
              go_ret3
              have y1 := hb.alloc hb.size (.cells #[.int .i64 op, .int .i64 a, .int .i64 b, .bool q.s, .slice q.A q.n q.c, .slice q.A' q.n' q.c'] 52)
              exact ⟨rfl, y1.alloc y1.size _⟩
          case false =>
            have HUP : Hid (u = countTo isF (xs.map RI.pi) (j + 1)) := Lib.hid (hup false hfm)
            obtain ⟨V0, hW0, Bx, B0, x00⟩ := boxes63 52 45 wr #[.int .i64 op, .int .i64 a, .int .i64 b, .bool q.s, .slice q.A q.n q.c, .slice q.A' q.n' q.c'] #[.bool false, .slice none 0 0, .slice none 0 0]
            have ST := ref_step (ins := Is) (fs := Fs.drop (countTo isF (xs.map RI.pi) j)) (HV.out.slq.below x00) HZ.out (by omega) hfit h1 h2 hfm
            have hr9 : raw Is (Fs.drop (countTo isF (xs.map RI.pi) j)) (RI.pi ⟨op, a, b, q⟩) v = r := hr
            rw [hr9] at ST
            have hre : ∀ e, r = .error e → e = 4 ∨ e = 6 ∨ e = 11 := fun e he => raw_err (hr.trans he)
            have HST := Lib.hid ST
            have HW0 := Lib.hid hW0
            have HB0 := Lib.hid B0
            clear ST hW0 B0 Bx hr9 hr hqv hup hfit hfit2 hok hdr hd0 hfm
            cases r with
            | error e =>
              have hRR := hend e rfl
              subst hRR
              rcases hre e rfl with rfl | rfl | rfl
              all_goals
                clear hre hsz hend hnext
                go_wp2_with fail
                with_reducible refine (FO _).out.mono ?_
                rintro _ w0 ⟨rfl, rfl⟩
                go_wp2_with fail
                rw [HW0.out]
                with_reducible refine HST.out.mono ?_
                rintro _ w1 ⟨rfl, b1⟩
                have B9 := HB0.out.below' b1
                obtain ⟨⟨r0, r1, r2⟩, f0, f1, f2⟩ := B9.three
                go_wp2_with fail
                go_ret3
                exact ⟨rfl, below_put3 (bb hb (bb x00 b1)) (by have := hb.size; omega) (Nat.le_refl _) _ _ _⟩
            | ok X =>
              have hX := hsz X rfl
              clear hre hsz
              go_wp2_with fail
              with_reducible refine (FO _).out.mono ?_
              rintro _ w0 ⟨rfl, rfl⟩
              go_wp2_with fail
              rw [HW0.out]
              with_reducible refine HST.out.mono ?_
              rintro _ w1 ⟨s1, A1, n1, c1', A2, n2, c2', rfl, q1, b1⟩
              have B9 := HB0.out.below' b1
              obtain ⟨⟨r0, r1, r2⟩, f0, f1, f2⟩ := B9.three
              obtain ⟨V, hW, Bv, qv, x0⟩ : ∃ V, put3 w1 (wr.heap.size + 1) (.bool s1) (.slice A1 n1 c1') (.slice A2 n2 c2') = V ∧ Box 45 V (wr.heap.size + 1) #[.bool s1, .slice A1 n1 c1', .slice A2 n2 c2'] ∧ Q V s1 A1 n1 c1' A2 n2 c2' X ∧ Below wr.heap.size wr V :=
                ⟨_, rfl, B9.put3_own _ _ _, q1.put3 ⟨_, _, _, _, _, _, _, B9⟩, below_put3 (bb x00 b1) (by omega) (Nat.le_refl _) _ _ _⟩
              unfold put3 at hW
              have HW := Lib.hid hW
              clear hW B9 q1 b1 HST HW0 FO
              have PB := ref_pbits qv hX (by omega)
              have HBv := Lib.hid Bv
              have HQV := Lib.hid qv
              have yV : Below w.heap.size w V := bb hb x0
              by_cases hbig : 4096 < bitsQ X
              · have hRR := hend 5 (big_no hbig)
                subst hRR
                unfold bitsQ at hbig
                generalize max (blen X.num.natAbs : Int) (blen X.den) = t at *
                have HPB := Lib.hid PB
                clear PB Bv qv hend hnext
                go_wp2_with fail
                rw [HW.out]
                with_reducible refine HPB.out.mono ?_
                rintro _ w2 ⟨rfl, b2⟩
                go_wp2_with fail
                go_ret3
                exact ⟨rfl, bb yV b2⟩
              · have hev2 := hnext X (big_yes hbig)
                have hz2' := HZ.out.snoc (sz_of_bits hbig)
                have HEV2 := Lib.hid hev2
                have HZ2 := Lib.hid hz2'
                unfold bitsQ at hbig
                generalize max (blen X.num.natAbs : Int) (blen X.den) = t at *
                have HPB := Lib.hid PB
                have HX := Lib.hid hX
                clear PB Bv qv hend hnext hev2 hz2' hX
                go_wp2_with fail
                rw [HW.out]
                with_reducible refine HPB.out.mono ?_
                rintro _ w2 ⟨rfl, b2⟩
                obtain ⟨p0, p1, p2⟩ := (HBv.out.below' b2).three.1
                have q2 := HQV.out.below b2
                obtain ⟨vs, o1, o2, o3⟩ := HV.out.below (bb x0 b2)
                have y2 : Below w.heap.size w w2 := bb yV b2
                have hvs : vs.length = j := by rw [o2]; exact HVL.out
                have hok2 : (⟨s1, A1, n1, c1', (words X.num.natAbs), A2, n2, c2', (words X.den)⟩ : RQ).ok w2 := ⟨q2.2.1, q2.2.2, show n1 ≤ maxLen by have := q2.2.1.small HX.out.1; unfold maxLen; omega, show n2 ≤ maxLen by have := q2.2.2.small HX.out.2; unfold maxLen; omega⟩
                have HO1 := Lib.hid o1
                have HO2 := Lib.hid o2
                have HO3 := Lib.hid o3
                have HVS := Lib.hid hvs
                have HQ2 := Lib.hid q2
                have HOK := Lib.hid hok2
                clear o1 o2 o3 hvs q2 hok2
                go_wp2_with (at_builtin; refine wpList_append_C _ rfl _ _ 23 rfl w.heap.size 45 i0 _ 56 Tryz.underlying23 hi0 hz0 hz1 hz2 rfl (by decide) zeroQ _ vs rfl (HO1.out.below (below_alloc _ _)) ⟨w2.heap.size, 0, none⟩ 1 (⟨s1, A1, n1, c1', (words X.num.natAbs), A2, n2, c2', (words X.den)⟩ : RQ) rfl rfl ?c1 (rq_one _) (rq_noW _) ?c3 ?c4 ?c5 ?_)
                case c1 => exact news_new w2 _ _
                case c3 => have := HVS.out; unfold maxLen; omega
                case c4 => have := HVS.out; omega
                case c5 => have := y2.size; simp; omega
                intro v' w4 hown hgrow
                have hbn := (y2.alloc y2.size _).grown hgrow (by have := y2.size; simp; omega) (HO1.out.base)
                have HOQ := Lib.hid (OwnQ.append HO1.out HO2.out HO3.out HOK.out HQ2.out hown hgrow)
                clear hown hgrow
                go_wp2_with fail
                go_roundw
                case rel => exact ⟨j + 1, u, v ++ [X], by omega, by omega, by go_num, rfl, HUP, HOQ, HEV2, HZ2, hbn⟩
                case measure => simp [mes, intOf]; omega
    · obtain rfl : j = n := by omega
      have hRR : R = .ok v := by rw [HR.out, HE.out]
      subst hRR
      go_wp2_with fail
      go_ret3
      exact ⟨⟨_, _, _, rfl, HV.out.slq⟩, hb⟩

end Go.Proofs.YtfhihapgjiaobaaGreat

namespace Go.Proofs.YtfhihapgjiaobaaGreat
set_option maxRecDepth 100000
open Go.RowKit
set_option linter.unusedVariables false
set_option linter.unusedSimpArgs false

end Go.Proofs.YtfhihapgjiaobaaGreat

namespace Go.Proofs.YtfhihapgjiaobaaGreat
set_option maxRecDepth 100000
open Go.RowKit
set_option linter.unusedVariables false
set_option linter.unusedSimpArgs false

/-- a number is stored into block g at o -/
def put3o (w : World) (g o : Nat) (x0 x1 x2 : Value) : World := ((w.setCell ⟨g, o, none⟩ x0).setCell ⟨g, o + 1, none⟩ x1).setCell ⟨g, o + 2, none⟩ x2
theorem keep_put3o (w : World) (g o : Nat) (x0 x1 x2 : Value) : Keep g w (put3o w g o x0 x1 x2) := (((Keep.refl g w).setCell o x0).setCell (o + 1) x1).setCell (o + 2) x2
theorem block_put3o {t : TypeId} {w : World} {g o : Nat} {cur : Array Value} (h : w.heap[g]? = some (.cells cur t (0, 0))) (x0 x1 x2 : Value) : (put3o w g o x0 x1 x2).heap[g]? = some (.cells (((cur.setIfInBounds o x0).setIfInBounds (o + 1) x1).setIfInBounds (o + 2) x2) t (0, 0)) := by
  unfold put3o World.setCell
  simp [Array.getElem?_modify, h]
section
variable {t : TypeId} {B : Nat} {w w' : World} {xs : List RQ} {g n cap : Nat}
theorem OwnC.put3o (h : OwnC 3 RQ.cells t B w (.slice (some ⟨g, 0, none⟩) n cap) xs) {i : Nat} (hi : i < n) (x : RQ) : OwnC 3 RQ.cells t B (put3o w g (i * 3) (.bool x.s) (.slice x.A x.n x.c) (.slice x.A' x.n' x.c')) (.slice (some ⟨g, 0, none⟩) n cap) (xs.set i x) := by
  obtain ⟨hl, h2⟩ := h
  refine ⟨fun y hy => rfl, ?_⟩
  rcases h2 with ⟨e, _⟩ | ⟨g', cap', cur, e, h1, h2, h3, h4, h5, h6, h7⟩
  · injection e with e1; cases e1
  · injection e with e1 e2 e3
    injection e1 with e1
    injection e1 with e1
    subst e1 e2 e3
    have hsz : xs.length * 3 ≤ cur.size := by have := Nat.mul_le_mul_right 3 h3; omega
    have hio : i * 3 + 2 < cur.size := by omega
    refine .inr ⟨g, cap, _, by rw [List.length_set], h1, block_put3o h2 _ _ _, by rw [List.length_set]; exact h3, h4, by simp; exact h5, ?_, ?_⟩
    · rw [List.length_set]
      apply List.ext_getElem?
      intro k
      rw [List.getElem?_take]
      by_cases hk : k < xs.length * 3
      · rw [if_pos hk]
        have hk3 : k = k / 3 * 3 + k % 3 := by omega
        have hr : k % 3 < 3 := Nat.mod_lt _ (by omega)
        have old : cur.toList[k]? = (xs[k / 3]?).bind fun y => (RQ.cells y)[k % 3]? := by
          rw [← flat_at xs hl (k / 3) (k % 3) hr, ← hk3, ← h6, List.getElem?_take, if_pos hk]
        conv => rhs; rw [hk3]
        rw [flat_at (k := 3) (xs.set i x) (fun y _ => rfl) (k / 3) (k % 3) hr]
        simp only [Array.toList_setIfInBounds, List.getElem?_set, List.length_set, Array.length_toList]
        by_cases he : k / 3 = i
        · have hki : i * 3 ≤ k ∧ k < i * 3 + 3 := by omega
          rw [if_pos he.symm, if_pos (show i < xs.length from hi)]
          have h3' : k % 3 = 0 ∨ k % 3 = 1 ∨ k % 3 = 2 := by omega
          rcases h3' with e | e | e
          · rw [e, if_neg (by omega), if_neg (by omega), if_pos (by omega), if_pos (by omega)]; rfl
          · rw [e, if_neg (by omega), if_pos (by omega), if_pos (by omega)]; rfl
          · rw [e, if_pos (by omega), if_pos (by omega)]; rfl
        · rw [if_neg (by omega), if_neg (by omega), if_neg (by omega), if_neg (fun e => he e.symm)]
          exact old
      · rw [if_neg hk, List.getElem?_eq_none]
        rw [flat_len (xs.set i x) (k := 3) (fun y _ => rfl), List.length_set]
        omega
    · intro u hu
      have hm := List.mem_iff_getElem?.1 hu
      obtain ⟨k, hk⟩ := hm
      simp only [Array.toList_setIfInBounds, List.getElem?_set, List.length_set, Array.length_toList] at hk
      by_cases e2 : i * 3 + 2 = k
      · rw [if_pos e2, if_pos (by omega)] at hk
        injection hk with hk; subst hk; exact NoW_slice _ _ _
      · rw [if_neg e2] at hk
        by_cases e1 : i * 3 + 1 = k
        · rw [if_pos e1, if_pos (by omega)] at hk
          injection hk with hk; subst hk; exact NoW_slice _ _ _
        · rw [if_neg e1] at hk
          by_cases e0 : i * 3 = k
          · rw [if_pos e0, if_pos (by omega)] at hk
            injection hk with hk; subst hk; exact NoW_bool _
          · rw [if_neg e0] at hk
            exact h7 u (List.mem_of_getElem? hk)
theorem OwnC.lt_ (h : OwnC 3 RQ.cells t B w (.slice (some ⟨g, 0, none⟩) n cap) xs) : g < w.heap.size ∧ B ≤ g ∧ xs.length = n := by
  rcases h.2 with ⟨e, _⟩ | ⟨g', cap', cur, e, h1, h2, h3⟩
  · injection e with e1; cases e1
  · injection e with e1 e2 e3
    injection e1 with e1
    injection e1 with e1
    subst e1 e2 e3
    refine ⟨?_, h1, rfl⟩
    rcases Nat.lt_or_ge g w.heap.size with h9 | h9
    · exact h9
    · rw [Array.getElem?_eq_none h9] at h2; cases h2
theorem OwnC.keepG {g' : Nat} (h : OwnC 3 RQ.cells t B w (.slice (some ⟨g, 0, none⟩) n cap) xs) (k : Keep g' w w') (hne : g ≠ g') : OwnC 3 RQ.cells t B w' (.slice (some ⟨g, 0, none⟩) n cap) xs := by
  have hlt := h.lt_.1
  refine ⟨h.1, ?_⟩
  rcases h.2 with ⟨e, _⟩ | ⟨g1, cap', cur, e, h1, h2, h3⟩
  · injection e with e1; cases e1
  · have e' := e
    injection e' with e1 e2 e3
    injection e1 with e1
    injection e1 with e1
    subst e1
    exact .inr ⟨g, cap', cur, e, h1, (k.block g hlt hne).trans h2, h3⟩
end
theorem Sl.keepN {w w' : World} {A : Option Addr} {n c g : Nat} {xs : List Int} (h : Sl w A n c xs) (hg : NoWAt w g) (k : Keep g w w') : Sl w' A n c xs := by
  refine ⟨h.1, fun h0 => ?_⟩
  obtain ⟨b, off, e, hlt, hc⟩ := h.2 h0
  have hne : b ≠ g := fun e2 => by subst e2; exact hg _ _ (hc 0 h0)
  exact ⟨b, off, e, Nat.lt_of_lt_of_le hlt k.size, fun j hj => (World.cell?_of_block (a := ⟨b, off + j, none⟩) (k.block b hlt hne)).trans (hc j hj)⟩
theorem Q.keepN {w w' : World} {s : Bool} {A A' : Option Addr} {n c n' c' g : Nat} {X : Rat} (h : Q w s A n c A' n' c' X) (hg : NoWAt w g) (k : Keep g w w') : Q w' s A n c A' n' c' X := ⟨h.1, h.2.1.keepN hg k, h.2.2.keepN hg k⟩
theorem RQ.keepN {w w' : World} {g : Nat} {x : RQ} (h : x.ok w) (hg : NoWAt w g) (k : Keep g w w') : x.ok w' := ⟨h.1.keepN hg k, h.2.1.keepN hg k, h.2.2⟩
/-- slices elsewhere -/
theorem SlC.keepN {k : Nat} {V : Type} {cells : V → List Value} {ok : World → V → Prop} {w w' : World} {A : Option Addr} {n c g : Nat} {xs : List V} (h : SlC k cells ok w A n c xs) (hok : ∀ x ∈ xs, ok w' x) (kp : Keep g w w') (hne : ∀ b off, A = some ⟨b, off, none⟩ → b ≠ g) : SlC k cells ok w' A n c xs := by
  refine ⟨⟨h.1.1, h.1.2.1, h.1.2.2.1, fun x hx => ⟨hok x hx, (h.1.2.2.2 x hx).2⟩⟩, fun h0 => ?_⟩
  obtain ⟨b, off, e, hlt, hc⟩ := h.2 h0
  exact ⟨b, off, e, Nat.lt_of_lt_of_le hlt kp.size, fun j hj i hi => (World.cell?_of_block (a := ⟨b, off + j * k + i, none⟩) (kp.block b hlt (hne b off e))).trans (hc j hj i hi)⟩
/-- a number is put in the place of an element -/
theorem OwnQ.put {B : Nat} {w : World} {g n cap : Nat} {Xs : List Rat} (h : OwnQ B w (.slice (some ⟨g, 0, none⟩) n cap) Xs) {i : Nat} (hi : i < n) {x : RQ} {X : Rat} (hx : x.ok w) (hX : x.is w X) :
    OwnQ B (put3o w g (i * 3) (.bool x.s) (.slice x.A x.n x.c) (.slice x.A' x.n' x.c')) (.slice (some ⟨g, 0, none⟩) n cap) (Xs.set i X) := by
  obtain ⟨xs, h1, h2, h3⟩ := h
  have hn := h1.noW g rfl
  have hk := keep_put3o w g (i * 3) (.bool x.s) (.slice x.A x.n x.c) (.slice x.A' x.n' x.c')
  have hl := h1.lt_.2.2
  refine ⟨xs.set i x, h1.put3o hi x, by rw [List.length_set, List.length_set, h2], fun j y hy => ?_⟩
  rw [List.getElem?_set] at hy
  rw [List.getD_eq_getElem?_getD, List.getElem?_set]
  by_cases e : i = j
  · subst e
    rw [if_pos rfl, if_pos (by omega)] at hy
    injection hy with hy
    subst hy
    rw [if_pos rfl, if_pos (by omega)]
    exact ⟨RQ.keepN hx hn hk, Q.keepN hX hn hk⟩
  · rw [if_neg e] at hy
    rw [if_neg e, ← List.getD_eq_getElem?_getD]
    obtain ⟨g1, g2⟩ := h3 j y hy
    exact ⟨RQ.keepN g1 hn hk, Q.keepN g2 hn hk⟩
theorem OwnQ.noW {B : Nat} {w : World} {g n cap : Nat} {Xs : List Rat} (h : OwnQ B w (.slice (some ⟨g, 0, none⟩) n cap) Xs) : NoWAt w g := by
  obtain ⟨xs, h1, _⟩ := h
  exact h1.noW g rfl
theorem OwnQ.lt {B : Nat} {w : World} {g n cap : Nat} {Xs : List Rat} (h : OwnQ B w (.slice (some ⟨g, 0, none⟩) n cap) Xs) : g < w.heap.size ∧ B ≤ g ∧ Xs.length = n := by
  obtain ⟨xs, h1, h2, _⟩ := h
  obtain ⟨g1, g2, g3⟩ := h1.lt_
  exact ⟨g1, g2, by omega⟩
/-- another row -/
theorem OwnQ.keepG {B : Nat} {w w' : World} {g g' n cap : Nat} {Xs : List Rat} (h : OwnQ B w (.slice (some ⟨g, 0, none⟩) n cap) Xs) (hn : NoWAt w g') (k : Keep g' w w') (hne : g ≠ g') : OwnQ B w' (.slice (some ⟨g, 0, none⟩) n cap) Xs := by
  obtain ⟨xs, h1, h2, h3⟩ := h
  exact ⟨xs, h1.keepG k hne, h2, fun j x hx => ⟨RQ.keepN (h3 j x hx).1 hn k, Q.keepN (h3 j x hx).2 hn k⟩⟩
theorem SlQ.keepN {w w' : World} {A : Option Addr} {n c g : Nat} {Xs : List Rat} (h : SlQ w A n c Xs) (hn : NoWAt w g) (k : Keep g w w') (hne : ∀ b off, A = some ⟨b, off, none⟩ → b ≠ g) : SlQ w' A n c Xs := by
  obtain ⟨xs, h1, h2, h3⟩ := h
  exact ⟨xs, SlC.keepN h1 (fun x hx => RQ.keepN (h1.1.2.2.2 x hx).1 hn k) k hne, h2, fun j x hx => Q.keepN (h3 j x hx) hn k⟩
/-- an element as it lies -/
theorem OwnQ.at_ {B : Nat} {w : World} {g n cap : Nat} {Xs : List Rat} (h : OwnQ B w (.slice (some ⟨g, 0, none⟩) n cap) Xs) {j : Nat} (hj : j < n) : ∃ s A1 n1 c1 A2 n2 c2,
    w.cell? ⟨g, j * 3, none⟩ = some (.bool s) ∧ w.cell? ⟨g, j * 3 + 1, none⟩ = some (.slice A1 n1 c1) ∧ w.cell? ⟨g, j * 3 + 2, none⟩ = some (.slice A2 n2 c2) ∧ Q w s A1 n1 c1 A2 n2 c2 (Xs.getD j 0) ∧
    w.frozen? ⟨g, j * 3, none⟩ = false ∧ w.frozen? ⟨g, j * 3 + 1, none⟩ = false ∧ w.frozen? ⟨g, j * 3 + 2, none⟩ = false := by
  obtain ⟨b, off, s, A1, n1, c1, A2, n2, c2, e, hlt, k0, k1, k2, q⟩ := h.slq.at_ hj
  injection e with e
  injection e with e1 e2
  subst e1 e2
  rw [Nat.zero_add] at k0 k1 k2
  obtain ⟨xs, h1, _⟩ := h
  have hf : ∀ i, w.frozen? ⟨g, i, none⟩ = false := fun i => by
    rcases h1.2 with ⟨e, _⟩ | ⟨g1, cap', cur, e, _, h2, _⟩
    · injection e with e1; cases e1
    · injection e with e1 e2 e3
      injection e1 with e1
      injection e1 with e1
      subst e1
      simp [World.frozen?, h2]
  exact ⟨s, A1, n1, c1, A2, n2, c2, k0, k1, k2, q, hf _, hf _, hf _⟩

end Go.Proofs.YtfhihapgjiaobaaGreat
