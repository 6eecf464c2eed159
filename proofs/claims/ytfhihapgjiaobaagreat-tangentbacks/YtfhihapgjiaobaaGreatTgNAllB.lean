/-
  What gradineref17.Give returns: roots. Conditions: the numbers have at most 64 words, the quotient at most 200.
-/
import Derived.Test.YtfhihapgjiaobaaGreatTgMoreAllB
import Derived.Deep.RegionHeld3
namespace Go.Proofs.YtfhihapgjiaobaaGreat
set_option maxRecDepth 100000
open Go.RowKit
set_option linter.unusedVariables false
set_option linter.unusedSimpArgs false


set_option maxRecDepth 100000 in
set_option maxHeartbeats 8000000 in
theorem gv_sub {w : World} {s_y : Bool} {A_y D_y : Option Addr} {n_y c_y m_y d_y : Nat} {X_y : Rat} {s_va : Bool} {A_va D_va : Option Addr} {n_va c_va m_va d_va : Nat} {X_va : Rat} {s_vb : Bool} {A_vb D_vb : Option Addr} {n_vb c_vb m_vb d_vb : Nat} {X_vb : Rat} {s_g : Bool} {A_g D_g : Option Addr} {n_g c_g m_g d_g : Nat} {X_g : Rat} {q : RQ} {a b : Int} (q_y : Q w s_y A_y n_y c_y D_y m_y d_y X_y) (z_y : Sz X_y 64) (q_va : Q w s_va A_va n_va c_va D_va m_va d_va X_va) (z_va : Sz X_va 64) (q_vb : Q w s_vb A_vb n_vb c_vb D_vb m_vb d_vb X_vb) (z_vb : Sz X_vb 64) (q_g : Q w s_g A_g n_g c_g D_g m_g d_g X_g) (z_g : Sz X_g 64) :
    Calls Tryz.prog 44 #[.agg #[.int .i64 5, .int .i64 a, .int .i64 b, .bool q.s, .slice q.A q.n q.c, .slice q.A' q.n' q.c'], .agg #[.bool s_y, .slice A_y n_y c_y, .slice D_y m_y d_y], .agg #[.bool s_va, .slice A_va n_va c_va, .slice D_va m_va d_va, .bool s_vb, .slice A_vb n_vb c_vb, .slice D_vb m_vb d_vb], .agg #[.bool s_g, .slice A_g n_g c_g, .slice D_g m_g d_g]] w (RetGv true (X_g) (-X_g) w) := by
  obtain ⟨V, hW, Bx, By, Bv, Bg, Br, Bs, hb0, hsz⟩ := boxesW 52 45 74 45 45 45 w #[.int .i64 5, .int .i64 a, .int .i64 b, .bool q.s, .slice q.A q.n q.c, .slice q.A' q.n' q.c'] #[.bool s_y, .slice A_y n_y c_y, .slice D_y m_y d_y] #[.bool s_va, .slice A_va n_va c_va, .slice D_va m_va d_va, .bool s_vb, .slice A_vb n_vb c_vb, .slice D_vb m_vb d_vb] #[.bool s_g, .slice A_g n_g c_g, .slice D_g m_g d_g] #[.bool false, .slice none 0 0, .slice none 0 0] #[.bool false, .slice none 0 0, .slice none 0 0]
  have hS : ∀ w', Below V.heap.size V w' → w'.cell? ⟨w.heap.size, 0, none⟩ = some (.int .i64 5) ∧ w'.cell? ⟨w.heap.size + 1 + 1 + 1, 0, none⟩ = some (.bool s_g) ∧ w'.cell? ⟨w.heap.size + 1 + 1 + 1, 1, none⟩ = some (.slice A_g n_g c_g) ∧ w'.cell? ⟨w.heap.size + 1 + 1 + 1, 2, none⟩ = some (.slice D_g m_g d_g) := fun w' hb => ⟨(Bx.below' hb).six.1.1, (Bg.below' hb).three.1.1, (Bg.below' hb).three.1.2.1, (Bg.below' hb).three.1.2.2⟩
  have H_g := Lib.hid (fun (w1 : World) (hb : Below V.heap.size V w1) => q_g.below (bb hb0 hb))
  have HBr := Lib.hid Br
  have HBs := Lib.hid Bs
  have HW := Lib.hid hW
  have HS := Lib.hid hS
  clear hS Bx By Bv Bg Br Bs hW q_y q_va q_vb q_g
  go_enter Tryz.func44, Tryz.ntmps44
  go_wp2_with fail
  rw [HW.out]
  obtain ⟨p0, p1, p2, p3⟩ := HS.out _ (Below.refl _ V)
  have B9 := HBr.out.below' (Below.refl _ V)
  have C9 := HBs.out.below' (Below.refl _ V)
  obtain ⟨⟨r0, r1, r2⟩, f0, f1, f2⟩ := B9.three
  obtain ⟨⟨u0, u1, u2⟩, g0, g1, g2⟩ := C9.three
  go_region_with (first
    | (go_at_call 76; (with_reducible refine (ref_neg ?h1 z_g (by omega)).mono ?_); (case h1 => exact H_g.out _ (Below.refl _ V).drew); rintro _ w1 ⟨s1, A1, n1, c1, E1, m1, d1, rfl, q1, b1⟩; have x1 : Below V.heap.size V w1 := Below.undrew b1; obtain ⟨p0, p1, p2, p3⟩ := HS.out _ x1; have B9 := HBr.out.below' x1; have C9 := HBs.out.below' x1; obtain ⟨⟨r0, r1, r2⟩, f0, f1, f2⟩ := B9.three; obtain ⟨⟨u0, u1, u2⟩, g0, g1, g2⟩ := C9.three))
  all_goals
    go_wp2_with fail
    (try simp only [Act.put, List.setIfInBounds_toArray, List.set_cons_zero, List.set_cons_succ, List.getElem_toArray, List.getElem_cons_zero, List.getElem_cons_succ])
    refine bodyPost_ret (v := .tuple #[.agg #[.bool s_g, .slice A_g n_g c_g, .slice D_g m_g d_g], .agg #[.bool s1, .slice A1 n1 c1, .slice E1 m1 d1], .int .i64 0]) (by simp [results, Tryz.results44, go_sem, r0, r1, r2, u0, u1, u2]) rfl ?_
    obtain ⟨P9, x9⟩ := two_puts (y0 := .bool s_g) (y1 := .slice A_g n_g c_g) (y2 := .slice D_g m_g d_g) (z0 := .bool s1) (z1 := .slice A1 n1 c1) (z2 := .slice E1 m1 d1) B9 C9 (by omega) (bb hb0 x1) (by omega) (by omega)
    exact ⟨_, _, _, _, _, _, _, _, _, _, _, _, _, _, rfl, P9 _ _ _ _ _ _ _ _ (H_g.out _ x1), fun _ => P9 _ _ _ _ _ _ _ _ q1, x9⟩

end Go.Proofs.YtfhihapgjiaobaaGreat

namespace Go.Proofs.YtfhihapgjiaobaaGreat
set_option maxRecDepth 100000
open Go.RowKit
set_option linter.unusedVariables false
set_option linter.unusedSimpArgs false


set_option maxRecDepth 100000 in
set_option maxHeartbeats 8000000 in
theorem gv_mul {w : World} {s_y : Bool} {A_y D_y : Option Addr} {n_y c_y m_y d_y : Nat} {X_y : Rat} {s_va : Bool} {A_va D_va : Option Addr} {n_va c_va m_va d_va : Nat} {X_va : Rat} {s_vb : Bool} {A_vb D_vb : Option Addr} {n_vb c_vb m_vb d_vb : Nat} {X_vb : Rat} {s_g : Bool} {A_g D_g : Option Addr} {n_g c_g m_g d_g : Nat} {X_g : Rat} {q : RQ} {a b : Int} (q_y : Q w s_y A_y n_y c_y D_y m_y d_y X_y) (z_y : Sz X_y 64) (q_va : Q w s_va A_va n_va c_va D_va m_va d_va X_va) (z_va : Sz X_va 64) (q_vb : Q w s_vb A_vb n_vb c_vb D_vb m_vb d_vb X_vb) (z_vb : Sz X_vb 64) (q_g : Q w s_g A_g n_g c_g D_g m_g d_g X_g) (z_g : Sz X_g 64) :
    Calls Tryz.prog 44 #[.agg #[.int .i64 6, .int .i64 a, .int .i64 b, .bool q.s, .slice q.A q.n q.c, .slice q.A' q.n' q.c'], .agg #[.bool s_y, .slice A_y n_y c_y, .slice D_y m_y d_y], .agg #[.bool s_va, .slice A_va n_va c_va, .slice D_va m_va d_va, .bool s_vb, .slice A_vb n_vb c_vb, .slice D_vb m_vb d_vb], .agg #[.bool s_g, .slice A_g n_g c_g, .slice D_g m_g d_g]] w (RetGv true (X_g * X_vb) (X_g * X_va) w) := by
  obtain ⟨V, hW, Bx, By, Bv, Bg, Br, Bs, hb0, hsz⟩ := boxesW 52 45 74 45 45 45 w #[.int .i64 6, .int .i64 a, .int .i64 b, .bool q.s, .slice q.A q.n q.c, .slice q.A' q.n' q.c'] #[.bool s_y, .slice A_y n_y c_y, .slice D_y m_y d_y] #[.bool s_va, .slice A_va n_va c_va, .slice D_va m_va d_va, .bool s_vb, .slice A_vb n_vb c_vb, .slice D_vb m_vb d_vb] #[.bool s_g, .slice A_g n_g c_g, .slice D_g m_g d_g] #[.bool false, .slice none 0 0, .slice none 0 0] #[.bool false, .slice none 0 0, .slice none 0 0]
  have hS : ∀ w', Below V.heap.size V w' → w'.cell? ⟨w.heap.size, 0, none⟩ = some (.int .i64 6) ∧ w'.cell? ⟨w.heap.size + 1 + 1 + 1, 0, none⟩ = some (.bool s_g) ∧ w'.cell? ⟨w.heap.size + 1 + 1 + 1, 1, none⟩ = some (.slice A_g n_g c_g) ∧ w'.cell? ⟨w.heap.size + 1 + 1 + 1, 2, none⟩ = some (.slice D_g m_g d_g) ∧ w'.cell? ⟨w.heap.size + 1 + 1, 0, none⟩ = some (.bool s_va) ∧ w'.cell? ⟨w.heap.size + 1 + 1, 1, none⟩ = some (.slice A_va n_va c_va) ∧ w'.cell? ⟨w.heap.size + 1 + 1, 2, none⟩ = some (.slice D_va m_va d_va) ∧ w'.cell? ⟨w.heap.size + 1 + 1, 3, none⟩ = some (.bool s_vb) ∧ w'.cell? ⟨w.heap.size + 1 + 1, 4, none⟩ = some (.slice A_vb n_vb c_vb) ∧ w'.cell? ⟨w.heap.size + 1 + 1, 5, none⟩ = some (.slice D_vb m_vb d_vb) := fun w' hb => ⟨(Bx.below' hb).six.1.1, (Bg.below' hb).three.1.1, (Bg.below' hb).three.1.2.1, (Bg.below' hb).three.1.2.2, (Bv.below' hb).six.1.1, (Bv.below' hb).six.1.2.1, (Bv.below' hb).six.1.2.2.1, (Bv.below' hb).six.1.2.2.2.1, (Bv.below' hb).six.1.2.2.2.2.1, (Bv.below' hb).six.1.2.2.2.2.2⟩
  have hP : ∀ (w' : World) (k : Nat) (x0 x1 x2 : Value), (fun w' : World => w'.cell? ⟨w.heap.size, 0, none⟩ = some (.int .i64 6) ∧ w'.cell? ⟨w.heap.size + 1 + 1 + 1, 0, none⟩ = some (.bool s_g) ∧ w'.cell? ⟨w.heap.size + 1 + 1 + 1, 1, none⟩ = some (.slice A_g n_g c_g) ∧ w'.cell? ⟨w.heap.size + 1 + 1 + 1, 2, none⟩ = some (.slice D_g m_g d_g) ∧ w'.cell? ⟨w.heap.size + 1 + 1, 0, none⟩ = some (.bool s_va) ∧ w'.cell? ⟨w.heap.size + 1 + 1, 1, none⟩ = some (.slice A_va n_va c_va) ∧ w'.cell? ⟨w.heap.size + 1 + 1, 2, none⟩ = some (.slice D_va m_va d_va) ∧ w'.cell? ⟨w.heap.size + 1 + 1, 3, none⟩ = some (.bool s_vb) ∧ w'.cell? ⟨w.heap.size + 1 + 1, 4, none⟩ = some (.slice A_vb n_vb c_vb) ∧ w'.cell? ⟨w.heap.size + 1 + 1, 5, none⟩ = some (.slice D_vb m_vb d_vb)) w' → V.heap.size ≤ w'.heap.size → w.heap.size + 1 + 1 + 1 + 1 ≤ k → (fun w' : World => w'.cell? ⟨w.heap.size, 0, none⟩ = some (.int .i64 6) ∧ w'.cell? ⟨w.heap.size + 1 + 1 + 1, 0, none⟩ = some (.bool s_g) ∧ w'.cell? ⟨w.heap.size + 1 + 1 + 1, 1, none⟩ = some (.slice A_g n_g c_g) ∧ w'.cell? ⟨w.heap.size + 1 + 1 + 1, 2, none⟩ = some (.slice D_g m_g d_g) ∧ w'.cell? ⟨w.heap.size + 1 + 1, 0, none⟩ = some (.bool s_va) ∧ w'.cell? ⟨w.heap.size + 1 + 1, 1, none⟩ = some (.slice A_va n_va c_va) ∧ w'.cell? ⟨w.heap.size + 1 + 1, 2, none⟩ = some (.slice D_va m_va d_va) ∧ w'.cell? ⟨w.heap.size + 1 + 1, 3, none⟩ = some (.bool s_vb) ∧ w'.cell? ⟨w.heap.size + 1 + 1, 4, none⟩ = some (.slice A_vb n_vb c_vb) ∧ w'.cell? ⟨w.heap.size + 1 + 1, 5, none⟩ = some (.slice D_vb m_vb d_vb)) (put3 w' k x0 x1 x2) := fun w' k x0 x1 x2 hh h1 h2 => by
    obtain ⟨p0, p1, p2, p3, p4, p5, p6, p7, p8, p9⟩ := hh
    exact ⟨(cell_put3 (by omega) (by omega)).trans p0, (cell_put3 (by omega) (by omega)).trans p1, (cell_put3 (by omega) (by omega)).trans p2, (cell_put3 (by omega) (by omega)).trans p3, (cell_put3 (by omega) (by omega)).trans p4, (cell_put3 (by omega) (by omega)).trans p5, (cell_put3 (by omega) (by omega)).trans p6, (cell_put3 (by omega) (by omega)).trans p7, (cell_put3 (by omega) (by omega)).trans p8, (cell_put3 (by omega) (by omega)).trans p9⟩
  have H_g := Lib.hid (fun (w1 : World) (hb : Below V.heap.size V w1) => q_g.below (bb hb0 hb))
  have H_va := Lib.hid (fun (w1 : World) (hb : Below V.heap.size V w1) => q_va.below (bb hb0 hb))
  have H_vb := Lib.hid (fun (w1 : World) (hb : Below V.heap.size V w1) => q_vb.below (bb hb0 hb))
  have HBr := Lib.hid Br
  have HBs := Lib.hid Bs
  have HW := Lib.hid hW
  have HS := Lib.hid hS
  have HP := Lib.hid hP
  clear hS hP Bx By Bv Bg Br Bs hW q_y q_va q_vb q_g
  go_enter Tryz.func44, Tryz.ntmps44
  go_wp2_with fail
  rw [HW.out]
  obtain ⟨p0, p1, p2, p3, p4, p5, p6, p7, p8, p9⟩ := HS.out _ (Below.refl _ V)
  have B9 := HBr.out.below' (Below.refl _ V)
  have C9 := HBs.out.below' (Below.refl _ V)
  obtain ⟨⟨r0, r1, r2⟩, f0, f1, f2⟩ := B9.three
  obtain ⟨⟨u0, u1, u2⟩, g0, g1, g2⟩ := C9.three
  refine wp_region_held_drew (S := (fun w' => w'.cell? ⟨w.heap.size, 0, none⟩ = some (.int .i64 6) ∧ w'.cell? ⟨w.heap.size + 1 + 1 + 1, 0, none⟩ = some (.bool s_g) ∧ w'.cell? ⟨w.heap.size + 1 + 1 + 1, 1, none⟩ = some (.slice A_g n_g c_g) ∧ w'.cell? ⟨w.heap.size + 1 + 1 + 1, 2, none⟩ = some (.slice D_g m_g d_g) ∧ w'.cell? ⟨w.heap.size + 1 + 1, 0, none⟩ = some (.bool s_va) ∧ w'.cell? ⟨w.heap.size + 1 + 1, 1, none⟩ = some (.slice A_va n_va c_va) ∧ w'.cell? ⟨w.heap.size + 1 + 1, 2, none⟩ = some (.slice D_va m_va d_va) ∧ w'.cell? ⟨w.heap.size + 1 + 1, 3, none⟩ = some (.bool s_vb) ∧ w'.cell? ⟨w.heap.size + 1 + 1, 4, none⟩ = some (.slice A_vb n_vb c_vb) ∧ w'.cell? ⟨w.heap.size + 1 + 1, 5, none⟩ = some (.slice D_vb m_vb d_vb))) (by kernel_rfl) (HS.out _ (Below.refl _ V).drew) (fun hHeld => ?_)
  refine wpAnyH_take (i := 0) (v := ?_) rfl (by kernel_rfl) (by kernel_rfl) (by kernel_rfl) (fun _ _ _ h => h) (Or.inl ⟨by kernel_rfl, ?_⟩) (by assumption) ?_
  rotate_left
  · intro w hSw
    (try dsimp only at hSw)
    go_simp
    (try with_reducible rfl)
  try simp only [Act.put, List.setIfInBounds_toArray, List.set_cons_zero, List.set_cons_succ, List.getElem_toArray, List.getElem_cons_zero, List.getElem_cons_succ]
  refine wpAnyH_take (i := 1) (v := ?_) rfl (by kernel_rfl) (by kernel_rfl) (by kernel_rfl) (fun _ _ _ h => h) (Or.inl ⟨by kernel_rfl, ?_⟩) (by assumption) ?_
  rotate_left
  · intro w hSw
    (try dsimp only at hSw)
    go_simp
    (try with_reducible rfl)
  try simp only [Act.put, List.setIfInBounds_toArray, List.set_cons_zero, List.set_cons_succ, List.getElem_toArray, List.getElem_cons_zero, List.getElem_cons_succ]
  refine wpAnyH_take (i := 2) (v := ?_) rfl (by kernel_rfl) (by kernel_rfl) (by kernel_rfl) (fun _ _ _ h => h) (Or.inl ⟨by kernel_rfl, ?_⟩) (by assumption) ?_
  rotate_left
  · intro w hSw
    (try dsimp only at hSw)
    go_simp
    (try with_reducible rfl)
  try simp only [Act.put, List.setIfInBounds_toArray, List.set_cons_zero, List.set_cons_succ, List.getElem_toArray, List.getElem_cons_zero, List.getElem_cons_succ]
  refine wpAnyH_take (i := 4) (v := ?_) rfl (by kernel_rfl) (by kernel_rfl) (by kernel_rfl) (fun _ _ _ h => h) (Or.inl ⟨by kernel_rfl, ?_⟩) (by assumption) ?_
  rotate_left
  · intro w hSw
    (try dsimp only at hSw)
    go_simp
    (try with_reducible rfl)
  try simp only [Act.put, List.setIfInBounds_toArray, List.set_cons_zero, List.set_cons_succ, List.getElem_toArray, List.getElem_cons_zero, List.getElem_cons_succ]
  refine wpAnyH_take (i := 5) (v := ?_) rfl (by kernel_rfl) (by kernel_rfl) (by kernel_rfl) (fun _ _ _ h => h) (Or.inl ⟨by kernel_rfl, ?_⟩) (by assumption) ?_
  rotate_left
  · intro w hSw
    (try dsimp only at hSw)
    go_simp
    (try with_reducible rfl)
  try simp only [Act.put, List.setIfInBounds_toArray, List.set_cons_zero, List.set_cons_succ, List.getElem_toArray, List.getElem_cons_zero, List.getElem_cons_succ]
  refine wpAnyH_take (i := 6) (v := ?_) rfl (by kernel_rfl) (by kernel_rfl) (by kernel_rfl) (fun _ _ _ h => h) (Or.inl ⟨by kernel_rfl, ?_⟩) (by assumption) ?_
  rotate_left
  · intro w hSw
    (try dsimp only at hSw)
    go_simp
    (try with_reducible rfl)
  try simp only [Act.put, List.setIfInBounds_toArray, List.set_cons_zero, List.set_cons_succ, List.getElem_toArray, List.getElem_cons_zero, List.getElem_cons_succ]
  refine wpAnyH_ready (rs := [3]) (by kernel_rfl) (by simp) ?_
  refine AllReadyH.cons rfl (fun K hK => ?_) AllReadyH.nil
  go_simp
  refine (ref_qmul (H_g.out _ (Below.refl _ V).drew) (H_vb.out _ (Below.refl _ V).drew) z_g z_vb (by omega)).mono ?_
  rintro _ w1 ⟨s1, A1, n1, c1, E1, m1, d1, rfl, q1, b1⟩
  have x1 : Below V.heap.size V w1 := Below.undrew b1
  (try go_wp2_with fail)
  refine hK.out _ _ (HS.out _ x1) (fun hHeld => ?_)
  clear hK K
  try simp only [Act.put, List.setIfInBounds_toArray, List.set_cons_zero, List.set_cons_succ, List.getElem_toArray, List.getElem_cons_zero, List.getElem_cons_succ]
  refine wpAnyH_ready (rs := [7]) (by kernel_rfl) (by simp) ?_
  refine AllReadyH.cons rfl (fun K hK => ?_) AllReadyH.nil
  go_simp
  refine (ref_qmul (H_g.out _ x1) (H_va.out _ x1) z_g z_va (by omega)).mono ?_
  rintro _ w2 ⟨s2, A2, n2, c2, E2, m2, d2, rfl, q2, b2⟩
  have x2 := bb x1 b2
  (try go_wp2_with fail)
  refine hK.out _ _ (HS.out _ x2) (fun hHeld => ?_)
  clear hK K
  try simp only [Act.put, List.setIfInBounds_toArray, List.set_cons_zero, List.set_cons_succ, List.getElem_toArray, List.getElem_cons_zero, List.getElem_cons_succ]
  have B9 := HBr.out.below' x2
  have C9 := HBs.out.below' x2
  obtain ⟨⟨r0, r1, r2⟩, f0, f1, f2⟩ := B9.three
  obtain ⟨⟨u0, u1, u2⟩, g0, g1, g2⟩ := C9.three
  have K4 := HP.out w2 (w.heap.size + 1 + 1 + 1 + 1) (.bool s1) (.slice A1 n1 c1) (.slice E1 m1 d1) (HS.out _ x2) x2.size (by omega)
  have K5 := HP.out _ (w.heap.size + 1 + 1 + 1 + 1 + 1) (.bool s2) (.slice A2 n2 c2) (.slice E2 m2 d2) K4 (by unfold put3; simp only [World.setCell]; exact Nat.le_trans x2.size (by simp)) (by omega)
  have HS4 := Lib.hid K4
  have HS5 := Lib.hid K5
  clear K4 K5
  refine wpAnyH_ready (rs := [8]) (by kernel_rfl) (by simp) ?_
  refine AllReadyH.cons rfl (fun K hK => ?_) AllReadyH.nil
  go_simp
  (try go_wp2_with fail)
  refine hK.out _ _ (HS4.out) (fun hHeld => ?_)
  clear hK K
  try simp only [Act.put, List.setIfInBounds_toArray, List.set_cons_zero, List.set_cons_succ, List.getElem_toArray, List.getElem_cons_zero, List.getElem_cons_succ]
  refine wpAnyH_ready (rs := [9]) (by kernel_rfl) (by simp) ?_
  refine AllReadyH.cons rfl (fun K hK => ?_) AllReadyH.nil
  go_simp
  (try go_wp2_with fail)
  refine hK.out _ _ (HS5.out) (fun hHeld => ?_)
  clear hK K
  try simp only [Act.put, List.setIfInBounds_toArray, List.set_cons_zero, List.set_cons_succ, List.getElem_toArray, List.getElem_cons_zero, List.getElem_cons_succ]
  refine wpAnyH_take (i := 10) (v := ?_) rfl (by kernel_rfl) (by kernel_rfl) (by kernel_rfl) (fun _ _ _ h => h) (Or.inl ⟨by kernel_rfl, ?_⟩) (by assumption) ?_
  rotate_left
  · intro w hSw
    (try dsimp only at hSw)
    go_simp
    (try with_reducible rfl)
  try simp only [Act.put, List.setIfInBounds_toArray, List.set_cons_zero, List.set_cons_succ, List.getElem_toArray, List.getElem_cons_zero, List.getElem_cons_succ]
  refine wpAnyH_done (by kernel_rfl) ?_ _
  go_wp2_with fail
  refine bodyPost_ret (v := .tuple #[.agg #[.bool s1, .slice A1 n1 c1, .slice E1 m1 d1], .agg #[.bool s2, .slice A2 n2 c2, .slice E2 m2 d2], .int .i64 0]) (by simp [results, Tryz.results44, go_sem, r0, r1, r2, u0, u1, u2]) rfl ?_
  obtain ⟨P9, x9⟩ := two_puts (y0 := .bool s1) (y1 := .slice A1 n1 c1) (y2 := .slice E1 m1 d1) (z0 := .bool s2) (z1 := .slice A2 n2 c2) (z2 := .slice E2 m2 d2) B9 C9 (by omega) (bb hb0 x2) (by omega) (by omega)
  exact ⟨_, _, _, _, _, _, _, _, _, _, _, _, _, _, rfl, P9 _ _ _ _ _ _ _ _ (q1.below b2), fun _ => P9 _ _ _ _ _ _ _ _ q2, x9⟩

end Go.Proofs.YtfhihapgjiaobaaGreat

namespace Go.Proofs.YtfhihapgjiaobaaGreat
set_option maxRecDepth 100000
open Go.RowKit
set_option linter.unusedVariables false
set_option linter.unusedSimpArgs false

set_option maxRecDepth 100000 in
set_option maxHeartbeats 8000000 in
theorem gv_log {w : World} {s_y : Bool} {A_y D_y : Option Addr} {n_y c_y m_y d_y : Nat} {X_y : Rat} {s_va : Bool} {A_va D_va : Option Addr} {n_va c_va m_va d_va : Nat} {X_va : Rat} {s_vb : Bool} {A_vb D_vb : Option Addr} {n_vb c_vb m_vb d_vb : Nat} {X_vb : Rat} {s_g : Bool} {A_g D_g : Option Addr} {n_g c_g m_g d_g : Nat} {X_g : Rat} {q : RQ} {a b : Int} (q_y : Q w s_y A_y n_y c_y D_y m_y d_y X_y) (z_y : Sz X_y 64) (q_va : Q w s_va A_va n_va c_va D_va m_va d_va X_va) (z_va : Sz X_va 64) (q_vb : Q w s_vb A_vb n_vb c_vb D_vb m_vb d_vb X_vb) (z_vb : Sz X_vb 64) (q_g : Q w s_g A_g n_g c_g D_g m_g d_g X_g) (z_g : Sz X_g 64) (h0 : X_va ≠ 0) (z_q : Sz (X_g / (X_va)) 200) :
    Calls Tryz.prog 44 #[.agg #[.int .i64 10, .int .i64 a, .int .i64 b, .bool q.s, .slice q.A q.n q.c, .slice q.A' q.n' q.c'], .agg #[.bool s_y, .slice A_y n_y c_y, .slice D_y m_y d_y], .agg #[.bool s_va, .slice A_va n_va c_va, .slice D_va m_va d_va, .bool s_vb, .slice A_vb n_vb c_vb, .slice D_vb m_vb d_vb], .agg #[.bool s_g, .slice A_g n_g c_g, .slice D_g m_g d_g]] w (RetGv true (X_g / (X_va)) (-(X_g / (X_va) * X_y)) w) := by
  obtain ⟨V, hW, Bx, By, Bv, Bg, Br, Bs, hb0, hsz⟩ := boxesW 52 45 74 45 45 45 w #[.int .i64 10, .int .i64 a, .int .i64 b, .bool q.s, .slice q.A q.n q.c, .slice q.A' q.n' q.c'] #[.bool s_y, .slice A_y n_y c_y, .slice D_y m_y d_y] #[.bool s_va, .slice A_va n_va c_va, .slice D_va m_va d_va, .bool s_vb, .slice A_vb n_vb c_vb, .slice D_vb m_vb d_vb] #[.bool s_g, .slice A_g n_g c_g, .slice D_g m_g d_g] #[.bool false, .slice none 0 0, .slice none 0 0] #[.bool false, .slice none 0 0, .slice none 0 0]
  have hS : ∀ w', Below V.heap.size V w' → w'.cell? ⟨w.heap.size, 0, none⟩ = some (.int .i64 10) ∧ w'.cell? ⟨w.heap.size + 1 + 1 + 1, 0, none⟩ = some (.bool s_g) ∧ w'.cell? ⟨w.heap.size + 1 + 1 + 1, 1, none⟩ = some (.slice A_g n_g c_g) ∧ w'.cell? ⟨w.heap.size + 1 + 1 + 1, 2, none⟩ = some (.slice D_g m_g d_g) ∧ w'.cell? ⟨w.heap.size + 1 + 1, 0, none⟩ = some (.bool s_va) ∧ w'.cell? ⟨w.heap.size + 1 + 1, 1, none⟩ = some (.slice A_va n_va c_va) ∧ w'.cell? ⟨w.heap.size + 1 + 1, 2, none⟩ = some (.slice D_va m_va d_va) ∧ w'.cell? ⟨w.heap.size + 1 + 1, 3, none⟩ = some (.bool s_vb) ∧ w'.cell? ⟨w.heap.size + 1 + 1, 4, none⟩ = some (.slice A_vb n_vb c_vb) ∧ w'.cell? ⟨w.heap.size + 1 + 1, 5, none⟩ = some (.slice D_vb m_vb d_vb) ∧ w'.cell? ⟨w.heap.size + 1, 0, none⟩ = some (.bool s_y) ∧ w'.cell? ⟨w.heap.size + 1, 1, none⟩ = some (.slice A_y n_y c_y) ∧ w'.cell? ⟨w.heap.size + 1, 2, none⟩ = some (.slice D_y m_y d_y) := fun w' hb => ⟨(Bx.below' hb).six.1.1, (Bg.below' hb).three.1.1, (Bg.below' hb).three.1.2.1, (Bg.below' hb).three.1.2.2, (Bv.below' hb).six.1.1, (Bv.below' hb).six.1.2.1, (Bv.below' hb).six.1.2.2.1, (Bv.below' hb).six.1.2.2.2.1, (Bv.below' hb).six.1.2.2.2.2.1, (Bv.below' hb).six.1.2.2.2.2.2, (By.below' hb).three.1.1, (By.below' hb).three.1.2.1, (By.below' hb).three.1.2.2⟩
  have hY : ∀ w', Below V.heap.size V w' → w'.cell? ⟨w.heap.size + 1, 0, none⟩ = some (.bool s_y) ∧ w'.cell? ⟨w.heap.size + 1, 1, none⟩ = some (.slice A_y n_y c_y) ∧ w'.cell? ⟨w.heap.size + 1, 2, none⟩ = some (.slice D_y m_y d_y) := fun w' hb => ⟨(By.below' hb).three.1.1, (By.below' hb).three.1.2.1, (By.below' hb).three.1.2.2⟩
  have H_y := Lib.hid (fun (w1 : World) (hb : Below V.heap.size V w1) => q_y.below (bb hb0 hb))
  have H_va := Lib.hid (fun (w1 : World) (hb : Below V.heap.size V w1) => q_va.below (bb hb0 hb))
  have H_vb := Lib.hid (fun (w1 : World) (hb : Below V.heap.size V w1) => q_vb.below (bb hb0 hb))
  have H_g := Lib.hid (fun (w1 : World) (hb : Below V.heap.size V w1) => q_g.below (bb hb0 hb))
  have HBr := Lib.hid Br
  have HBs := Lib.hid Bs
  have HW := Lib.hid hW
  have HBy := Lib.hid By
  have HS := Lib.hid hS
  have HY := Lib.hid hY
  have HZ := Lib.hid (show decide (X_va = 0) = false from decide_eq_false h0)
  have HN := Lib.hid h0
  clear hS hY h0 Bx By Bv Bg Br Bs hW q_y q_va q_vb q_g
  go_enter Tryz.func44, Tryz.ntmps44
  go_upto_region 11 with (fail)
  rw [HW.out]
  obtain ⟨p0, p1, p2, p3, p4, p5, p6, p7, p8, p9, p10, p11, p12⟩ := HS.out _ (Below.refl _ V)
  obtain ⟨V1, hV1, C1, b0⟩ := box0 45 V #[.bool s_va, .slice A_va n_va c_va, .slice D_va m_va d_va]
  rw [hsz] at C1
  have HV1 := Lib.hid hV1
  have HC1 := Lib.hid C1
  clear hV1 C1
  obtain ⟨⟨a0, a1, a2⟩, a3, a4, a5⟩ := HC1.out.three
  obtain ⟨p0, p1, p2, p3, p4, p5, p6, p7, p8, p9, p10, p11, p12⟩ := HS.out _ b0
  go_wp2_with fail
  rw [HV1.out]
  with_reducible refine (ref_zeroE (H_va.out _ b0) (z_va) false HZ.out).mono ?_
  rintro _ w1 ⟨rfl, b1⟩
  have x1 : Below V.heap.size V w1 := bb b0 b1
  have HD1 := Lib.hid (HC1.out.below' b1)
  obtain ⟨⟨a0, a1, a2⟩, a3, a4, a5⟩ := HD1.out.three
  obtain ⟨p0, p1, p2, p3, p4, p5, p6, p7, p8, p9, p10, p11, p12⟩ := HS.out _ x1
  have B9 := HBr.out.below' x1
  have C9 := HBs.out.below' x1
  obtain ⟨⟨r0, r1, r2⟩, f0, f1, f2⟩ := B9.three
  obtain ⟨⟨u0, u1, u2⟩, g0, g1, g2⟩ := C9.three
  have HQD := Lib.hid ((H_va.out _ b0).below b1)
  go_wp2_with fail
  with_reducible refine (ref_qdiv (N := 130) (H_g.out _ x1) HQD.out (z_g.mono (by omega)) ((z_va).mono (by omega)) (by omega) HN.out).mono ?_
  rintro _ w2 ⟨s2, A2, n2, c2, E2, m2, d2, rfl, q2, b2⟩
  have x2 : Below V.heap.size V w2 := bb x1 b2
  obtain ⟨V3, hV3, C3, b3⟩ := box0 45 w2 #[.bool s2, .slice A2 n2 c2, .slice E2 m2 d2]
  have HV3 := Lib.hid hV3
  have HC3 := Lib.hid C3
  have x3 : Below V.heap.size V V3 := bb x2 b3
  have q3 := q2.below b3
  clear hV3 C3
  have lt3 := HC3.out.lt
  have hS3 : ∀ w', Below V3.heap.size V3 w' → w'.cell? ⟨w2.heap.size, 0, none⟩ = some (.bool s2) ∧ w'.cell? ⟨w2.heap.size, 1, none⟩ = some (.slice A2 n2 c2) ∧ w'.cell? ⟨w2.heap.size, 2, none⟩ = some (.slice E2 m2 d2) ∧ w'.cell? ⟨w.heap.size + 1, 0, none⟩ = some (.bool s_y) ∧ w'.cell? ⟨w.heap.size + 1, 1, none⟩ = some (.slice A_y n_y c_y) ∧ w'.cell? ⟨w.heap.size + 1, 2, none⟩ = some (.slice D_y m_y d_y) := fun w' hb => ⟨(HC3.out.below' hb).three.1.1, (HC3.out.below' hb).three.1.2.1, (HC3.out.below' hb).three.1.2.2, (HY.out _ (bb x3 hb)).1, (HY.out _ (bb x3 hb)).2.1, (HY.out _ (bb x3 hb)).2.2⟩
  have ly := (HBy.out.below' x2).lt
  have hP3 : ∀ (w' : World) (k : Nat) (x0 x1 x2 : Value), (fun w' : World => w'.cell? ⟨w2.heap.size, 0, none⟩ = some (.bool s2) ∧ w'.cell? ⟨w2.heap.size, 1, none⟩ = some (.slice A2 n2 c2) ∧ w'.cell? ⟨w2.heap.size, 2, none⟩ = some (.slice E2 m2 d2) ∧ w'.cell? ⟨w.heap.size + 1, 0, none⟩ = some (.bool s_y) ∧ w'.cell? ⟨w.heap.size + 1, 1, none⟩ = some (.slice A_y n_y c_y) ∧ w'.cell? ⟨w.heap.size + 1, 2, none⟩ = some (.slice D_y m_y d_y)) w' → V3.heap.size ≤ w'.heap.size → w.heap.size + 1 + 1 + 1 + 1 ≤ k → k < w2.heap.size → (fun w' : World => w'.cell? ⟨w2.heap.size, 0, none⟩ = some (.bool s2) ∧ w'.cell? ⟨w2.heap.size, 1, none⟩ = some (.slice A2 n2 c2) ∧ w'.cell? ⟨w2.heap.size, 2, none⟩ = some (.slice E2 m2 d2) ∧ w'.cell? ⟨w.heap.size + 1, 0, none⟩ = some (.bool s_y) ∧ w'.cell? ⟨w.heap.size + 1, 1, none⟩ = some (.slice A_y n_y c_y) ∧ w'.cell? ⟨w.heap.size + 1, 2, none⟩ = some (.slice D_y m_y d_y)) (put3 w' k x0 x1 x2) := fun w' k x0 x1 x2 hh h1 h2 h3 => by
    obtain ⟨p0, p1, p2, p3, p4, p5⟩ := hh
    exact ⟨(cell_put3 (by omega) (by omega)).trans p0, (cell_put3 (by omega) (by omega)).trans p1, (cell_put3 (by omega) (by omega)).trans p2, (cell_put3 (by omega) (by omega)).trans p3, (cell_put3 (by omega) (by omega)).trans p4, (cell_put3 (by omega) (by omega)).trans p5⟩
  have HS3 := Lib.hid hS3
  have HP3 := Lib.hid hP3
  obtain ⟨t0, t1, t2, t3, t4, t5⟩ := hS3 _ (Below.refl _ V3)
  obtain ⟨⟨c0, c1', c2'⟩, c3', c4', c5'⟩ := HC3.out.three
  clear hS3 hP3
  go_upto_region 19 with (fail)
  rw [HV3.out]
  refine wp_region_held_drew (S := fun w' => w'.cell? ⟨w2.heap.size, 0, none⟩ = some (.bool s2) ∧ w'.cell? ⟨w2.heap.size, 1, none⟩ = some (.slice A2 n2 c2) ∧ w'.cell? ⟨w2.heap.size, 2, none⟩ = some (.slice E2 m2 d2) ∧ w'.cell? ⟨w.heap.size + 1, 0, none⟩ = some (.bool s_y) ∧ w'.cell? ⟨w.heap.size + 1, 1, none⟩ = some (.slice A_y n_y c_y) ∧ w'.cell? ⟨w.heap.size + 1, 2, none⟩ = some (.slice D_y m_y d_y)) (by kernel_rfl) (HS3.out _ (Below.refl _ V3).drew) (fun hHeld => ?_)
  refine wpAnyH_take (i := 0) (v := ?_) rfl (by kernel_rfl) (by kernel_rfl) (by kernel_rfl) (fun _ _ _ h => h) (Or.inl ⟨by kernel_rfl, ?_⟩) (by assumption) ?_
  rotate_left
  · intro w hSw
    (try dsimp only at hSw)
    go_simp
    (try with_reducible rfl)
  try simp only [Act.put, List.setIfInBounds_toArray, List.set_cons_zero, List.set_cons_succ, List.getElem_toArray, List.getElem_cons_zero, List.getElem_cons_succ]
  refine wpAnyH_take (i := 1) (v := ?_) rfl (by kernel_rfl) (by kernel_rfl) (by kernel_rfl) (fun _ _ _ h => h) (Or.inl ⟨by kernel_rfl, ?_⟩) (by assumption) ?_
  rotate_left
  · intro w hSw
    (try dsimp only at hSw)
    go_simp
    (try with_reducible rfl)
  try simp only [Act.put, List.setIfInBounds_toArray, List.set_cons_zero, List.set_cons_succ, List.getElem_toArray, List.getElem_cons_zero, List.getElem_cons_succ]
  refine wpAnyH_take (i := 2) (v := ?_) rfl (by kernel_rfl) (by kernel_rfl) (by kernel_rfl) (fun _ _ _ h => h) (Or.inl ⟨by kernel_rfl, ?_⟩) (by assumption) ?_
  rotate_left
  · intro w hSw
    (try dsimp only at hSw)
    go_simp
    (try with_reducible rfl)
  try simp only [Act.put, List.setIfInBounds_toArray, List.set_cons_zero, List.set_cons_succ, List.getElem_toArray, List.getElem_cons_zero, List.getElem_cons_succ]
  refine wpAnyH_ready (rs := [3]) (by kernel_rfl) (by simp) ?_
  refine AllReadyH.cons rfl (fun K hK => ?_) AllReadyH.nil
  go_simp
  refine (ref_qmul (N := 200) (q3.below (Below.refl _ V3).drew) ((H_y.out _ x3).below (Below.refl _ V3).drew) z_q (z_y.mono (by omega)) (by omega)).mono ?_
  rintro _ w4 ⟨s4, A4, n4, c4, E4, m4, d4, rfl, q4, b4⟩
  have y4 : Below V3.heap.size V3 w4 := Below.undrew b4
  (try go_wp2_with fail)
  refine hK.out _ _ (HS3.out _ y4) (fun hHeld => ?_)
  clear hK K
  try simp only [Act.put, List.setIfInBounds_toArray, List.set_cons_zero, List.set_cons_succ, List.getElem_toArray, List.getElem_cons_zero, List.getElem_cons_succ]
  refine wpAnyH_ready (rs := [4]) (by kernel_rfl) (by simp) ?_
  refine AllReadyH.cons rfl (fun K hK => ?_) AllReadyH.nil
  go_simp
  refine (ref_neg q4 (z_q.mul z_y) (by omega)).mono ?_
  rintro _ w5 ⟨s5, A5, n5, c5, E5, m5, d5, rfl, q5, b5⟩
  have y5 : Below V3.heap.size V3 w5 := bb y4 b5
  (try go_wp2_with fail)
  refine hK.out _ _ (HS3.out _ y5) (fun hHeld => ?_)
  clear hK K
  try simp only [Act.put, List.setIfInBounds_toArray, List.set_cons_zero, List.set_cons_succ, List.getElem_toArray, List.getElem_cons_zero, List.getElem_cons_succ]
  have x5 := bb x3 y5
  have B9 := HBr.out.below' x5
  have C9 := HBs.out.below' x5
  obtain ⟨⟨r0, r1, r2⟩, f0, f1, f2⟩ := B9.three
  obtain ⟨⟨u0, u1, u2⟩, g0, g1, g2⟩ := C9.three
  have ss5 := y5.size
  have lr := (HBr.out.below' x2).lt
  have ls := (HBs.out.below' x2).lt
  have K4 := HP3.out w5 (w.heap.size + 1 + 1 + 1 + 1) (.bool s2) (.slice A2 n2 c2) (.slice E2 m2 d2) (HS3.out _ y5) ss5 (by omega) (by omega)
  have K5 := HP3.out _ (w.heap.size + 1 + 1 + 1 + 1 + 1) (.bool s5) (.slice A5 n5 c5) (.slice E5 m5 d5) K4 (by unfold put3; simp only [World.setCell]; exact Nat.le_trans ss5 (by simp)) (by omega) (by omega)
  have HS4 := Lib.hid K4
  have HS5 := Lib.hid K5
  clear K4 K5
  refine wpAnyH_ready (rs := [5]) (by kernel_rfl) (by simp) ?_
  refine AllReadyH.cons rfl (fun K hK => ?_) AllReadyH.nil
  go_simp
  (try go_wp2_with fail)
  refine hK.out _ _ (HS4.out) (fun hHeld => ?_)
  clear hK K
  try simp only [Act.put, List.setIfInBounds_toArray, List.set_cons_zero, List.set_cons_succ, List.getElem_toArray, List.getElem_cons_zero, List.getElem_cons_succ]
  refine wpAnyH_ready (rs := [6]) (by kernel_rfl) (by simp) ?_
  refine AllReadyH.cons rfl (fun K hK => ?_) AllReadyH.nil
  go_simp
  (try go_wp2_with fail)
  refine hK.out _ _ (HS5.out) (fun hHeld => ?_)
  clear hK K
  try simp only [Act.put, List.setIfInBounds_toArray, List.set_cons_zero, List.set_cons_succ, List.getElem_toArray, List.getElem_cons_zero, List.getElem_cons_succ]
  refine wpAnyH_take (i := 7) (v := ?_) rfl (by kernel_rfl) (by kernel_rfl) (by kernel_rfl) (fun _ _ _ h => h) (Or.inl ⟨by kernel_rfl, ?_⟩) (by assumption) ?_
  rotate_left
  · intro w hSw
    (try dsimp only at hSw)
    go_simp
    (try with_reducible rfl)
  try simp only [Act.put, List.setIfInBounds_toArray, List.set_cons_zero, List.set_cons_succ, List.getElem_toArray, List.getElem_cons_zero, List.getElem_cons_succ]
  refine wpAnyH_done (by kernel_rfl) ?_ _
  go_wp2_with fail
  refine bodyPost_ret (v := .tuple #[.agg #[.bool s2, .slice A2 n2 c2, .slice E2 m2 d2], .agg #[.bool s5, .slice A5 n5 c5, .slice E5 m5 d5], .int .i64 0]) (by simp [results, Tryz.results44, go_sem, r0, r1, r2, u0, u1, u2]) rfl ?_
  obtain ⟨P9, x9⟩ := two_puts (y0 := .bool s2) (y1 := .slice A2 n2 c2) (y2 := .slice E2 m2 d2) (z0 := .bool s5) (z1 := .slice A5 n5 c5) (z2 := .slice E5 m5 d5) B9 C9 (by omega) (bb hb0 x5) (by omega) (by omega)
  exact ⟨_, _, _, _, _, _, _, _, _, _, _, _, _, _, rfl, P9 _ _ _ _ _ _ _ _ (q3.below y5), fun _ => P9 _ _ _ _ _ _ _ _ q5, x9⟩

set_option maxRecDepth 100000 in
set_option maxHeartbeats 8000000 in
theorem gv_log_no {w : World} {s_y : Bool} {A_y D_y : Option Addr} {n_y c_y m_y d_y : Nat} {X_y : Rat} {s_va : Bool} {A_va D_va : Option Addr} {n_va c_va m_va d_va : Nat} {X_va : Rat} {s_vb : Bool} {A_vb D_vb : Option Addr} {n_vb c_vb m_vb d_vb : Nat} {X_vb : Rat} {s_g : Bool} {A_g D_g : Option Addr} {n_g c_g m_g d_g : Nat} {X_g : Rat} {q : RQ} {a b : Int} (q_y : Q w s_y A_y n_y c_y D_y m_y d_y X_y) (z_y : Sz X_y 64) (q_va : Q w s_va A_va n_va c_va D_va m_va d_va X_va) (z_va : Sz X_va 64) (q_vb : Q w s_vb A_vb n_vb c_vb D_vb m_vb d_vb X_vb) (z_vb : Sz X_vb 64) (q_g : Q w s_g A_g n_g c_g D_g m_g d_g X_g) (z_g : Sz X_g 64) (h0 : X_va = 0) :
    Calls Tryz.prog 44 #[.agg #[.int .i64 10, .int .i64 a, .int .i64 b, .bool q.s, .slice q.A q.n q.c, .slice q.A' q.n' q.c'], .agg #[.bool s_y, .slice A_y n_y c_y, .slice D_y m_y d_y], .agg #[.bool s_va, .slice A_va n_va c_va, .slice D_va m_va d_va, .bool s_vb, .slice A_vb n_vb c_vb, .slice D_vb m_vb d_vb], .agg #[.bool s_g, .slice A_g n_g c_g, .slice D_g m_g d_g]] w (RetGvNo w) := by
  obtain ⟨V, hW, Bx, By, Bv, Bg, Br, Bs, hb0, hsz⟩ := boxesW 52 45 74 45 45 45 w #[.int .i64 10, .int .i64 a, .int .i64 b, .bool q.s, .slice q.A q.n q.c, .slice q.A' q.n' q.c'] #[.bool s_y, .slice A_y n_y c_y, .slice D_y m_y d_y] #[.bool s_va, .slice A_va n_va c_va, .slice D_va m_va d_va, .bool s_vb, .slice A_vb n_vb c_vb, .slice D_vb m_vb d_vb] #[.bool s_g, .slice A_g n_g c_g, .slice D_g m_g d_g] #[.bool false, .slice none 0 0, .slice none 0 0] #[.bool false, .slice none 0 0, .slice none 0 0]
  have hS : ∀ w', Below V.heap.size V w' → w'.cell? ⟨w.heap.size, 0, none⟩ = some (.int .i64 10) ∧ w'.cell? ⟨w.heap.size + 1 + 1 + 1, 0, none⟩ = some (.bool s_g) ∧ w'.cell? ⟨w.heap.size + 1 + 1 + 1, 1, none⟩ = some (.slice A_g n_g c_g) ∧ w'.cell? ⟨w.heap.size + 1 + 1 + 1, 2, none⟩ = some (.slice D_g m_g d_g) ∧ w'.cell? ⟨w.heap.size + 1 + 1, 0, none⟩ = some (.bool s_va) ∧ w'.cell? ⟨w.heap.size + 1 + 1, 1, none⟩ = some (.slice A_va n_va c_va) ∧ w'.cell? ⟨w.heap.size + 1 + 1, 2, none⟩ = some (.slice D_va m_va d_va) ∧ w'.cell? ⟨w.heap.size + 1 + 1, 3, none⟩ = some (.bool s_vb) ∧ w'.cell? ⟨w.heap.size + 1 + 1, 4, none⟩ = some (.slice A_vb n_vb c_vb) ∧ w'.cell? ⟨w.heap.size + 1 + 1, 5, none⟩ = some (.slice D_vb m_vb d_vb) ∧ w'.cell? ⟨w.heap.size + 1, 0, none⟩ = some (.bool s_y) ∧ w'.cell? ⟨w.heap.size + 1, 1, none⟩ = some (.slice A_y n_y c_y) ∧ w'.cell? ⟨w.heap.size + 1, 2, none⟩ = some (.slice D_y m_y d_y) := fun w' hb => ⟨(Bx.below' hb).six.1.1, (Bg.below' hb).three.1.1, (Bg.below' hb).three.1.2.1, (Bg.below' hb).three.1.2.2, (Bv.below' hb).six.1.1, (Bv.below' hb).six.1.2.1, (Bv.below' hb).six.1.2.2.1, (Bv.below' hb).six.1.2.2.2.1, (Bv.below' hb).six.1.2.2.2.2.1, (Bv.below' hb).six.1.2.2.2.2.2, (By.below' hb).three.1.1, (By.below' hb).three.1.2.1, (By.below' hb).three.1.2.2⟩
  have hY : ∀ w', Below V.heap.size V w' → w'.cell? ⟨w.heap.size + 1, 0, none⟩ = some (.bool s_y) ∧ w'.cell? ⟨w.heap.size + 1, 1, none⟩ = some (.slice A_y n_y c_y) ∧ w'.cell? ⟨w.heap.size + 1, 2, none⟩ = some (.slice D_y m_y d_y) := fun w' hb => ⟨(By.below' hb).three.1.1, (By.below' hb).three.1.2.1, (By.below' hb).three.1.2.2⟩
  have H_y := Lib.hid (fun (w1 : World) (hb : Below V.heap.size V w1) => q_y.below (bb hb0 hb))
  have H_va := Lib.hid (fun (w1 : World) (hb : Below V.heap.size V w1) => q_va.below (bb hb0 hb))
  have H_vb := Lib.hid (fun (w1 : World) (hb : Below V.heap.size V w1) => q_vb.below (bb hb0 hb))
  have H_g := Lib.hid (fun (w1 : World) (hb : Below V.heap.size V w1) => q_g.below (bb hb0 hb))
  have HBr := Lib.hid Br
  have HBs := Lib.hid Bs
  have HW := Lib.hid hW
  have HBy := Lib.hid By
  have HS := Lib.hid hS
  have HY := Lib.hid hY
  have HZ := Lib.hid (show decide (X_va = 0) = true from decide_eq_true h0)
  have HN := Lib.hid h0
  clear hS hY h0 Bx By Bv Bg Br Bs hW q_y q_va q_vb q_g
  go_enter Tryz.func44, Tryz.ntmps44
  go_upto_region 11 with (fail)
  rw [HW.out]
  obtain ⟨p0, p1, p2, p3, p4, p5, p6, p7, p8, p9, p10, p11, p12⟩ := HS.out _ (Below.refl _ V)
  obtain ⟨V1, hV1, C1, b0⟩ := box0 45 V #[.bool s_va, .slice A_va n_va c_va, .slice D_va m_va d_va]
  rw [hsz] at C1
  have HV1 := Lib.hid hV1
  have HC1 := Lib.hid C1
  clear hV1 C1
  obtain ⟨⟨a0, a1, a2⟩, a3, a4, a5⟩ := HC1.out.three
  obtain ⟨p0, p1, p2, p3, p4, p5, p6, p7, p8, p9, p10, p11, p12⟩ := HS.out _ b0
  go_wp2_with fail
  rw [HV1.out]
  with_reducible refine (ref_zeroE (H_va.out _ b0) (z_va) true HZ.out).mono ?_
  rintro _ w1 ⟨rfl, b1⟩
  have x1 : Below V.heap.size V w1 := bb b0 b1
  have HD1 := Lib.hid (HC1.out.below' b1)
  obtain ⟨⟨a0, a1, a2⟩, a3, a4, a5⟩ := HD1.out.three
  obtain ⟨p0, p1, p2, p3, p4, p5, p6, p7, p8, p9, p10, p11, p12⟩ := HS.out _ x1
  have B9 := HBr.out.below' x1
  have C9 := HBs.out.below' x1
  obtain ⟨⟨r0, r1, r2⟩, f0, f1, f2⟩ := B9.three
  obtain ⟨⟨u0, u1, u2⟩, g0, g1, g2⟩ := C9.three
  go_wp2_with fail
  refine bodyPost_ret (v := .tuple #[.agg #[.bool false, .slice none 0 0, .slice none 0 0], .agg #[.bool false, .slice none 0 0, .slice none 0 0], .int .i64 4]) (by simp [results, Tryz.results44, go_sem, r0, r1, r2, u0, u1, u2]) rfl ?_
  obtain ⟨P9, x9⟩ := two_puts (y0 := .bool false) (y1 := .slice none 0 0) (y2 := .slice none 0 0) (z0 := .bool false) (z1 := .slice none 0 0) (z2 := .slice none 0 0) B9 C9 (by omega) (bb hb0 x1) (by omega) (by omega)
  exact ⟨rfl, x9⟩

end Go.Proofs.YtfhihapgjiaobaaGreat

namespace Go.Proofs.YtfhihapgjiaobaaGreat
set_option maxRecDepth 100000
open Go.RowKit
set_option linter.unusedVariables false
set_option linter.unusedSimpArgs false

set_option maxRecDepth 100000 in
set_option maxHeartbeats 8000000 in
theorem gv_sqrt {w : World} {s_y : Bool} {A_y D_y : Option Addr} {n_y c_y m_y d_y : Nat} {X_y : Rat} {s_va : Bool} {A_va D_va : Option Addr} {n_va c_va m_va d_va : Nat} {X_va : Rat} {s_vb : Bool} {A_vb D_vb : Option Addr} {n_vb c_vb m_vb d_vb : Nat} {X_vb : Rat} {s_g : Bool} {A_g D_g : Option Addr} {n_g c_g m_g d_g : Nat} {X_g : Rat} {q : RQ} {a b : Int} (q_y : Q w s_y A_y n_y c_y D_y m_y d_y X_y) (z_y : Sz X_y 64) (q_va : Q w s_va A_va n_va c_va D_va m_va d_va X_va) (z_va : Sz X_va 64) (q_vb : Q w s_vb A_vb n_vb c_vb D_vb m_vb d_vb X_vb) (z_vb : Sz X_vb 64) (q_g : Q w s_g A_g n_g c_g D_g m_g d_g X_g) (z_g : Sz X_g 64) (h0 : X_y + X_y ≠ 0) (z_q : Sz (X_g / (X_y + X_y)) 200) :
    Calls Tryz.prog 44 #[.agg #[.int .i64 8, .int .i64 a, .int .i64 b, .bool q.s, .slice q.A q.n q.c, .slice q.A' q.n' q.c'], .agg #[.bool s_y, .slice A_y n_y c_y, .slice D_y m_y d_y], .agg #[.bool s_va, .slice A_va n_va c_va, .slice D_va m_va d_va, .bool s_vb, .slice A_vb n_vb c_vb, .slice D_vb m_vb d_vb], .agg #[.bool s_g, .slice A_g n_g c_g, .slice D_g m_g d_g]] w (RetGv true (X_g / (X_y + X_y)) (-(X_g / (X_y + X_y) * X_y)) w) := by
  obtain ⟨V, hW, Bx, By, Bv, Bg, Br, Bs, hb0, hsz⟩ := boxesW 52 45 74 45 45 45 w #[.int .i64 8, .int .i64 a, .int .i64 b, .bool q.s, .slice q.A q.n q.c, .slice q.A' q.n' q.c'] #[.bool s_y, .slice A_y n_y c_y, .slice D_y m_y d_y] #[.bool s_va, .slice A_va n_va c_va, .slice D_va m_va d_va, .bool s_vb, .slice A_vb n_vb c_vb, .slice D_vb m_vb d_vb] #[.bool s_g, .slice A_g n_g c_g, .slice D_g m_g d_g] #[.bool false, .slice none 0 0, .slice none 0 0] #[.bool false, .slice none 0 0, .slice none 0 0]
  have hS : ∀ w', Below V.heap.size V w' → w'.cell? ⟨w.heap.size, 0, none⟩ = some (.int .i64 8) ∧ w'.cell? ⟨w.heap.size + 1 + 1 + 1, 0, none⟩ = some (.bool s_g) ∧ w'.cell? ⟨w.heap.size + 1 + 1 + 1, 1, none⟩ = some (.slice A_g n_g c_g) ∧ w'.cell? ⟨w.heap.size + 1 + 1 + 1, 2, none⟩ = some (.slice D_g m_g d_g) ∧ w'.cell? ⟨w.heap.size + 1 + 1, 0, none⟩ = some (.bool s_va) ∧ w'.cell? ⟨w.heap.size + 1 + 1, 1, none⟩ = some (.slice A_va n_va c_va) ∧ w'.cell? ⟨w.heap.size + 1 + 1, 2, none⟩ = some (.slice D_va m_va d_va) ∧ w'.cell? ⟨w.heap.size + 1 + 1, 3, none⟩ = some (.bool s_vb) ∧ w'.cell? ⟨w.heap.size + 1 + 1, 4, none⟩ = some (.slice A_vb n_vb c_vb) ∧ w'.cell? ⟨w.heap.size + 1 + 1, 5, none⟩ = some (.slice D_vb m_vb d_vb) ∧ w'.cell? ⟨w.heap.size + 1, 0, none⟩ = some (.bool s_y) ∧ w'.cell? ⟨w.heap.size + 1, 1, none⟩ = some (.slice A_y n_y c_y) ∧ w'.cell? ⟨w.heap.size + 1, 2, none⟩ = some (.slice D_y m_y d_y) := fun w' hb => ⟨(Bx.below' hb).six.1.1, (Bg.below' hb).three.1.1, (Bg.below' hb).three.1.2.1, (Bg.below' hb).three.1.2.2, (Bv.below' hb).six.1.1, (Bv.below' hb).six.1.2.1, (Bv.below' hb).six.1.2.2.1, (Bv.below' hb).six.1.2.2.2.1, (Bv.below' hb).six.1.2.2.2.2.1, (Bv.below' hb).six.1.2.2.2.2.2, (By.below' hb).three.1.1, (By.below' hb).three.1.2.1, (By.below' hb).three.1.2.2⟩
  have hY : ∀ w', Below V.heap.size V w' → w'.cell? ⟨w.heap.size + 1, 0, none⟩ = some (.bool s_y) ∧ w'.cell? ⟨w.heap.size + 1, 1, none⟩ = some (.slice A_y n_y c_y) ∧ w'.cell? ⟨w.heap.size + 1, 2, none⟩ = some (.slice D_y m_y d_y) := fun w' hb => ⟨(By.below' hb).three.1.1, (By.below' hb).three.1.2.1, (By.below' hb).three.1.2.2⟩
  have H_y := Lib.hid (fun (w1 : World) (hb : Below V.heap.size V w1) => q_y.below (bb hb0 hb))
  have H_va := Lib.hid (fun (w1 : World) (hb : Below V.heap.size V w1) => q_va.below (bb hb0 hb))
  have H_vb := Lib.hid (fun (w1 : World) (hb : Below V.heap.size V w1) => q_vb.below (bb hb0 hb))
  have H_g := Lib.hid (fun (w1 : World) (hb : Below V.heap.size V w1) => q_g.below (bb hb0 hb))
  have HBr := Lib.hid Br
  have HBs := Lib.hid Bs
  have HW := Lib.hid hW
  have HBy := Lib.hid By
  have HS := Lib.hid hS
  have HY := Lib.hid hY
  have HZ := Lib.hid (show decide (X_y + X_y = 0) = false from decide_eq_false h0)
  have HN := Lib.hid h0
  clear hS hY h0 Bx By Bv Bg Br Bs hW q_y q_va q_vb q_g
  go_enter Tryz.func44, Tryz.ntmps44
  go_upto_region 11 with (fail)
  rw [HW.out]
  obtain ⟨p0, p1, p2, p3, p4, p5, p6, p7, p8, p9, p10, p11, p12⟩ := HS.out _ (Below.refl _ V)
  obtain ⟨V1, hV1, C1, b0⟩ := box0 45 V #[.bool s_va, .slice A_va n_va c_va, .slice D_va m_va d_va]
  rw [hsz] at C1
  have HV1 := Lib.hid hV1
  have HC1 := Lib.hid C1
  clear hV1 C1
  obtain ⟨⟨a0, a1, a2⟩, a3, a4, a5⟩ := HC1.out.three
  obtain ⟨p0, p1, p2, p3, p4, p5, p6, p7, p8, p9, p10, p11, p12⟩ := HS.out _ b0
  go_wp2_with fail
  rw [HV1.out]
  with_reducible refine (rf_twice (H_y.out _ b0) z_y (by omega)).mono ?_
  rintro _ w9 ⟨s9, A9, n9, c9, E9, m9, d9, rfl, q9, b9⟩
  have x9 : Below V.heap.size V w9 := bb b0 b9
  have D9 := HC1.out.below' b9
  obtain ⟨⟨a0, a1, a2⟩, a3, a4, a5⟩ := D9.three
  obtain ⟨p0, p1, p2, p3, p4, p5, p6, p7, p8, p9, p10, p11, p12⟩ := HS.out _ x9
  go_upto_region 16 with (fail)
  obtain ⟨wa, hVa⟩ : ∃ W, ((w9.setCell ⟨w.heap.size + 1 + 1 + 1 + 1 + 1 + 1, 0, none⟩ (.bool s9)).setCell ⟨w.heap.size + 1 + 1 + 1 + 1 + 1 + 1, 1, none⟩ (.slice A9 n9 c9)).setCell ⟨w.heap.size + 1 + 1 + 1 + 1 + 1 + 1, 2, none⟩ (.slice E9 m9 d9) = W := ⟨_, rfl⟩
  rw [hVa]
  have Da : Box 45 wa (w.heap.size + 1 + 1 + 1 + 1 + 1 + 1) #[.bool s9, .slice A9 n9 c9, .slice E9 m9 d9] := by rw [← hVa]; exact box_self D9 _ _ _
  have xa : Below V.heap.size V wa := by rw [← hVa]; exact below_put3 x9 (by omega) (Nat.le_refl _) _ _ _
  have qa : Q wa s9 A9 n9 c9 E9 m9 d9 (X_y + X_y) := by rw [← hVa]; exact q9.put3 (x0 := .bool s9) (x1 := .slice A9 n9 c9) (x2 := .slice E9 m9 d9) ⟨_, _, _, _, _, _, _, D9⟩
  have HDa := Lib.hid Da
  obtain ⟨⟨a0, a1, a2⟩, a3, a4, a5⟩ := Da.three
  clear Da D9 hVa
  obtain ⟨p0, p1, p2, p3, p4, p5, p6, p7, p8, p9, p10, p11, p12⟩ := HS.out _ xa
  go_wp2_with fail
  with_reducible refine (ref_zeroE qa (z_y.add z_y) false HZ.out).mono ?_
  rintro _ w1 ⟨rfl, b1⟩
  have x1 : Below V.heap.size V w1 := bb xa b1
  have HD1 := Lib.hid (HDa.out.below' b1)
  obtain ⟨⟨a0, a1, a2⟩, a3, a4, a5⟩ := HD1.out.three
  obtain ⟨p0, p1, p2, p3, p4, p5, p6, p7, p8, p9, p10, p11, p12⟩ := HS.out _ x1
  have B9 := HBr.out.below' x1
  have C9 := HBs.out.below' x1
  obtain ⟨⟨r0, r1, r2⟩, f0, f1, f2⟩ := B9.three
  obtain ⟨⟨u0, u1, u2⟩, g0, g1, g2⟩ := C9.three
  have HQD := Lib.hid (qa.below b1)
  go_wp2_with fail
  with_reducible refine (ref_qdiv (N := 130) (H_g.out _ x1) HQD.out (z_g.mono (by omega)) ((z_y.add z_y).mono (by omega)) (by omega) HN.out).mono ?_
  rintro _ w2 ⟨s2, A2, n2, c2, E2, m2, d2, rfl, q2, b2⟩
  have x2 : Below V.heap.size V w2 := bb x1 b2
  obtain ⟨V3, hV3, C3, b3⟩ := box0 45 w2 #[.bool s2, .slice A2 n2 c2, .slice E2 m2 d2]
  have HV3 := Lib.hid hV3
  have HC3 := Lib.hid C3
  have x3 : Below V.heap.size V V3 := bb x2 b3
  have q3 := q2.below b3
  clear hV3 C3
  have lt3 := HC3.out.lt
  have hS3 : ∀ w', Below V3.heap.size V3 w' → w'.cell? ⟨w2.heap.size, 0, none⟩ = some (.bool s2) ∧ w'.cell? ⟨w2.heap.size, 1, none⟩ = some (.slice A2 n2 c2) ∧ w'.cell? ⟨w2.heap.size, 2, none⟩ = some (.slice E2 m2 d2) ∧ w'.cell? ⟨w.heap.size + 1, 0, none⟩ = some (.bool s_y) ∧ w'.cell? ⟨w.heap.size + 1, 1, none⟩ = some (.slice A_y n_y c_y) ∧ w'.cell? ⟨w.heap.size + 1, 2, none⟩ = some (.slice D_y m_y d_y) := fun w' hb => ⟨(HC3.out.below' hb).three.1.1, (HC3.out.below' hb).three.1.2.1, (HC3.out.below' hb).three.1.2.2, (HY.out _ (bb x3 hb)).1, (HY.out _ (bb x3 hb)).2.1, (HY.out _ (bb x3 hb)).2.2⟩
  have ly := (HBy.out.below' x2).lt
  have hP3 : ∀ (w' : World) (k : Nat) (x0 x1 x2 : Value), (fun w' : World => w'.cell? ⟨w2.heap.size, 0, none⟩ = some (.bool s2) ∧ w'.cell? ⟨w2.heap.size, 1, none⟩ = some (.slice A2 n2 c2) ∧ w'.cell? ⟨w2.heap.size, 2, none⟩ = some (.slice E2 m2 d2) ∧ w'.cell? ⟨w.heap.size + 1, 0, none⟩ = some (.bool s_y) ∧ w'.cell? ⟨w.heap.size + 1, 1, none⟩ = some (.slice A_y n_y c_y) ∧ w'.cell? ⟨w.heap.size + 1, 2, none⟩ = some (.slice D_y m_y d_y)) w' → V3.heap.size ≤ w'.heap.size → w.heap.size + 1 + 1 + 1 + 1 ≤ k → k < w2.heap.size → (fun w' : World => w'.cell? ⟨w2.heap.size, 0, none⟩ = some (.bool s2) ∧ w'.cell? ⟨w2.heap.size, 1, none⟩ = some (.slice A2 n2 c2) ∧ w'.cell? ⟨w2.heap.size, 2, none⟩ = some (.slice E2 m2 d2) ∧ w'.cell? ⟨w.heap.size + 1, 0, none⟩ = some (.bool s_y) ∧ w'.cell? ⟨w.heap.size + 1, 1, none⟩ = some (.slice A_y n_y c_y) ∧ w'.cell? ⟨w.heap.size + 1, 2, none⟩ = some (.slice D_y m_y d_y)) (put3 w' k x0 x1 x2) := fun w' k x0 x1 x2 hh h1 h2 h3 => by
    obtain ⟨p0, p1, p2, p3, p4, p5⟩ := hh
    exact ⟨(cell_put3 (by omega) (by omega)).trans p0, (cell_put3 (by omega) (by omega)).trans p1, (cell_put3 (by omega) (by omega)).trans p2, (cell_put3 (by omega) (by omega)).trans p3, (cell_put3 (by omega) (by omega)).trans p4, (cell_put3 (by omega) (by omega)).trans p5⟩
  have HS3 := Lib.hid hS3
  have HP3 := Lib.hid hP3
  obtain ⟨t0, t1, t2, t3, t4, t5⟩ := hS3 _ (Below.refl _ V3)
  obtain ⟨⟨c0, c1', c2'⟩, c3', c4', c5'⟩ := HC3.out.three
  clear hS3 hP3
  go_upto_region 19 with (fail)
  rw [HV3.out]
  refine wp_region_held_drew (S := fun w' => w'.cell? ⟨w2.heap.size, 0, none⟩ = some (.bool s2) ∧ w'.cell? ⟨w2.heap.size, 1, none⟩ = some (.slice A2 n2 c2) ∧ w'.cell? ⟨w2.heap.size, 2, none⟩ = some (.slice E2 m2 d2) ∧ w'.cell? ⟨w.heap.size + 1, 0, none⟩ = some (.bool s_y) ∧ w'.cell? ⟨w.heap.size + 1, 1, none⟩ = some (.slice A_y n_y c_y) ∧ w'.cell? ⟨w.heap.size + 1, 2, none⟩ = some (.slice D_y m_y d_y)) (by kernel_rfl) (HS3.out _ (Below.refl _ V3).drew) (fun hHeld => ?_)
  refine wpAnyH_take (i := 0) (v := ?_) rfl (by kernel_rfl) (by kernel_rfl) (by kernel_rfl) (fun _ _ _ h => h) (Or.inl ⟨by kernel_rfl, ?_⟩) (by assumption) ?_
  rotate_left
  · intro w hSw
    (try dsimp only at hSw)
    go_simp
    (try with_reducible rfl)
  try simp only [Act.put, List.setIfInBounds_toArray, List.set_cons_zero, List.set_cons_succ, List.getElem_toArray, List.getElem_cons_zero, List.getElem_cons_succ]
  refine wpAnyH_take (i := 1) (v := ?_) rfl (by kernel_rfl) (by kernel_rfl) (by kernel_rfl) (fun _ _ _ h => h) (Or.inl ⟨by kernel_rfl, ?_⟩) (by assumption) ?_
  rotate_left
  · intro w hSw
    (try dsimp only at hSw)
    go_simp
    (try with_reducible rfl)
  try simp only [Act.put, List.setIfInBounds_toArray, List.set_cons_zero, List.set_cons_succ, List.getElem_toArray, List.getElem_cons_zero, List.getElem_cons_succ]
  refine wpAnyH_take (i := 2) (v := ?_) rfl (by kernel_rfl) (by kernel_rfl) (by kernel_rfl) (fun _ _ _ h => h) (Or.inl ⟨by kernel_rfl, ?_⟩) (by assumption) ?_
  rotate_left
  · intro w hSw
    (try dsimp only at hSw)
    go_simp
    (try with_reducible rfl)
  try simp only [Act.put, List.setIfInBounds_toArray, List.set_cons_zero, List.set_cons_succ, List.getElem_toArray, List.getElem_cons_zero, List.getElem_cons_succ]
  refine wpAnyH_ready (rs := [3]) (by kernel_rfl) (by simp) ?_
  refine AllReadyH.cons rfl (fun K hK => ?_) AllReadyH.nil
  go_simp
  refine (ref_qmul (N := 200) (q3.below (Below.refl _ V3).drew) ((H_y.out _ x3).below (Below.refl _ V3).drew) z_q (z_y.mono (by omega)) (by omega)).mono ?_
  rintro _ w4 ⟨s4, A4, n4, c4, E4, m4, d4, rfl, q4, b4⟩
  have y4 : Below V3.heap.size V3 w4 := Below.undrew b4
  (try go_wp2_with fail)
  refine hK.out _ _ (HS3.out _ y4) (fun hHeld => ?_)
  clear hK K
  try simp only [Act.put, List.setIfInBounds_toArray, List.set_cons_zero, List.set_cons_succ, List.getElem_toArray, List.getElem_cons_zero, List.getElem_cons_succ]
  refine wpAnyH_ready (rs := [4]) (by kernel_rfl) (by simp) ?_
  refine AllReadyH.cons rfl (fun K hK => ?_) AllReadyH.nil
  go_simp
  refine (ref_neg q4 (z_q.mul z_y) (by omega)).mono ?_
  rintro _ w5 ⟨s5, A5, n5, c5, E5, m5, d5, rfl, q5, b5⟩
  have y5 : Below V3.heap.size V3 w5 := bb y4 b5
  (try go_wp2_with fail)
  refine hK.out _ _ (HS3.out _ y5) (fun hHeld => ?_)
  clear hK K
  try simp only [Act.put, List.setIfInBounds_toArray, List.set_cons_zero, List.set_cons_succ, List.getElem_toArray, List.getElem_cons_zero, List.getElem_cons_succ]
  have x5 := bb x3 y5
  have B9 := HBr.out.below' x5
  have C9 := HBs.out.below' x5
  obtain ⟨⟨r0, r1, r2⟩, f0, f1, f2⟩ := B9.three
  obtain ⟨⟨u0, u1, u2⟩, g0, g1, g2⟩ := C9.three
  have ss5 := y5.size
  have lr := (HBr.out.below' x2).lt
  have ls := (HBs.out.below' x2).lt
  have K4 := HP3.out w5 (w.heap.size + 1 + 1 + 1 + 1) (.bool s2) (.slice A2 n2 c2) (.slice E2 m2 d2) (HS3.out _ y5) ss5 (by omega) (by omega)
  have K5 := HP3.out _ (w.heap.size + 1 + 1 + 1 + 1 + 1) (.bool s5) (.slice A5 n5 c5) (.slice E5 m5 d5) K4 (by unfold put3; simp only [World.setCell]; exact Nat.le_trans ss5 (by simp)) (by omega) (by omega)
  have HS4 := Lib.hid K4
  have HS5 := Lib.hid K5
  clear K4 K5
  refine wpAnyH_ready (rs := [5]) (by kernel_rfl) (by simp) ?_
  refine AllReadyH.cons rfl (fun K hK => ?_) AllReadyH.nil
  go_simp
  (try go_wp2_with fail)
  refine hK.out _ _ (HS4.out) (fun hHeld => ?_)
  clear hK K
  try simp only [Act.put, List.setIfInBounds_toArray, List.set_cons_zero, List.set_cons_succ, List.getElem_toArray, List.getElem_cons_zero, List.getElem_cons_succ]
  refine wpAnyH_ready (rs := [6]) (by kernel_rfl) (by simp) ?_
  refine AllReadyH.cons rfl (fun K hK => ?_) AllReadyH.nil
  go_simp
  (try go_wp2_with fail)
  refine hK.out _ _ (HS5.out) (fun hHeld => ?_)
  clear hK K
  try simp only [Act.put, List.setIfInBounds_toArray, List.set_cons_zero, List.set_cons_succ, List.getElem_toArray, List.getElem_cons_zero, List.getElem_cons_succ]
  refine wpAnyH_take (i := 7) (v := ?_) rfl (by kernel_rfl) (by kernel_rfl) (by kernel_rfl) (fun _ _ _ h => h) (Or.inl ⟨by kernel_rfl, ?_⟩) (by assumption) ?_
  rotate_left
  · intro w hSw
    (try dsimp only at hSw)
    go_simp
    (try with_reducible rfl)
  try simp only [Act.put, List.setIfInBounds_toArray, List.set_cons_zero, List.set_cons_succ, List.getElem_toArray, List.getElem_cons_zero, List.getElem_cons_succ]
  refine wpAnyH_done (by kernel_rfl) ?_ _
  go_wp2_with fail
  refine bodyPost_ret (v := .tuple #[.agg #[.bool s2, .slice A2 n2 c2, .slice E2 m2 d2], .agg #[.bool s5, .slice A5 n5 c5, .slice E5 m5 d5], .int .i64 0]) (by simp [results, Tryz.results44, go_sem, r0, r1, r2, u0, u1, u2]) rfl ?_
  obtain ⟨P9, x9⟩ := two_puts (y0 := .bool s2) (y1 := .slice A2 n2 c2) (y2 := .slice E2 m2 d2) (z0 := .bool s5) (z1 := .slice A5 n5 c5) (z2 := .slice E5 m5 d5) B9 C9 (by omega) (bb hb0 x5) (by omega) (by omega)
  exact ⟨_, _, _, _, _, _, _, _, _, _, _, _, _, _, rfl, P9 _ _ _ _ _ _ _ _ (q3.below y5), fun _ => P9 _ _ _ _ _ _ _ _ q5, x9⟩

set_option maxRecDepth 100000 in
set_option maxHeartbeats 8000000 in
theorem gv_sqrt_no {w : World} {s_y : Bool} {A_y D_y : Option Addr} {n_y c_y m_y d_y : Nat} {X_y : Rat} {s_va : Bool} {A_va D_va : Option Addr} {n_va c_va m_va d_va : Nat} {X_va : Rat} {s_vb : Bool} {A_vb D_vb : Option Addr} {n_vb c_vb m_vb d_vb : Nat} {X_vb : Rat} {s_g : Bool} {A_g D_g : Option Addr} {n_g c_g m_g d_g : Nat} {X_g : Rat} {q : RQ} {a b : Int} (q_y : Q w s_y A_y n_y c_y D_y m_y d_y X_y) (z_y : Sz X_y 64) (q_va : Q w s_va A_va n_va c_va D_va m_va d_va X_va) (z_va : Sz X_va 64) (q_vb : Q w s_vb A_vb n_vb c_vb D_vb m_vb d_vb X_vb) (z_vb : Sz X_vb 64) (q_g : Q w s_g A_g n_g c_g D_g m_g d_g X_g) (z_g : Sz X_g 64) (h0 : X_y + X_y = 0) :
    Calls Tryz.prog 44 #[.agg #[.int .i64 8, .int .i64 a, .int .i64 b, .bool q.s, .slice q.A q.n q.c, .slice q.A' q.n' q.c'], .agg #[.bool s_y, .slice A_y n_y c_y, .slice D_y m_y d_y], .agg #[.bool s_va, .slice A_va n_va c_va, .slice D_va m_va d_va, .bool s_vb, .slice A_vb n_vb c_vb, .slice D_vb m_vb d_vb], .agg #[.bool s_g, .slice A_g n_g c_g, .slice D_g m_g d_g]] w (RetGvNo w) := by
  obtain ⟨V, hW, Bx, By, Bv, Bg, Br, Bs, hb0, hsz⟩ := boxesW 52 45 74 45 45 45 w #[.int .i64 8, .int .i64 a, .int .i64 b, .bool q.s, .slice q.A q.n q.c, .slice q.A' q.n' q.c'] #[.bool s_y, .slice A_y n_y c_y, .slice D_y m_y d_y] #[.bool s_va, .slice A_va n_va c_va, .slice D_va m_va d_va, .bool s_vb, .slice A_vb n_vb c_vb, .slice D_vb m_vb d_vb] #[.bool s_g, .slice A_g n_g c_g, .slice D_g m_g d_g] #[.bool false, .slice none 0 0, .slice none 0 0] #[.bool false, .slice none 0 0, .slice none 0 0]
  have hS : ∀ w', Below V.heap.size V w' → w'.cell? ⟨w.heap.size, 0, none⟩ = some (.int .i64 8) ∧ w'.cell? ⟨w.heap.size + 1 + 1 + 1, 0, none⟩ = some (.bool s_g) ∧ w'.cell? ⟨w.heap.size + 1 + 1 + 1, 1, none⟩ = some (.slice A_g n_g c_g) ∧ w'.cell? ⟨w.heap.size + 1 + 1 + 1, 2, none⟩ = some (.slice D_g m_g d_g) ∧ w'.cell? ⟨w.heap.size + 1 + 1, 0, none⟩ = some (.bool s_va) ∧ w'.cell? ⟨w.heap.size + 1 + 1, 1, none⟩ = some (.slice A_va n_va c_va) ∧ w'.cell? ⟨w.heap.size + 1 + 1, 2, none⟩ = some (.slice D_va m_va d_va) ∧ w'.cell? ⟨w.heap.size + 1 + 1, 3, none⟩ = some (.bool s_vb) ∧ w'.cell? ⟨w.heap.size + 1 + 1, 4, none⟩ = some (.slice A_vb n_vb c_vb) ∧ w'.cell? ⟨w.heap.size + 1 + 1, 5, none⟩ = some (.slice D_vb m_vb d_vb) ∧ w'.cell? ⟨w.heap.size + 1, 0, none⟩ = some (.bool s_y) ∧ w'.cell? ⟨w.heap.size + 1, 1, none⟩ = some (.slice A_y n_y c_y) ∧ w'.cell? ⟨w.heap.size + 1, 2, none⟩ = some (.slice D_y m_y d_y) := fun w' hb => ⟨(Bx.below' hb).six.1.1, (Bg.below' hb).three.1.1, (Bg.below' hb).three.1.2.1, (Bg.below' hb).three.1.2.2, (Bv.below' hb).six.1.1, (Bv.below' hb).six.1.2.1, (Bv.below' hb).six.1.2.2.1, (Bv.below' hb).six.1.2.2.2.1, (Bv.below' hb).six.1.2.2.2.2.1, (Bv.below' hb).six.1.2.2.2.2.2, (By.below' hb).three.1.1, (By.below' hb).three.1.2.1, (By.below' hb).three.1.2.2⟩
  have hY : ∀ w', Below V.heap.size V w' → w'.cell? ⟨w.heap.size + 1, 0, none⟩ = some (.bool s_y) ∧ w'.cell? ⟨w.heap.size + 1, 1, none⟩ = some (.slice A_y n_y c_y) ∧ w'.cell? ⟨w.heap.size + 1, 2, none⟩ = some (.slice D_y m_y d_y) := fun w' hb => ⟨(By.below' hb).three.1.1, (By.below' hb).three.1.2.1, (By.below' hb).three.1.2.2⟩
  have H_y := Lib.hid (fun (w1 : World) (hb : Below V.heap.size V w1) => q_y.below (bb hb0 hb))
  have H_va := Lib.hid (fun (w1 : World) (hb : Below V.heap.size V w1) => q_va.below (bb hb0 hb))
  have H_vb := Lib.hid (fun (w1 : World) (hb : Below V.heap.size V w1) => q_vb.below (bb hb0 hb))
  have H_g := Lib.hid (fun (w1 : World) (hb : Below V.heap.size V w1) => q_g.below (bb hb0 hb))
  have HBr := Lib.hid Br
  have HBs := Lib.hid Bs
  have HW := Lib.hid hW
  have HBy := Lib.hid By
  have HS := Lib.hid hS
  have HY := Lib.hid hY
  have HZ := Lib.hid (show decide (X_y + X_y = 0) = true from decide_eq_true h0)
  have HN := Lib.hid h0
  clear hS hY h0 Bx By Bv Bg Br Bs hW q_y q_va q_vb q_g
  go_enter Tryz.func44, Tryz.ntmps44
  go_upto_region 11 with (fail)
  rw [HW.out]
  obtain ⟨p0, p1, p2, p3, p4, p5, p6, p7, p8, p9, p10, p11, p12⟩ := HS.out _ (Below.refl _ V)
  obtain ⟨V1, hV1, C1, b0⟩ := box0 45 V #[.bool s_va, .slice A_va n_va c_va, .slice D_va m_va d_va]
  rw [hsz] at C1
  have HV1 := Lib.hid hV1
  have HC1 := Lib.hid C1
  clear hV1 C1
  obtain ⟨⟨a0, a1, a2⟩, a3, a4, a5⟩ := HC1.out.three
  obtain ⟨p0, p1, p2, p3, p4, p5, p6, p7, p8, p9, p10, p11, p12⟩ := HS.out _ b0
  go_wp2_with fail
  rw [HV1.out]
  with_reducible refine (rf_twice (H_y.out _ b0) z_y (by omega)).mono ?_
  rintro _ w9 ⟨s9, A9, n9, c9, E9, m9, d9, rfl, q9, b9⟩
  have x9 : Below V.heap.size V w9 := bb b0 b9
  have D9 := HC1.out.below' b9
  obtain ⟨⟨a0, a1, a2⟩, a3, a4, a5⟩ := D9.three
  obtain ⟨p0, p1, p2, p3, p4, p5, p6, p7, p8, p9, p10, p11, p12⟩ := HS.out _ x9
  go_upto_region 16 with (fail)
  obtain ⟨wa, hVa⟩ : ∃ W, ((w9.setCell ⟨w.heap.size + 1 + 1 + 1 + 1 + 1 + 1, 0, none⟩ (.bool s9)).setCell ⟨w.heap.size + 1 + 1 + 1 + 1 + 1 + 1, 1, none⟩ (.slice A9 n9 c9)).setCell ⟨w.heap.size + 1 + 1 + 1 + 1 + 1 + 1, 2, none⟩ (.slice E9 m9 d9) = W := ⟨_, rfl⟩
  rw [hVa]
  have Da : Box 45 wa (w.heap.size + 1 + 1 + 1 + 1 + 1 + 1) #[.bool s9, .slice A9 n9 c9, .slice E9 m9 d9] := by rw [← hVa]; exact box_self D9 _ _ _
  have xa : Below V.heap.size V wa := by rw [← hVa]; exact below_put3 x9 (by omega) (Nat.le_refl _) _ _ _
  have qa : Q wa s9 A9 n9 c9 E9 m9 d9 (X_y + X_y) := by rw [← hVa]; exact q9.put3 (x0 := .bool s9) (x1 := .slice A9 n9 c9) (x2 := .slice E9 m9 d9) ⟨_, _, _, _, _, _, _, D9⟩
  have HDa := Lib.hid Da
  obtain ⟨⟨a0, a1, a2⟩, a3, a4, a5⟩ := Da.three
  clear Da D9 hVa
  obtain ⟨p0, p1, p2, p3, p4, p5, p6, p7, p8, p9, p10, p11, p12⟩ := HS.out _ xa
  go_wp2_with fail
  with_reducible refine (ref_zeroE qa (z_y.add z_y) true HZ.out).mono ?_
  rintro _ w1 ⟨rfl, b1⟩
  have x1 : Below V.heap.size V w1 := bb xa b1
  have HD1 := Lib.hid (HDa.out.below' b1)
  obtain ⟨⟨a0, a1, a2⟩, a3, a4, a5⟩ := HD1.out.three
  obtain ⟨p0, p1, p2, p3, p4, p5, p6, p7, p8, p9, p10, p11, p12⟩ := HS.out _ x1
  have B9 := HBr.out.below' x1
  have C9 := HBs.out.below' x1
  obtain ⟨⟨r0, r1, r2⟩, f0, f1, f2⟩ := B9.three
  obtain ⟨⟨u0, u1, u2⟩, g0, g1, g2⟩ := C9.three
  go_wp2_with fail
  refine bodyPost_ret (v := .tuple #[.agg #[.bool false, .slice none 0 0, .slice none 0 0], .agg #[.bool false, .slice none 0 0, .slice none 0 0], .int .i64 4]) (by simp [results, Tryz.results44, go_sem, r0, r1, r2, u0, u1, u2]) rfl ?_
  obtain ⟨P9, x9⟩ := two_puts (y0 := .bool false) (y1 := .slice none 0 0) (y2 := .slice none 0 0) (z0 := .bool false) (z1 := .slice none 0 0) (z2 := .slice none 0 0) B9 C9 (by omega) (bb hb0 x1) (by omega) (by omega)
  exact ⟨rfl, x9⟩

end Go.Proofs.YtfhihapgjiaobaaGreat
